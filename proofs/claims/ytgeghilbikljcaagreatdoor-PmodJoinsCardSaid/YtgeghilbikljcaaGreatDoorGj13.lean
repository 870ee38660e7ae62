/-
  Layer 6, the program's parser: what its rules tell of any tokens from any place on.
-/
import Derived.Test.YtgeghilbikljcaaGreatDoorGj12
set_option maxHeartbeats 40000000
set_option maxRecDepth 100000
namespace Go.Proofs.YtgeghilbikljcaaGreatDoor
open Go.RowKit Go.Maps
theorem PaT.imp {S:Nat->Prop} {b:Nat} {v:Value} {R:Rs Tr} {J J':Tr->World->Prop} {w:World} {en:Ending} {w':World} (h:PaT S b v R J w en w') (hJ:∀t j,R = .inl (t,j)->Gs S w w'->J t w'->J' t w'):PaT S b v R J' w en w':=by
 obtain⟨A,h1,h2,h3⟩:=h;refine⟨A,h1,h2,?_⟩
 cases R with
 | inr e=>exact h3
 | inl e=>exact⟨h3.1,h3.2.1,hJ _ _ rfl h2 h3.2.2⟩
def arW (b:Nat) (k:Int) (w:World):World:=(w.alloc (.cells #[.pointer (some ⟨b,0,none⟩)] 129)).alloc (.cells #[.int .i64 k] 3)
theorem nB (b:Nat) (k:Int) (w:World):Up w (arW b k w):=((Up.refl w).alloc _).alloc _
theorem eK (b:Nat) (k:Int) (w:World):(arW b k w).heap[w.heap.size+1]? = some (.cells #[.int .i64 k] 3 (0,0)):=yU _ _ (by simp)
theorem PaT.base {b:Nat} {v:Value} {R:Rs Tr} {a w w':World} {en:Ending} (u:Up a w) (h:PaT (On b) b v R (fun _ _=>True) w en w'):PaT (On b) b v R (fun _ _=>True) a en w':=by
 obtain⟨A,h1,h2,h3⟩:=h;refine⟨A,h1,(Gs.of u).trans h2,?_⟩
 cases R with
 | inr e=>exact h3
 | inl e=>exact⟨h3.1.base u.size,h3.2.1,trivial⟩
theorem nZ (b:Nat) (v:Value) (R:Rs Tr) (w:World) (hb:b<w.heap.size) (cN:∀w',Up (arW b 5 w) w'->Calls Tryz.prog 157 #[.pointer (some ⟨b,0,none⟩),.string jX,.func (.func 158) #[.agg #[.pointer (some ⟨b,0,none⟩)]] #[],jv (w.heap.size+1)] w' (PaT (On b) b v R (fun _ _=>True) w')) :
  Calls Tryz.prog 124 #[.agg #[.pointer (some ⟨b,0,none⟩)]] w (PaT (On b) b v R (fun _ _=>True) w):=by
 have HN:=Lib.hid cN;have HW:Hid (arW b 5 w=(w.alloc (.cells #[.pointer (some ⟨b,0,none⟩)] 129)).alloc (.cells #[.int .i64 5] 3)):=Lib.hid rfl;have hb0:w.heap.size≠b:=by omega
 clear cN
 go_enter Tryz.func124,Tryz.ntmps124
 go_wp2_with fail;obtain⟨W0,hW0⟩:∃W0,w.alloc (.cells #[.pointer (some ⟨b,0,none⟩)] 129)=W0:=⟨_,rfl⟩;have r0:W0.heap[w.heap.size]? = some (.cells #[.pointer (some ⟨b,0,none⟩)] 129 (0,0)):=by rw[<- hW0];exact heap_alloc_new w _
 have c0:W0.cell? ⟨w.heap.size,0,none⟩=some (.pointer (some ⟨b,0,none⟩)):=cell_of_row W0 w.heap.size 0 _ _ _ r0;have z0:W0.heap.size=w.heap.size+1:=by rw[<- hW0];simp
 have hz0:w.heap.size<W0.heap.size:=by omega
 have HW0:=Lib.hid hW0;have HZ0:=Lib.hid z0;have R0:=Lib.hid r0;rw[hW0];clear hW0 r0 z0
 go_region_held3 (fun w'=>w'.cell? ⟨w.heap.size,0,none⟩=some (.pointer (some ⟨b,0,none⟩))) (first | go_keep | assumption)
  (first
   | (go_at_call 159;refine(bE 5 _).mono ?_;rintro e w2 ⟨he,h2⟩;obtain rfl:e = .returned (jv (w.heap.size+1)):=(by rw[he,<- HZ0.out];rfl);have c2:w2.cell? ⟨w.heap.size,0,none⟩=some (.pointer (some ⟨b,0,none⟩)):=(by rw[h2];exact cell_of_row _ _ 0 _ _ _ (yF _ (show _=_ from R0.out)));have U2:Hid (Up (arW b 5 w) w2):=Lib.hid (by rw[h2,HW.out,HW0.out];exact⟨rfl,rfl,rfl,Nat.le_refl _,fun _ _=>rfl⟩);clear h2 he)
   | (go_at_call 157;refine(HN.out _ U2.out).mono ?_;rintro e w3 ⟨A,rfl,h⟩;have c3:w3.cell? ⟨w.heap.size,0,none⟩=some (.pointer (some ⟨b,0,none⟩)):=h.1.cell c2 (by unfold On;exact hb0);have H3:=Lib.hid h;clear h))
 all_goals (first | go_wp2_with fail | skip)
 all_goals go_ret
 all_goals exact PaT.base ((nB b 5 w).trans U2.out) ⟨_,rfl,H3.out⟩
theorem gP (b:Nat) (v:Value) (R:Rs Tr) (w:World) (hb:b<w.heap.size) (cN:∀w',Up (arW b 6 w) w'->Calls Tryz.prog 157 #[.pointer (some ⟨b,0,none⟩),.string kStar,.func (.func 181) #[.agg #[.pointer (some ⟨b,0,none⟩)]] #[],jv (w.heap.size+1)] w' (PaT (On b) b v R (fun _ _=>True) w')) :
  Calls Tryz.prog 158 #[.agg #[.pointer (some ⟨b,0,none⟩)]] w (PaT (On b) b v R (fun _ _=>True) w):=by
 have HN:=Lib.hid cN;have HW:Hid (arW b 6 w=(w.alloc (.cells #[.pointer (some ⟨b,0,none⟩)] 129)).alloc (.cells #[.int .i64 6] 3)):=Lib.hid rfl;have hb0:w.heap.size≠b:=by omega
 clear cN
 go_enter Tryz.func158,Tryz.ntmps158
 go_wp2_with fail;obtain⟨W0,hW0⟩:∃W0,w.alloc (.cells #[.pointer (some ⟨b,0,none⟩)] 129)=W0:=⟨_,rfl⟩;have r0:W0.heap[w.heap.size]? = some (.cells #[.pointer (some ⟨b,0,none⟩)] 129 (0,0)):=by rw[<- hW0];exact heap_alloc_new w _
 have c0:W0.cell? ⟨w.heap.size,0,none⟩=some (.pointer (some ⟨b,0,none⟩)):=cell_of_row W0 w.heap.size 0 _ _ _ r0;have z0:W0.heap.size=w.heap.size+1:=by rw[<- hW0];simp
 have hz0:w.heap.size<W0.heap.size:=by omega
 have HW0:=Lib.hid hW0;have HZ0:=Lib.hid z0;have R0:=Lib.hid r0;rw[hW0];clear hW0 r0 z0
 go_region_held3 (fun w'=>w'.cell? ⟨w.heap.size,0,none⟩=some (.pointer (some ⟨b,0,none⟩))) (first | go_keep | assumption)
  (first
   | (go_at_call 159;refine(bE 6 _).mono ?_;rintro e w2 ⟨he,h2⟩;obtain rfl:e = .returned (jv (w.heap.size+1)):=(by rw[he,<- HZ0.out];rfl);have c2:w2.cell? ⟨w.heap.size,0,none⟩=some (.pointer (some ⟨b,0,none⟩)):=(by rw[h2];exact cell_of_row _ _ 0 _ _ _ (yF _ (show _=_ from R0.out)));have U2:Hid (Up (arW b 6 w) w2):=Lib.hid (by rw[h2,HW.out,HW0.out];exact⟨rfl,rfl,rfl,Nat.le_refl _,fun _ _=>rfl⟩);clear h2 he)
   | (go_at_call 157;refine(HN.out _ U2.out).mono ?_;rintro e w3 ⟨A,rfl,h⟩;have c3:w3.cell? ⟨w.heap.size,0,none⟩=some (.pointer (some ⟨b,0,none⟩)):=h.1.cell c2 (by unfold On;exact hb0);have H3:=Lib.hid h;clear h))
 all_goals (first | go_wp2_with fail | skip)
 all_goals go_ret
 all_goals exact PaT.base ((nB b 6 w).trans U2.out) ⟨_,rfl,H3.out⟩
theorem uC {w:World} {B B':Nat} {e:TypeId} {v:Value} {n:Nat} {xs:List Value} (h:w.ownsRow B e 1 v n xs) (hB:B'<=B):w.ownsRow B' e 1 v n xs:=by
 refine⟨h.1,?_⟩
 rcases h.2 with h2 | ⟨g,cap,cur,h3,h4,h5⟩
 ·exact .inl h2
 ·exact .inr ⟨g,cap,cur,h3,Nat.le_trans hB h4,h5⟩
def consW (b:Nat) (w:World):World:=((w.alloc (.cells #[.pointer (some ⟨b,0,none⟩)] 129)).alloc (.map #[] 0)).alloc (.cells #[.map (some (w.heap.size+1))] 148)
theorem lH (b:Nat) (w:World):Up w (consW b w):=(((Up.refl w).alloc _).alloc _).alloc _
theorem fJ (b:Nat) (w:World):(consW b w).heap.size=w.heap.size+3:=by simp[consW]
theorem bH (b:Nat) (w:World):(consW b w).heap[w.heap.size]? = some (.cells #[.pointer (some ⟨b,0,none⟩)] 129 (0,0)):=yF _ (yF _ (heap_alloc_new w _))
theorem uD (b:Nat) (w:World):StC (consW b w) (w.heap.size+2) (w.heap.size+1) []:=by
 refine⟨yU _ _ (by simp),by omega,?_⟩;have hm:((w.alloc (.cells #[.pointer (some ⟨b,0,none⟩)] 129)).alloc (.map #[] 0)).ownsMap Tryz.prog 9 (unitElem (H:=Unit)) (w.alloc (.cells #[.pointer (some ⟨b,0,none⟩)] 129)).heap.size 0 (.map []):=World.ownsMap_made _ _ _ _;rw[World.size_alloc] at hm;exact tZ hm ((Below.refl _ _).alloc (Nat.le_refl _) _)
theorem bI (b:Nat) (v:Value) (R:Rs Fr) (J:Fr->World->Prop) (w:World)
  (hrow:Calls Tryz.prog 179 #[.pointer (some ⟨b,0,none⟩),.string kBar,.func (.func 192) #[] #[.pointer (some ⟨w.heap.size,0,none⟩),.pointer (some ⟨w.heap.size+2,0,none⟩)]] (consW b w) (RowP (Two b (w.heap.size+1)) b v R J (consW b w))) :
  Calls Tryz.prog 164 #[.agg #[.pointer (some ⟨b,0,none⟩)]] w (RowP (On b) b v R (fun _ _=>True) w):=by
 have hmm:∀W:World,(Instr.makeMap 148 none).run Tryz.prog W = .ok (.map (some W.heap.size)) (W.alloc (.map #[] 0)):=fun W=>by kernel_rfl
 have HW:Hid (consW b w=((w.alloc (.cells #[.pointer (some ⟨b,0,none⟩)] 129)).alloc (.map #[] 0)).alloc (.cells #[.map (some (w.heap.size+1))] 148)):=Lib.hid rfl;have HR:=Lib.hid hrow;clear hrow
 go_enter Tryz.func164,Tryz.ntmps164
 go_wp2_with fail;refine Calls.mono HR.out ?_;rintro en w1 ⟨vo,ps,rfl,⟨ho,hpt⟩,hp0,hpl,g1,hR⟩;have hG1:=Lib.hid g1;have hHR:=Lib.hid hR;clear g1 hR HR;go_wp2_with fail
 go_ret
 have hz:=fJ b w;have hu:=lH b w;refine⟨vo,ps,rfl,⟨uC ho (by omega),hpt⟩,hp0,hpl,⟨hG1.out.os.trans hu.os,hG1.out.tape.trans hu.tape,hG1.out.output.trans hu.output,Nat.le_trans hu.size hG1.out.size,fun k hk hn=>(hG1.out.block k (by omega) (by rintro(h | h);exact hn h;omega)).trans (hu.block k hk)⟩,?_⟩;have h:=hHR.out
 cases R with
 | inr e=>exact h
 | inl e=>
  obtain⟨h1,h2,-⟩:=h;exact⟨PtF.keep (fun q hq=>⟨⟨by have:=hq.1.1;omega,hq.1.2⟩,hq.2⟩) (fun _ _=>rfl) h1,h2,trivial⟩
section
variable {nk lg:ByteArray->Bool}
structure Prs (nk lg:ByteArray->Bool) (V0:World) (v:Value) (l:List Tk) (b:Nat):Prop where
 T:Toks nk lg V0 v l
 P:Pl V0
 hb:V0.heap.size<=b
 hl:l.length<=100000
 hz:∀t∈l,t.s.size<=1000000000
theorem zLq {p:ByteArray->Bool} {l:List Tk} {i:Nat} {s:ByteArray} (hz:∀t∈l,t.s.size<=1000000000) (h:nam p l i=some s):s.size<=1000000000:=by
 unfold nam at h
 split at h
 ·rename_i t ht
  split at h
  ·rw[<- Option.some.inj h];exact hz t (List.mem_of_getElem? ht)
  ·cases h
 ·cases h
section
variable {V0:World} {v:Value} {l:List Tk} {b:Nat}
theorem zSw (Q:Prs nk lg V0 v l b) (i:Nat) (r:Int) (hr:¬r=0) (hi:i<=1000000) (w:World) (h:Psr w b v i r) (hu:Up V0 w):Calls Tryz.prog 181 #[.agg #[.pointer (some ⟨b,0,none⟩)]] w (PaT (On b) b v (.inr (i,r)) (fun _ _=>True) w):=by
 have c:=mZ b v i r w Q.T h hu Q.hb (Q.P.up hu) hi (fun k _=>zE hr) (zE hr) (zE hr);unfold nameR at c;rw[if_neg hr] at c;exact c
theorem uE (Q:Prs nk lg V0 v l b) (i:Nat) (r:Int) (hr:¬r=0) (hi:i<=1000000) (w:World) (h:Psr w b v i r) (hu:Up V0 w):Calls Tryz.prog 158 #[.agg #[.pointer (some ⟨b,0,none⟩)]] w (PaT (On b) b v (.inr (i,r)) (fun _ _=>True) w):=by
 have hb:=qC h;refine gP b v _ w hb fun w' u0=>?_
 have u1:=(nB b 6 w).trans u0;have ua:=u1.alloc (.cells #[jv (w.heap.size+1)] 155);have hz:=u1.size;exact vG b v kStar 6 _ (.inr (i,r)) (fun _ _=>True) w' (by omega) (w.heap.size+1) (u0.row (eK b 6 w)) (by omega)
  (pY (l:=l) b v (On b) (fun k hk=>by rw[hk,World.size_alloc];omega) rfl (fun k hk=>by rw[hk];exact Q.hb) kStar 181 #[.agg #[.pointer (some ⟨b,0,none⟩)]] #[] (fun _ _=>by kernel_rfl) i r hr _ rfl (fun _ _=>True)
   (zSw Q i r hr hi _ (h.up ua) (hu.trans ua)) (fun _ _=>True) Q.T (hu.trans ua) hi)
theorem vH (Q:Prs nk lg V0 v l b) (i:Nat) (r:Int) (hr:¬r=0) (hi:i<=1000000) (w:World) (h:Psr w b v i r) (hu:Up V0 w):Calls Tryz.prog 124 #[.agg #[.pointer (some ⟨b,0,none⟩)]] w (PaT (On b) b v (.inr (i,r)) (fun _ _=>True) w):=by
 have hb:=qC h;refine nZ b v _ w hb fun w' u0=>?_
 have u1:=(nB b 5 w).trans u0;have ua:=u1.alloc (.cells #[jv (w.heap.size+1)] 155);have hz:=u1.size;exact vG b v jX 5 _ (.inr (i,r)) (fun _ _=>True) w' (by omega) (w.heap.size+1) (u0.row (eK b 5 w)) (by omega)
  (pY (l:=l) b v (On b) (fun k hk=>by rw[hk,World.size_alloc];omega) rfl (fun k hk=>by rw[hk];exact Q.hb) jX 158 #[.agg #[.pointer (some ⟨b,0,none⟩)]] #[] (fun _ _=>by kernel_rfl) i r hr _ rfl (fun _ _=>True)
   (uE Q i r hr hi _ (h.up ua) (hu.trans ua)) (fun _ _=>True) Q.T (hu.trans ua) hi)
theorem eL (Q:Prs nk lg V0 v l b) {o:Option ByteArray} {j:Nat} (ho:nam nk l j=o) (w:World) (h:Psr w b v j 0) (hu:Up V0 w):Calls Tryz.prog 116 #[.pointer (some ⟨b,0,none⟩),.func (.func 75) #[] #[]] w (AnP (.string (o.getD nob)) o.isSome w):=by
 have c:=zY6 b v j 0 (.string (o.getD nob)) o.isSome w (fun w' u=>by rw[<- ho];exact Q.T.name j w' (hu.trans u)) h;rw[if_pos rfl,decide_eq_true rfl,Bool.true_and] at c;exact c
theorem zLr (Q:Prs nk lg V0 v l b) {j:Nat} {r:Int} (hr:¬r=0) (w:World) (h:Psr w b v j r) (hu:Up V0 w):Calls Tryz.prog 116 #[.pointer (some ⟨b,0,none⟩),.func (.func 75) #[] #[]] w (AnP (.string nob) false w):=by
 have c:=zY6 b v j r (.string ((nam nk l j).getD nob)) (nam nk l j).isSome w (fun w' u=>Q.T.name j w' (hu.trans u)) h;rw[if_neg hr,decide_eq_false hr,Bool.false_and] at c;exact c
theorem gQ (Q:Prs nk lg V0 v l b) {o:Option ByteArray} {j:Nat} (hj:j<=1000000) (e:Int) (ho:e=0->nam nk l j=o) (w:World) (hu:Up V0 w) (h:Psr w b v j e):Calls Tryz.prog 44 #[.pointer (some ⟨b,0,none⟩),.func (.func 75) #[] #[]] w (NmP b v (nmS o e) (nmI o j e) (nmE o e) w):=by
 have c:=eI b v j e (nam nk l j) w (fun w' u=>Q.T.name j w' (hu.trans u)) h hj
 by_cases he:e=0
 ·rw[ho he] at c
  exact c
 ·have e1:∀o:Option ByteArray,nmS o e=nob/\nmI o j e=j/\nmE o e=e:=fun o=>⟨if_neg he,if_neg he,if_neg he⟩
  rw[(e1 _).1,(e1 _).2.1,(e1 _).2.2] at c;rw[(e1 _).1,(e1 _).2.1,(e1 _).2.2];exact c
theorem zSx (Q:Prs nk lg V0 v l b) (acc:Fr) (j:Nat) (hj:j<=l.length) (hacc:acc.len<=j) (B1 pb mb:Nat) (w:World) (h:Psr w b v j 0) (hu:Up V0 w) (hmW:V0.heap.size<=mb) (hB1:w.heap[B1]? = some (.cells #[.pointer (some ⟨b,0,none⟩)] 129 (0,0))) (hst:StC w pb mb (yG acc)) (n1:B1≠b) (n2:B1≠mb) (n3:pb≠b) (n4:mb≠b)
  (cA:∀k w',j<k->k<=l.length->Up V0 w'->Psr w' b v k 0->Calls Tryz.prog 124 #[.agg #[.pointer (some ⟨b,0,none⟩)]] w' (PaT (On b) b v (typL nk lg l k) (fun _ _=>True) w')) :
  Calls Tryz.prog 192 #[.pointer (some ⟨B1,0,none⟩),.pointer (some ⟨pb,0,none⟩)] w (PaT (Two b mb) b v (conS nk lg l acc j) (fun t w'=>StC w' pb mb (yG (acc.app (fr1 t)))) w):=by
 have hl:=Q.hl;have hN:(yG acc).length<=200000:=by rw[lE];omega
 have hsW:∀q,Two b mb q->V0.heap.size<=q:=fun q hq=>by have:=Q.hb;rcases hq with hq | hq<;>omega
 have eW:∀w',Gs (Two b mb) w w'->Up V0 w':=fun w' g=>g.up hu hsW
 unfold conS
 cases ho:nam nk l j with
 | none=>
  have e1:coI l none j 0=j:=by unfold coI;show neI j (tkB l j 6 kOf)=j;rw[zE (by decide)];rfl
  have e2:coE l none j 0=6:=by unfold coE;show neE 6 (tkB l j 6 kOf)=6;rw[zE (by decide)];rfl
  have c:=oZ (nk:=nk) (lg:=lg) (l:=l) b v j 0 B1 pb mb (yG acc) w Q.T h hu Q.hb hmW (by omega) hN hB1 hst n1 n2 n3 n4 (eL Q ho w h hu) (fun w' u p=>gQ Q (by omega) 0 (fun _=>ho) w' u p) (by decide) trivial (.inr (j,6)) fun w' g p=>by
   rw[e1,e2] at p;exact vH Q j 6 (by decide) (by omega) w' p (eW w' g)
  exact c.mono fun e w' hp=>hp.imp fun t j' he=>by cases he
 | some s=>
  have hsz:s.size<=2000000000:=by have:=zLq Q.hz ho;omega
  have hjl:=eD ho;simp only
  cases hh:hasN acc s with
  | true=>
   rw[<- zSv] at hh;have e1:coI l (some s) j 9=j:=by unfold coI;show neI j (tkB l j 9 kOf)=j;rw[zE (by decide)];rfl
   have e2:coE l (some s) j 9=9:=by unfold coE;show neE 9 (tkB l j 9 kOf)=9;rw[zE (by decide)];rfl
   have c:=zOq (nk:=nk) (lg:=lg) (l:=l) b v j 0 B1 pb mb (yG acc) w Q.T h hu Q.hb hmW (by omega) hN hB1 hst n1 n2 n3 n4 s 9 rfl (eL Q ho w h hu) (fun w' u p=>gQ Q (by omega) 9 (fun _=>ho) w' u p) hsz hh (.inr (j,9)) fun w' g p=>by
    rw[e1,e2] at p;exact vH Q j 9 (by decide) (by omega) w' p (eW w' g)
   rw[if_pos rfl];exact c.mono fun e w' hp=>hp.imp fun t j' he=>by cases he
  | false=>
   rw[<- zSv] at hh;rw[if_neg (by decide)]
   cases hk:key l (j+1) kOf with
   | false=>
    have e1:coI l (some s) j 0=j+1:=by unfold coI;show neI (j+1) (tkB l (j+1) 0 kOf)=j+1;rw[qQ,hk];rfl
    have e2:coE l (some s) j 0=6:=by unfold coE;show neE 0 (tkB l (j+1) 0 kOf)=6;rw[qQ,hk];rfl
    have c:=zW5 (nk:=nk) (lg:=lg) (l:=l) b v j 0 B1 pb mb (yG acc) w Q.T h hu Q.hb hmW (by omega) hN hB1 hst n1 n2 n3 n4 s (eL Q ho w h hu) (fun w' u p=>gQ Q (by omega) 0 (fun _=>ho) w' u p) hsz hh (.inr (j+1,6)) fun w' g p=>by
     rw[e1,e2] at p;exact vH Q (j+1) 6 (by decide) (by omega) w' p (eW w' g)
    rw[if_neg (by decide)];exact c.mono fun e w' hp=>hp.imp fun t j' he=>by cases he
   | true=>
    have hkl:=zY hk;have e1:coI l (some s) j 0=j+2:=by unfold coI;show neI (j+1) (tkB l (j+1) 0 kOf)=j+2;rw[qQ,hk];rfl
    have e2:coE l (some s) j 0=0:=by unfold coE;show neE 0 (tkB l (j+1) 0 kOf)=0;rw[qQ,hk];rfl
    have c:=zW5 (nk:=nk) (lg:=lg) (l:=l) b v j 0 B1 pb mb (yG acc) w Q.T h hu Q.hb hmW (by omega) hN hB1 hst n1 n2 n3 n4 s (eL Q ho w h hu) (fun w' u p=>gQ Q (by omega) 0 (fun _=>ho) w' u p) hsz hh (typL nk lg l (j+2)) fun w' g p=>by
     rw[e1,e2] at p;exact cA (j+2) w' (by omega) (by omega) (eW w' g) p
    rw[if_pos rfl];have hc:conR (nmS (some s) 0) (typL nk lg l (j+2))=(match typL nk lg l (j+2) with
     | .inr e=>.inr e
     | .inl (t,j)=>.inl (nd 8 s (fr1 t),j)):=rfl
    rw[hc] at c;refine c.mono fun e w' hp=>hp.imp fun t j' he _ hJ=>?_
    have ht:t.1.a=s:=by
     cases hT:typL nk lg l (j+2) with
     | inr e=>rw[hT] at he;cases he
     | inl q=>
      rw[hT] at he;have he:nd 8 s (fr1 q.1)=t:=congrArg Prod.fst (Sum.inl.inj he);rw[<- he]
      rfl
    rw[lD,ht];exact hJ
theorem uG (Q:Prs nk lg V0 v l b) (i:Nat) (r:Int) (hr:¬r=0) (hi:i<=500000) (w:World) (h:Psr w b v i r) (hu:Up V0 w):Calls Tryz.prog 164 #[.agg #[.pointer (some ⟨b,0,none⟩)]] w (RowP (On b) b v (.inr (i,r)) (fun _ _=>True) w):=by
 have hb:=qC h;have hz:=hu.size;have u3:=lH b w;have z3:=fJ b w;have hbV:=Q.hb;have hsW:∀q,Two b (w.heap.size+1) q->V0.heap.size<=q:=fun q hq=>by rcases hq with hq | hq<;>omega
 have p3:=h.up u3;refine bI b v _ (fun _ _=>True) w (pY (l:=l) b v (Two b (w.heap.size+1)) (fun k hk=>by rcases hk with hk | hk<;>omega) (.inl rfl) hsW kBar 192 #[] #[.pointer (some ⟨w.heap.size,0,none⟩),.pointer (some ⟨w.heap.size+2,0,none⟩)] (fun _ _=>by kernel_rfl) i r hr (.inr (i,r)) rfl (fun _ _=>True) ?_ (fun _ _=>True) Q.T (hu.trans u3) (by omega))
 have e0:(#[]++#[.pointer (some ⟨w.heap.size,0,none⟩),.pointer (some ⟨w.heap.size+2,0,none⟩)]:Array Value)=#[.pointer (some ⟨w.heap.size,0,none⟩),.pointer (some ⟨w.heap.size+2,0,none⟩)]:=by simp
 rw[e0];have e1:coI l none i r=i:=by unfold coI nmI nmE;rw[if_neg hr,if_neg hr,zE hr];rfl
 have e2:coE l none i r=r:=by unfold coE nmI nmE;rw[if_neg hr,if_neg hr,zE hr];exact tY hr
 have c:=oZ (nk:=nk) (lg:=lg) (l:=l) b v i r w.heap.size (w.heap.size+2) (w.heap.size+1) [] (consW b w) Q.T p3 (hu.trans u3) hbV (by omega) hi (by simp) (bH b w) (uD b w) (by omega) (by omega) (by omega) (by omega) (zLr Q hr _ p3 (hu.trans u3)) (fun w' u p=>gQ Q (by omega) r (fun h=>absurd h hr) w' u p) (by decide) trivial (.inr (i,r)) fun w' g p=>by
  rw[e1,e2] at p;exact vH Q i r hr (by omega) w' p (g.up (hu.trans u3) hsW)
 exact c.mono fun e w' hp=>hp.imp fun _ _ _ _ _=>trivial
def ArrAt (nk lg:ByteArray->Bool) (V0:World) (v:Value) (l:List Tk) (b k:Nat):Prop:=∀w,Up V0 w->Psr w b v k 0->Calls Tryz.prog 124 #[.agg #[.pointer (some ⟨b,0,none⟩)]] w (PaT (On b) b v (typL nk lg l k) (fun _ _=>True) w)
def eM (nk lg:ByteArray->Bool) (V0:World) (v:Value) (l:List Tk) (b k:Nat):Prop:=∀w,Up V0 w->Psr w b v k 0->Calls Tryz.prog 158 #[.agg #[.pointer (some ⟨b,0,none⟩)]] w (PaT (On b) b v (prodL nk lg l k) (fun _ _=>True) w)
def eN (nk lg:ByteArray->Bool) (V0:World) (v:Value) (l:List Tk) (b k:Nat):Prop:=∀w,Up V0 w->Psr w b v k 0->Calls Tryz.prog 181 #[.agg #[.pointer (some ⟨b,0,none⟩)]] w (PaT (On b) b v (atomL nk lg l k) (fun _ _=>True) w)
def eO (nk lg:ByteArray->Bool) (V0:World) (v:Value) (l:List Tk) (b k:Nat):Prop:=∀w,Up V0 w->Psr w b v k 0->Calls Tryz.prog 164 #[.agg #[.pointer (some ⟨b,0,none⟩)]] w (RowP (On b) b v (consL nk lg l k .nil) (fun _ _=>True) w)
theorem eP (Q:Prs nk lg V0 v l b) (i:Nat) (hi:i<=l.length) (cA:∀j,i<=j->j<=l.length->eN nk lg V0 v l b j):eM nk lg V0 v l b i:=fun w hu h=>by
 have hb:=qC h;rw[<- zVi l i hi];refine gP b v _ w hb fun w' u0=>?_
 have u1:=(nB b 6 w).trans u0;have ua:=u1.alloc (.cells #[jv (w.heap.size+1)] 155);have hz:=u1.size;exact vG b v kStar 6 _ (rowL l kStar (fun _=>atomL nk lg l) .nil i) (fun _ _=>True) w' (by omega) (w.heap.size+1) (u0.row (eK b 6 w)) (by omega)
  (pW (W0:=V0) (l:=l) b v (On b) (fun k hk=>by rw[hk,World.size_alloc];omega) rfl (fun k hk=>by rw[hk];exact Q.hb) kStar (fun _=>atomL nk lg l) (fun _=>vV l) (fun _ i hi=>zSg l i hi) 181 #[.agg #[.pointer (some ⟨b,0,none⟩)]] #[] (fun _ _=>by kernel_rfl)
   (fun _ _=>True) (fun _ _ _ _ _=>trivial) (rowL l kStar (fun _=>atomL nk lg l)) (fun acc j hj=>wR (fun _=>vV l) acc j hj) i hi (fun acc j w' h1 h2 _ g _ p=>cA j h1 h2 w' (g.up (hu.trans ua) fun k hk=>by rw[hk];exact Q.hb) p) Q.T (hu.trans ua) Q.hl (h.up ua) trivial)
theorem uH (Q:Prs nk lg V0 v l b) (i:Nat) (hi:i<=l.length) (cA:∀j,i<=j->j<=l.length->eM nk lg V0 v l b j):ArrAt nk lg V0 v l b i:=fun w hu h=>by
 have hb:=qC h;rw[<- zSh l i hi];refine nZ b v _ w hb fun w' u0=>?_
 have u1:=(nB b 5 w).trans u0;have ua:=u1.alloc (.cells #[jv (w.heap.size+1)] 155);have hz:=u1.size;exact vG b v jX 5 _ (rowL l jX (fun _=>prodL nk lg l) .nil i) (fun _ _=>True) w' (by omega) (w.heap.size+1) (u0.row (eK b 5 w)) (by omega)
  (pW (W0:=V0) (l:=l) b v (On b) (fun k hk=>by rw[hk,World.size_alloc];omega) rfl (fun k hk=>by rw[hk];exact Q.hb) jX (fun _=>prodL nk lg l) (fun _=>vU l) (fun _ i hi=>zSf l i hi) 158 #[.agg #[.pointer (some ⟨b,0,none⟩)]] #[] (fun _ _=>by kernel_rfl)
   (fun _ _=>True) (fun _ _ _ _ _=>trivial) (rowL l jX (fun _=>prodL nk lg l)) (fun acc j hj=>wR (fun _=>vU l) acc j hj) i hi (fun acc j w' h1 h2 _ g _ p=>cA j h1 h2 w' (g.up (hu.trans ua) fun k hk=>by rw[hk];exact Q.hb) p) Q.T (hu.trans ua) Q.hl (h.up ua) trivial)
theorem zOr (l:List Tk) (acc:Fr) (i:Nat) (hi:i<=l.length):LeOk l.length (conS nk lg l acc i):=by
 unfold conS
 cases ho:nam nk l i with
 | none=>exact⟨hi,fun p e h=>by have h:=congrArg Prod.snd (Sum.inr.inj h);have h:(6:Int)=e:=h;omega⟩
 | some s=>
  simp only
  split
  ·exact⟨hi,fun p e h=>by have h:=congrArg Prod.snd (Sum.inr.inj h);have h:(9:Int)=e:=h;omega⟩
  ·split
   ·rename_i hk
    have hkl:=zY hk;have ht:=eG (nk:=nk) (lg:=lg) l (i+2) (by omega)
    cases hT:typL nk lg l (i+2) with
    | inr e=>rw[hT] at ht;exact⟨ht.1,fun p e' h=>ht.2 p e' (by rw[<- h])⟩
    | inl q=>rw[hT] at ht;exact⟨ht.1,fun p e h=>by cases h⟩
   ·have hjl:=eD ho
    exact⟨by show i+1<=_;omega,fun p e h=>by have h:=congrArg Prod.snd (Sum.inr.inj h);have h:(6:Int)=e:=h;omega⟩
theorem zVm (Q:Prs nk lg V0 v l b) (i:Nat) (hi:i<=l.length) (cA:∀j,i<j->j<=l.length->ArrAt nk lg V0 v l b j):eO nk lg V0 v l b i:=fun w hu h=>by
 have hb:=qC h;have hz:=hu.size;have u3:=lH b w;have z3:=fJ b w;have hbV:=Q.hb;have hsW:∀q,Two b (w.heap.size+1) q->V0.heap.size<=q:=fun q hq=>by rcases hq with hq | hq<;>omega
 refine bI b v _ (fun acc w'=>StC w' (w.heap.size+2) (w.heap.size+1) (yG acc)/\w'.heap[w.heap.size]? = some (.cells #[.pointer (some ⟨b,0,none⟩)] 129 (0,0))) w
  (pW (W0:=V0) (l:=l) b v (Two b (w.heap.size+1)) (fun k hk=>by rcases hk with hk | hk<;>omega) (.inl rfl) hsW kBar (conS nk lg l) (zY3 l) (fun acc i hi=>zOr l acc i hi) 192 #[] #[.pointer (some ⟨w.heap.size,0,none⟩),.pointer (some ⟨w.heap.size+2,0,none⟩)] (fun _ _=>by kernel_rfl)
   _ (fun acc x y hJ hq=>?_) (fun acc j=>consL nk lg l j acc) (fun acc j _=>zY4 l acc j) i hi (fun acc j w' h1 h2 h3 g hJ p=>?_) Q.T (hu.trans u3) Q.hl (h.up u3) ⟨uD b w,bH b w⟩)
 ·obtain⟨⟨s1,s2,es,clock,s3,s4⟩,s5⟩:=hJ
  exact⟨⟨(hq _ (by omega) (by omega)).trans s1,s2,es,clock,(hq _ (by omega) (by omega)).trans s3,s4⟩,(hq _ (by omega) (by omega)).trans s5⟩
 ·have e0:(#[]++#[.pointer (some ⟨w.heap.size,0,none⟩),.pointer (some ⟨w.heap.size+2,0,none⟩)]:Array Value)=#[.pointer (some ⟨w.heap.size,0,none⟩),.pointer (some ⟨w.heap.size+2,0,none⟩)]:=by simp
  rw[e0];have c:=zSx Q acc j h2 (by omega) w.heap.size (w.heap.size+2) (w.heap.size+1) w' p (g.up (hu.trans u3) hsW) (by omega) hJ.2 hJ.1 (by omega) (by omega) (by omega) (by omega) fun k w2 hk1 hk2 hu2 p2=>cA k (by omega) hk2 w2 hu2 p2
  exact c.mono fun e w2 hp=>hp.imp fun t j' _ g2 hj=>⟨hj,g2.row hJ.2 (by rintro(hq | hq)<;>omega)⟩
theorem uI {l:List Tk} {i:Nat} {s:ByteArray} (h:nam lg l i=some s) (x:ByteArray):key l i x=false:=by
 unfold nam at h;unfold key
 split at h
 ·rename_i t ht
  split at h
  ·rename_i hc
   rw[Bool.and_eq_true] at hc;have h1:t.k=1:=of_decide_eq_true hc.1;rw[decide_eq_false (by omega:¬t.k=3),Bool.false_and]
  ·cases h
 ·cases h
theorem zVn (Q:Prs nk lg V0 v l b) (i:Nat) (hi:i<=l.length) (cA:∀j,i<j->j<=l.length->ArrAt nk lg V0 v l b j) (cC:∀j,i<j->j<=l.length->eO nk lg V0 v l b j):eN nk lg V0 v l b i:=fun w hu h=>by
 have hl:=Q.hl;have hsW:∀q,On b q->V0.heap.size<=q:=fun q hq=>by rw[hq];exact Q.hb
 rw[zS9];unfold atomS;have c0:∀x,tkB l i 0 x=key l i x:=fun x=>qQ
 cases ho:nam lg l i with
 | some s=>
  have hk:=uI ho;have c:=mZ b v i 0 w Q.T h hu Q.hb (Q.P.up hu) (by omega) (fun k _=>by rw[c0,hk]) (by rw[c0,hk]) (by rw[c0,hk]);rw[ho] at c;exact c
 | none=>
  simp only
  cases k1:key l i kInt with
  | true=>
   rw[if_pos rfl];exact fI b v i 0 (by omega) w Q.T h hu Q.hb (Q.P.up hu) (by omega) (fun k hk=>absurd hk (by omega)) (by rw[c0];exact k1)
  | false=>
   rw[if_neg (by decide)]
   cases k2:key l i kBool with
   | true=>
    rw[if_pos rfl];exact fI b v i 1 (by omega) w Q.T h hu Q.hb (Q.P.up hu) (by omega) (fun k hk=>by obtain rfl:k=0:=(by omega);rw[c0];exact k1) (by rw[c0];exact k2)
   | false=>
    rw[if_neg (by decide)]
    cases k3:key l i kUnit with
    | true=>
     rw[if_pos rfl];exact fI b v i 2 (by omega) w Q.T h hu Q.hb (Q.P.up hu) (by omega) (fun k hk=>by rw[c0];obtain rfl | rfl:k=0\/k=1:=(by omega);exact k1;exact k2) (by rw[c0];exact k3)
    | false=>
     rw[if_neg (by decide)];have hn:∀k,k<3->tkB l i 0 (plS k)=false:=fun k hk=>by
      rw[c0];obtain rfl | rfl | rfl:k=0\/k=1\/k=2:=by omega
      ·exact k1
      ·exact k2
      ·exact k3
     cases k4:key l i kOpen with
     | true=>
      rw[if_pos rfl];have hil:=zY k4;have c:=zYa b v i (typL nk lg l (i+1)) (eG l (i+1) (by omega)) hl w Q.T h hu Q.hb (Q.P.up hu) (by omega) hn (by rw[c0];exact k4) fun w' g p=>cA (i+1) (by omega) (by omega) w' (g.up hu hsW) p
      exact c
     | false=>
      rw[if_neg (by decide)]
      cases k5:key l i kMu with
      | false=>
       rw[if_neg (by decide)];have c:=mZ b v i 0 w Q.T h hu Q.hb (Q.P.up hu) (by omega) hn (by rw[c0];exact k4) (by rw[c0];exact k5);rw[ho] at c;exact c
      | true=>
       rw[if_pos rfl];have hil:=zY k5
       cases hn2:nam nk l (i+1) with
       | none=>
        have e1:muE l none (i+1)=(i+1,6):=by unfold muE;show(neI (i+1) (tkB l (i+1) 6 kLeft),neE 6 (tkB l (i+1) 6 kLeft))=_;rw[zE (by decide)];rfl
        have c:=eJ (nk:=nk) (lg:=lg) b v i (.inr (i+1,6)) ⟨by show i+1<=_;omega,fun p e h=>by have h:=congrArg Prod.snd (Sum.inr.inj h);have h:(6:Int)=e:=h;omega⟩ hl w Q.T h hu Q.hb (Q.P.up hu) hi hn (by rw[c0];exact k4) (by rw[c0];exact k5) fun w' g p=>by
         rw[hn2,e1] at p;exact uG Q (i+1) 6 (by decide) (by omega) w' p (g.up hu hsW)
        exact c
       | some s=>
        have hjl:=eD hn2
        cases k6:key l (i+2) kLeft with
        | false=>
         have e1:muE l (some s) (i+1)=(i+2,6):=by unfold muE;show(neI (i+2) (tkB l (i+2) 0 kLeft),neE 0 (tkB l (i+2) 0 kLeft))=_;rw[qQ,k6];rfl
         have c:=eJ (nk:=nk) (lg:=lg) b v i (.inr (i+2,6)) ⟨by show i+2<=_;omega,fun p e h=>by have h:=congrArg Prod.snd (Sum.inr.inj h);have h:(6:Int)=e:=h;omega⟩ hl w Q.T h hu Q.hb (Q.P.up hu) hi hn (by rw[c0];exact k4) (by rw[c0];exact k5) fun w' g p=>by
          rw[hn2,e1] at p;exact uG Q (i+2) 6 (by decide) (by omega) w' p (g.up hu hsW)
         exact c
        | true=>
         have hkl:=zY k6;have e1:muE l (some s) (i+1)=(i+3,0):=by unfold muE;show(neI (i+2) (tkB l (i+2) 0 kLeft),neE 0 (tkB l (i+2) 0 kLeft))=_;rw[qQ,k6];rfl
         have c:=eJ (nk:=nk) (lg:=lg) b v i (consL nk lg l (i+3) .nil) (oS l (i+3) .nil (by omega)) hl w Q.T h hu Q.hb (Q.P.up hu) hi hn (by rw[c0];exact k4) (by rw[c0];exact k5) fun w' g p=>by
          rw[hn2,e1] at p;exact cC (i+3) (by omega) (by omega) w' (g.up hu hsW) p
         rw[hn2] at c;exact c
theorem lI (Q:Prs nk lg V0 v l b):∀(d i:Nat),l.length-i<=d->i<=l.length->ArrAt nk lg V0 v l b i/\eM nk lg V0 v l b i/\eN nk lg V0 v l b i/\eO nk lg V0 v l b i
 | d,i,hd,hi=>by
  have ih:∀j,i<j->j<=l.length->ArrAt nk lg V0 v l b j/\eM nk lg V0 v l b j/\eN nk lg V0 v l b j/\eO nk lg V0 v l b j:=fun j h1 h2=>by
   cases d with
   | zero=>omega
   | succ d=>exact lI Q d j (by omega) h2
  have a1:=zVn Q i hi (fun j h1 h2=>(ih j h1 h2).1) (fun j h1 h2=>(ih j h1 h2).2.2.2);have a2:=eP Q i hi fun j h1 h2=>by
   rcases Nat.eq_or_lt_of_le h1 with rfl | h1
   ·exact a1
   ·exact(ih j h1 h2).2.2.1
  have a3:=uH Q i hi fun j h1 h2=>by
   rcases Nat.eq_or_lt_of_le h1 with rfl | h1
   ·exact a2
   ·exact(ih j h1 h2).2.1
  exact⟨a3,a2,a1,zVm Q i hi fun j h1 h2=>(ih j h1 h2).1⟩
end
end
end Go.Proofs.YtgeghilbikljcaaGreatDoor
namespace Go.Proofs.YtgeghilbikljcaaGreatDoor
structure Te where
 t:Tk
 n:Int
def tks (l:List Te):List Tk:=l.map (·.t)
theorem qK (l:List Te):(tks l).length=l.length:=List.length_map ..
theorem yM (l:List Te) (i:Nat):(tks l)[i]? = (l[i]?).map (·.t):=List.getElem?_map ..
def kFn:ByteArray:=⟨#[102,110]⟩
def qH:ByteArray:=⟨#[58]⟩
def kFat:ByteArray:=⟨#[61,62]⟩
def kLet:ByteArray:=⟨#[108,101,116]⟩
def kEq:ByteArray:=⟨#[61]⟩
def kIn:ByteArray:=⟨#[105,110]⟩
def kEnd:ByteArray:=⟨#[101,110,100]⟩
def kIf:ByteArray:=⟨#[105,102]⟩
def kThen:ByteArray:=⟨#[116,104,101,110]⟩
def kElse:ByteArray:=⟨#[101,108,115,101]⟩
def kCase:ByteArray:=⟨#[99,97,115,101]⟩
def kFold:ByteArray:=⟨#[102,111,108,100]⟩
def kTo:ByteArray:=⟨#[116,111]⟩
def kLess:ByteArray:=⟨#[60]⟩
def kPlus:ByteArray:=⟨#[43]⟩
def lJ:ByteArray:=⟨#[45]⟩
def kTrue:ByteArray:=⟨#[116,114,117,101]⟩
def wB:ByteArray:=⟨#[102,97,108,115,101]⟩
def yN:ByteArray:=⟨#[44]⟩
def kOne:ByteArray:=⟨#[35,49]⟩
def kTwo:ByteArray:=⟨#[35,50]⟩
def fr3 (a b c:Tr):Fr:=.cons a.1 a.2 (fr2 b c)
inductive Hd where
 | no
 | num (n:Int)
 | var (s:ByteArray)
 | boo (n:Int)
 | sel (k:Int)
 | opn
def hdT (lg:ByteArray->Bool) (t:Te):Hd:=
 if t.t.k=3 then (if t.t.s=kTrue then .boo 1 else if t.t.s=wB then .boo 0 else if t.t.s=kOpen then .opn else if t.t.s=kOne then .sel 27 else if t.t.s=kTwo then .sel 28 else .no)
 else if t.t.k=2 then (if -1073741824<=t.n/\t.n<=1073741824 then .num t.n else .no)
 else if t.t.k=1 then (if lg t.t.s then .var t.t.s else .no)
 else .no
def hdE (lg:ByteArray->Bool) (l:List Te) (i:Nat):Hd:=match l[i]? with
 | some t=>hdT lg t
 | none=>.no
def Hd.any:Hd->Bool
 | .no=>false
 | _=>true
def thn {α β:Type} (R:Rs α) (f:α->Nat->Rs β):Rs β:=match R with
 | .inr e=>.inr e
 | .inl (a,j)=>f a j
def keysL (l:List Tk):Nat->List ByteArray->Rs Unit
 | i,[]=>.inl ((),i)
 | i,k::r=>if key l i k then keysL l (i+1) r else .inr (i,6)
def thenK {α:Type} (l:List Tk) (R:Rs α) (ks:List ByteArray):Rs α:=thn R fun a j=>thn (keysL l j ks) fun _ m=>.inl (a,m)
def nameQ (nk:ByteArray->Bool) (l:List Tk) (i:Nat) (ks:List ByteArray):Rs ByteArray:=match nam nk l i with
 | none=>.inr (i,6)
 | some s=>thn (keysL l (i+1) ks) fun _ m=>.inl (s,m)
def lop (T:Nat->Rs Tr) (s:Nat->Option (Nod×Nat)):Nat->Tr->Nat->Rs Tr
 | 0,_,j=>.inr (j,6)
 | n+1,a,j=>match s j with
  | none=>.inl (a,j)
  | some (x,d)=>thn (T (j+d)) fun b m=>lop T s n (x,fr2 a b) m
def lopS (T:Nat->Rs Tr) (s:Nat->Option (Nod×Nat)) (n i:Nat):Rs Tr:=thn (T i) fun a j=>lop T s n a j
def opN (k:Int):Nod:=⟨31,k,nob,nob⟩
section
variable (nk lg:ByteArray->Bool) (l:List Te)
def sApp (j:Nat):Option (Nod×Nat):=if (hdE lg l j).any then some (⟨25,0,nob,nob⟩,0) else none
def sMul (j:Nat):Option (Nod×Nat):=if key (tks l) j kStar then some (opN 3,1) else none
def sAdd (j:Nat):Option (Nod×Nat):=if key (tks l) j kPlus then some (opN 1,1) else if key (tks l) j lJ then some (opN 2,1) else none
def sCmp (j:Nat):Option (Nod×Nat):=if key (tks l) j kEq then some (opN 4,1) else if key (tks l) j kLess then some (opN 5,1) else none
def appS (n:Nat) (A:Nat->Rs Tr):Nat->Rs Tr:=lopS A (sApp lg l) n
def mulS (n:Nat) (A:Nat->Rs Tr):Nat->Rs Tr:=lopS (appS lg l n A) (sMul l) n
def addS (n:Nat) (A:Nat->Rs Tr):Nat->Rs Tr:=lopS (mulS lg l n A) (sAdd l) n
def cmpS (n:Nat) (A:Nat->Rs Tr) (i:Nat):Rs Tr:=thn (addS lg l n A i) fun a j=>match sCmp l j with
 | none=>.inl (a,j)
 | some (x,d)=>thn (addS lg l n A (j+d)) fun b m=>.inl ((x,fr2 a b),m)
def zO (A E:Nat->Rs Tr) (i:Nat):Rs Tr:=match hdE lg l i with
 | .no=>.inr (i,6)
 | .num n=>.inl ((⟨20,n,nob,nob⟩,.nil),i+1)
 | .var s=>.inl (nd 23 s .nil,i+1)
 | .boo n=>.inl ((⟨21,n,nob,nob⟩,.nil),i+1)
 | .sel k=>thn (A (i+1)) fun a j=>.inl (nd k nob (fr1 a),j)
 | .opn=>if key (tks l) (i+1) kShut then .inl (nd 22 nob .nil,i+2) else thn (E (i+1)) fun a j=>
  if key (tks l) j yN then thn (thenK (tks l) (E (j+1)) [kShut]) fun b m=>.inl (nd 26 nob (fr2 a b),m)
  else thn (keysL (tks l) j [kShut]) fun _ m=>.inl (a,m)
def armsS (E:Nat->Rs Tr) (M:Nat->Fr->Rs Fr) (i:Nat) (acc:Fr):Rs Fr:=
 thn (nameQ nk (tks l) i []) fun c j=>thn (nameQ nk (tks l) j [kFat]) fun x j=>thn (E j) fun b j=>
  if key (tks l) j kBar then M (j+1) (acc.app (fr1 (⟨34,0,c,x⟩,fr1 b))) else thn (keysL (tks l) j [kEnd]) fun _ m=>.inl (acc.app (fr1 (⟨34,0,c,x⟩,fr1 b)),m)
def lamS (E:Nat->Rs Tr) (i:Nat):Rs Tr:=
 thn (keysL (tks l) i [kOpen]) fun _ j=>thn (nameQ nk (tks l) j [qH]) fun s j=>thn (thenK (tks l) (typL nk lg (tks l) j) [kShut,kFat]) fun t j=>thn (E j) fun b j=>.inl (nd 24 s (fr2 t b),j)
def letS (E:Nat->Rs Tr) (i:Nat):Rs Tr:=
 thn (nameQ nk (tks l) i [kEq]) fun s j=>thn (thenK (tks l) (E j) [kIn]) fun a j=>thn (thenK (tks l) (E j) [kEnd]) fun b j=>.inl (nd 29 s (fr2 a b),j)
def ifS (E:Nat->Rs Tr) (i:Nat):Rs Tr:=
 thn (thenK (tks l) (E i) [kThen]) fun a j=>thn (thenK (tks l) (E j) [kElse]) fun b j=>thn (E j) fun c j=>.inl (nd 30 nob (fr3 a b c),j)
def caseS (E:Nat->Rs Tr) (M:Nat->Fr->Rs Fr) (i:Nat):Rs Tr:=
 thn (thenK (tks l) (E i) [kOf]) fun a j=>thn (M j .nil) fun k j=>.inl (nd 32 nob (.cons a.1 a.2 k),j)
def foldS (E:Nat->Rs Tr) (M:Nat->Fr->Rs Fr) (i:Nat):Rs Tr:=
 thn (thenK (tks l) (E i) [kTo]) fun a j=>thn (thenK (tks l) (typL nk lg (tks l) j) [kOf]) fun t j=>thn (M j .nil) fun k j=>.inl (nd 33 nob (.cons a.1 a.2 (.cons t.1 t.2 k)),j)
def exprS (n:Nat) (A E:Nat->Rs Tr) (M:Nat->Fr->Rs Fr) (i:Nat):Rs Tr:=
 if key (tks l) i kFn then lamS nk lg l E (i+1)
 else if key (tks l) i kLet then letS nk l E (i+1)
 else if key (tks l) i kIf then ifS l E (i+1)
 else if key (tks l) i kCase then caseS l E M (i+1)
 else if key (tks l) i kFold then foldS nk lg l E M (i+1)
 else cmpS lg l n A i
mutual
def exprF:Nat->Nat->Rs Tr
 | 0,i=>.inr (i,6)
 | n+1,i=>exprS nk lg l (n+1) (fun j=>qV n j) (fun j=>exprF n j) (fun j a=>armsF n j a) i
def qV:Nat->Nat->Rs Tr
 | 0,i=>.inr (i,6)
 | n+1,i=>zO lg l (fun j=>qV n j) (fun j=>exprF n j) i
def armsF:Nat->Nat->Fr->Rs Fr
 | 0,i,_=>.inr (i,6)
 | n+1,i,acc=>armsS nk l (fun j=>exprF n j) (fun j a=>armsF n j a) i acc
end
end
section
variable {nk lg:ByteArray->Bool} {l:List Te}
theorem gR (n i:Nat):exprF nk lg l (n+1) i=exprS nk lg l (n+1) (qV nk lg l n) (exprF nk lg l n) (armsF nk lg l n) i:=by rw[exprF]
theorem kE (n i:Nat):qV nk lg l (n+1) i=zO lg l (qV nk lg l n) (exprF nk lg l n) i:=by rw[qV]
theorem gS (n i:Nat) (acc:Fr):armsF nk lg l (n+1) i acc=armsS nk l (exprF nk lg l n) (armsF nk lg l n) i acc:=by rw[armsF]
theorem qD {α β:Type} {R:Rs α} {f:α->Nat->Rs β} {b:β} {m:Nat} (h:thn R f = .inl (b,m)):∃a j,R = .inl (a,j)/\f a j = .inl (b,m):=by
 unfold thn at h
 cases R with
 | inr e=>cases h
 | inl r=>exact⟨r.1,r.2,rfl,h⟩
theorem wC {i:Nat} (h:(hdE lg l i).any=true):i<l.length:=by
 unfold hdE at h
 split at h
 ·rename_i t ht
  exact(List.getElem?_eq_some_iff.1 ht).1
 ·cases h
theorem qF {i:Nat} {x:ByteArray} (h:key (tks l) i x=true):i<l.length:=by have:=zY h;rw[qK] at this;exact this
theorem eQ {p:ByteArray->Bool} {i:Nat} {x:ByteArray} (h:nam p (tks l) i=some x):i<l.length:=by have:=eD h;rw[qK] at this;exact this
def In {α:Type} (N i:Nat) (R:Rs α):Prop:=match R with
 | .inl (_,j)=>i<j/\j<=N
 | .inr (p,e)=>i<=p/\p<=N/\(e=6\/e=9)
theorem In.down {α:Type} {N i j:Nat} {R:Rs α} (h:In N j R) (hi:i<=j):In N i R:=by
 unfold In at *
 cases R with
 | inl r=>exact⟨by have:=h.1;omega,h.2⟩
 | inr r=>exact⟨by have:=h.1;omega,h.2⟩
theorem In.bnd {α β:Type} {N i:Nat} {R:Rs α} {f:α->Nat->Rs β} (h:In N i R) (hf:∀a j,R = .inl (a,j)->i<j->j<=N->In N j (f a j)):In N i (thn R f):=by
 cases R with
 | inr e=>exact h
 | inl r=>exact(hf r.1 r.2 rfl h.1 h.2).down (Nat.le_of_lt h.1)
def In0 {α:Type} (N i:Nat) (R:Rs α):Prop:=match R with
 | .inl (_,j)=>i<=j/\j<=N
 | .inr (p,e)=>i<=p/\p<=N/\(e=6\/e=9)
theorem In.weak {α:Type} {N i:Nat} {R:Rs α} (h:In N i R):In0 N i R:=by
 unfold In In0 at *
 cases R with
 | inl r=>exact⟨Nat.le_of_lt h.1,h.2⟩
 | inr r=>exact h
theorem In0.down {α:Type} {N i j:Nat} {R:Rs α} (h:In0 N j R) (hi:i<=j):In0 N i R:=by
 unfold In0 at *
 cases R with
 | inl r=>exact⟨by have:=h.1;omega,h.2⟩
 | inr r=>exact⟨by have:=h.1;omega,h.2⟩
theorem In0.strict {α:Type} {N i j:Nat} {R:Rs α} (h:In0 N j R) (hi:i<j):In N i R:=by
 unfold In0 at h;unfold In
 cases R with
 | inl r=>exact⟨by have:=h.1;omega,h.2⟩
 | inr r=>exact⟨by have:=h.1;omega,h.2⟩
theorem In.bnd0 {α β:Type} {N i:Nat} {R:Rs α} {f:α->Nat->Rs β} (h:In N i R) (hf:∀a j,R = .inl (a,j)->i<j->j<=N->In0 N j (f a j)):In N i (thn R f):=by
 cases R with
 | inr e=>exact h
 | inl r=>exact(hf r.1 r.2 rfl h.1 h.2).strict h.1
theorem In0.bnd {α β:Type} {N i:Nat} {R:Rs α} {f:α->Nat->Rs β} (h:In0 N i R) (hf:∀a j,R = .inl (a,j)->i<=j->j<=N->In0 N j (f a j)):In0 N i (thn R f):=by
 cases R with
 | inr e=>exact h
 | inl r=>exact(hf r.1 r.2 rfl h.1 h.2).down h.1
theorem In0.bndS {α β:Type} {N i:Nat} {R:Rs α} {f:α->Nat->Rs β} (h:In0 N i R) (hf:∀a j,R = .inl (a,j)->i<=j->j<=N->In N j (f a j)):In N i (thn R f):=by
 cases R with
 | inr e=>exact h
 | inl r=>exact(hf r.1 r.2 rfl h.1 h.2).down h.1
theorem yB:∀(ks:List ByteArray) (i:Nat),i<=l.length->In0 l.length i (keysL (tks l) i ks)
 | [],i,hi=>⟨Nat.le_refl _,hi⟩
 | k::r,i,hi=>by
  unfold keysL
  split
  ·rename_i hk
   exact(yB r (i+1) (qF hk)).down (Nat.le_succ i)
  ·exact⟨Nat.le_refl _,hi,.inl rfl⟩
theorem sF {k:ByteArray} {r:List ByteArray} {i:Nat} (hi:i<=l.length):In l.length i (keysL (tks l) i (k::r)):=by
 unfold keysL
 split
 ·rename_i hk
  exact(yB r (i+1) (qF hk)).strict (Nat.lt_succ_self i)
 ·exact⟨Nat.le_refl _,hi,.inl rfl⟩
theorem zW6 {α:Type} {N i j:Nat} {a:α} (h:i<j) (hj:j<=N):In (α:=α) N i (.inl (a,j)):=⟨h,hj⟩
theorem qR {α:Type} {N i j:Nat} {a:α} (h:i<=j) (hj:j<=N):In0 (α:=α) N i (.inl (a,j)):=⟨h,hj⟩
theorem qL {α:Type} {R:Rs α} {ks:List ByteArray} {i:Nat} (h:In l.length i R):In l.length i (thenK (tks l) R ks):=
 h.bnd0 fun _ _ _ _ hj=>(yB ks _ hj).bnd fun _ _ _ _ hm=>qR (Nat.le_refl _) hm
theorem qS {p:ByteArray->Bool} {ks:List ByteArray} {i:Nat} (hi:i<=l.length):In l.length i (nameQ p (tks l) i ks):=by
 unfold nameQ
 split
 ·exact⟨Nat.le_refl _,hi,.inl rfl⟩
 ·rename_i s hs
  exact((yB ks (i+1) (eQ hs)).bnd fun _ _ _ _ hm=>qR (Nat.le_refl _) hm).strict (Nat.lt_succ_self i)
theorem kK {i:Nat} (hi:i<=l.length):In l.length i (typL nk lg (tks l) i):=by
 have h1:=zOd (nk:=nk) (lg:=lg) (tks l) [] i (by rw[qK];exact hi);have h2:=fG (nk:=nk) (lg:=lg) (tks l) i;rw[qK] at h1
 cases h:typL nk lg (tks l) i with
 | inl r=>rw[h] at h1 h2;exact⟨h2,h1.le⟩
 | inr r=>rw[h] at h1 h2;exact⟨h2,h1.le,by rcases h1.bad r.1 r.2 rfl with h | h<;>omega⟩
theorem zSy {T:Nat->Rs Tr} {s:Nat->Option (Nod×Nat)} (hT:∀j,j<=l.length->In l.length j (T j)) (hs:∀j x d,s j=some (x,d)->j+d<=l.length):∀(n:Nat) (a:Tr) (j:Nat),j<=l.length->In0 l.length j (lop T s n a j)
 | 0,a,j,hj=>⟨Nat.le_refl _,hj,.inl rfl⟩
 | n+1,a,j,hj=>by
  unfold lop
  split
  ·exact⟨Nat.le_refl _,hj⟩
  ·rename_i x d h
   exact(((hT _ (hs j x d h)).weak).bnd fun b m _ _ hm=>zSy hT hs n _ m hm).down (Nat.le_add_right _ _)
theorem eR {T:Nat->Rs Tr} {s:Nat->Option (Nod×Nat)} (hT:∀j,j<=l.length->In l.length j (T j)) (hs:∀j x d,s j=some (x,d)->j+d<=l.length) (n:Nat) {i:Nat} (hi:i<=l.length):In l.length i (lopS T s n i):=
 (hT i hi).bnd0 fun a j _ _ hj=>zSy hT hs n a j hj
theorem eS {j:Nat} {x:Nod} {d:Nat} (h:sApp lg l j=some (x,d)):j+d<=l.length/\x=⟨25,0,nob,nob⟩/\d=0:=by
 unfold sApp at h
 split at h
 ·rename_i hh
  injection h with h;injection h with h1 h2;subst h2;exact⟨Nat.le_of_lt (wC hh),h1.symm,rfl⟩
 ·cases h
theorem eT {j:Nat} {x:Nod} {d:Nat} (h:sMul l j=some (x,d)):j+d<=l.length/\x=opN 3/\d=1:=by
 unfold sMul at h
 split at h
 ·rename_i hh
  injection h with h;injection h with h1 h2;subst h2;exact⟨qF hh,h1.symm,rfl⟩
 ·cases h
theorem eU {j:Nat} {x:Nod} {d:Nat} (h:sAdd l j=some (x,d)):j+d<=l.length/\(x=opN 1\/x=opN 2)/\d=1:=by
 unfold sAdd at h
 split at h
 ·rename_i hh
  injection h with h;injection h with h1 h2;subst h2;exact⟨qF hh,.inl h1.symm,rfl⟩
 ·split at h
  ·rename_i hh
   injection h with h;injection h with h1 h2;subst h2;exact⟨qF hh,.inr h1.symm,rfl⟩
  ·cases h
theorem eV {j:Nat} {x:Nod} {d:Nat} (h:sCmp l j=some (x,d)):j+d<=l.length/\(x=opN 4\/x=opN 5)/\d=1:=by
 unfold sCmp at h
 split at h
 ·rename_i hh
  injection h with h;injection h with h1 h2;subst h2;exact⟨qF hh,.inl h1.symm,rfl⟩
 ·split at h
  ·rename_i hh
   injection h with h;injection h with h1 h2;subst h2;exact⟨qF hh,.inr h1.symm,rfl⟩
  ·cases h
theorem eX {n:Nat} {A:Nat->Rs Tr} (hA:∀j,j<=l.length->In l.length j (A j)) {i:Nat} (hi:i<=l.length):In l.length i (appS lg l n A i):=eR hA (fun _ _ _ h=>(eS h).1) n hi
theorem eY {n:Nat} {A:Nat->Rs Tr} (hA:∀j,j<=l.length->In l.length j (A j)) {i:Nat} (hi:i<=l.length):In l.length i (mulS lg l n A i):=eR (fun _ h=>eX hA h) (fun _ _ _ h=>(eT h).1) n hi
theorem sG {n:Nat} {A:Nat->Rs Tr} (hA:∀j,j<=l.length->In l.length j (A j)) {i:Nat} (hi:i<=l.length):In l.length i (addS lg l n A i):=eR (fun _ h=>eY hA h) (fun _ _ _ h=>(eU h).1) n hi
theorem zOs {n:Nat} {A:Nat->Rs Tr} (hA:∀j,j<=l.length->In l.length j (A j)) {i:Nat} (hi:i<=l.length):In l.length i (cmpS lg l n A i):=by
 refine(sG hA hi).bnd0 fun a j _ _ hj=>?_
 split
 ·exact qR (Nat.le_refl _) hj
 ·rename_i x d h
  exact(((sG hA (eV h).1).weak).bnd fun _ _ _ _ hm=>qR (Nat.le_refl _) hm).down (Nat.le_add_right _ _)
theorem zSz {A E:Nat->Rs Tr} (hA:∀j,j<=l.length->In l.length j (A j)) (hE:∀j,j<=l.length->In l.length j (E j)) {i:Nat} (hi:i<=l.length):In l.length i (zO lg l A E i):=by
 unfold zO
 cases h:hdE lg l i with
 | no=>exact⟨Nat.le_refl _,hi,.inl rfl⟩
 | num n=>exact zW6 (Nat.lt_succ_self i) (wC (lg:=lg) (by rw[h];rfl))
 | var n=>exact zW6 (Nat.lt_succ_self i) (wC (lg:=lg) (by rw[h];rfl))
 | boo n=>exact zW6 (Nat.lt_succ_self i) (wC (lg:=lg) (by rw[h];rfl))
 | sel k=>
  have hl:i+1<=l.length:=wC (lg:=lg) (by rw[h];rfl);exact(((hA (i+1) hl).bnd0 fun a j _ _ hj=>qR (Nat.le_refl _) hj).down (Nat.le_succ i))
 | opn=>
  have hl:i+1<=l.length:=wC (lg:=lg) (by rw[h];rfl);simp only
  split
  ·rename_i hk
   exact zW6 (by omega) (qF hk)
  ·refine((hE (i+1) hl).bnd0 fun a j _ _ hj=>?_).down (Nat.le_succ i)
   split
   ·rename_i hk
    exact(((qL (hE (j+1) (qF hk))).bnd0 fun _ _ _ _ hm=>qR (Nat.le_refl _) hm).weak).down (Nat.le_succ j)
   ·exact(yB _ j hj).bnd fun _ _ _ _ hm=>qR (Nat.le_refl _) hm
theorem zR0 {E:Nat->Rs Tr} {M:Nat->Fr->Rs Fr} (hE:∀j,j<=l.length->In l.length j (E j)) (hM:∀j a,j<=l.length->In l.length j (M j a)) {i:Nat} (acc:Fr) (hi:i<=l.length):In l.length i (armsS nk l E M i acc):=by
 refine(qS hi).bnd fun c j _ _ hj=>(qS hj).bnd fun x j _ _ hj=>(hE j hj).bnd0 fun b j _ _ hj=>?_
 split
 ·rename_i hk
  exact((hM (j+1) _ (qF hk)).weak).down (Nat.le_succ j)
 ·exact(yB _ j hj).bnd fun _ _ _ _ hm=>qR (Nat.le_refl _) hm
theorem zR1 {n:Nat} {A E:Nat->Rs Tr} {M:Nat->Fr->Rs Fr} (hA:∀j,j<=l.length->In l.length j (A j)) (hE:∀j,j<=l.length->In l.length j (E j)) (hM:∀j a,j<=l.length->In l.length j (M j a)) {i:Nat} (hi:i<=l.length):In l.length i (exprS nk lg l n A E M i):=by
 unfold exprS
 split
 ·rename_i hk
  exact((sF (qF hk)).bnd fun _ j _ _ hj=>(qS hj).bnd fun s j _ _ hj=>(qL (kK hj)).bnd fun t j _ _ hj=>(hE j hj).bnd0 fun b j _ _ hj=>qR (Nat.le_refl _) hj).down (Nat.le_succ i)
 ·split
  ·rename_i hk
   exact((qS (qF hk)).bnd fun s j _ _ hj=>(qL (hE j hj)).bnd fun a j _ _ hj=>(qL (hE j hj)).bnd0 fun b j _ _ hj=>qR (Nat.le_refl _) hj).down (Nat.le_succ i)
  ·split
   ·rename_i hk
    exact((qL (hE _ (qF hk))).bnd fun a j _ _ hj=>(qL (hE j hj)).bnd fun b j _ _ hj=>(hE j hj).bnd0 fun c j _ _ hj=>qR (Nat.le_refl _) hj).down (Nat.le_succ i)
   ·split
    ·rename_i hk
     exact((qL (hE _ (qF hk))).bnd fun a j _ _ hj=>(hM j _ hj).bnd0 fun k j _ _ hj=>qR (Nat.le_refl _) hj).down (Nat.le_succ i)
    ·split
     ·rename_i hk
      exact((qL (hE _ (qF hk))).bnd fun a j _ _ hj=>(qL (kK hj)).bnd fun t j _ _ hj=>(hM j _ hj).bnd0 fun k j _ _ hj=>qR (Nat.le_refl _) hj).down (Nat.le_succ i)
     ·exact zOs hA hi
theorem lK:∀(n:Nat),(∀i,i<=l.length->In l.length i (exprF nk lg l n i))/\(∀i,i<=l.length->In l.length i (qV nk lg l n i))/\(∀i acc,i<=l.length->In l.length i (armsF nk lg l n i acc))
 | 0=>⟨(fun i h=>by rw[exprF];exact⟨Nat.le_refl _,h,.inl rfl⟩),(fun i h=>by rw[qV];exact⟨Nat.le_refl _,h,.inl rfl⟩),(fun i _ h=>by rw[armsF];exact⟨Nat.le_refl _,h,.inl rfl⟩)⟩
 | n+1=>by
  obtain⟨hE,hA,hM⟩:=lK n;refine⟨fun i hi=>?_,fun i hi=>?_,fun i acc hi=>?_⟩
  ·rw[gR];exact zR1 hA hE hM hi
  ·rw[kE];exact zSz hA hE hi
  ·rw[gS];exact zR0 hE hM acc hi
theorem vI {n i:Nat} (hi:i<=l.length):In l.length i (exprF nk lg l n i):=(lK n).1 i hi
end
end Go.Proofs.YtgeghilbikljcaaGreatDoor
