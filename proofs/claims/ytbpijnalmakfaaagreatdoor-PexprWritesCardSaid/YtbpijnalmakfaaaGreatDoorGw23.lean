/-
  Layer 6, the program's parser: what its rules tell of any tokens from any place on.
-/
import Derived.Test.YtbpijnalmakfaaaGreatDoorGw22
set_option maxHeartbeats 40000000
set_option maxRecDepth 100000
namespace Go.Proofs.YtbpijnalmakfaaaGreatDoor
open Go.RowKit Go.Maps
theorem PaT.imp {S:Nat→Prop} {b:Nat} {v:Value} {R:Rs Tr} {J J':Tr→World→Prop} {w:World} {en:Ending} {w':World} (h:PaT S b v R J w en w') (hJ:∀t j,R = .inl (t,j)→Gs S w w'→J t w'→J' t w'):PaT S b v R J' w en w':=by
 obtain⟨A,h1,h2,h3⟩:=h;refine⟨A,h1,h2,?_⟩
 cases R with
 | inr e=>exact h3
 | inl e=>exact⟨h3.1,h3.2.1,hJ _ _ rfl h2 h3.2.2⟩
def arW (b:Nat) (k:Int) (w:World):World:=(w.alloc (.cells #[.pointer (some ⟨b,0,none⟩)] 188)).alloc (.cells #[.int .i64 k] 3)
theorem dU (b:Nat) (k:Int) (w:World):Up w (arW b k w):=((Up.refl w).alloc _).alloc _
theorem zWc (b:Nat) (k:Int) (w:World):(arW b k w).heap[w.heap.size+1]? = some (.cells #[.int .i64 k] 3 (0,0)):=vV _ _ (by simp)
theorem PaT.base {b:Nat} {v:Value} {R:Rs Tr} {a w w':World} {en:Ending} (u:Up a w) (h:PaT (On b) b v R (fun _ _=>True) w en w'):PaT (On b) b v R (fun _ _=>True) a en w':=by
 obtain⟨A,h1,h2,h3⟩:=h;refine⟨A,h1,(Gs.of u).trans h2,?_⟩
 cases R with
 | inr e=>exact h3
 | inl e=>exact⟨h3.1.base u.size,h3.2.1,trivial⟩
theorem bP (b:Nat) (v:Value) (R:Rs Tr) (w:World) (hb:b<w.heap.size) (cN:∀w',Up (arW b 5 w) w'→Calls Tryz.prog 195 #[.pointer (some ⟨b,0,none⟩),.string zI,.func (.func 196) #[.agg #[.pointer (some ⟨b,0,none⟩)]] #[],jv (w.heap.size+1)] w' (PaT (On b) b v R (fun _ _=>True) w')) :
  Calls Tryz.prog 170 #[.agg #[.pointer (some ⟨b,0,none⟩)]] w (PaT (On b) b v R (fun _ _=>True) w):=by
 have HN:=Lib.hid cN;have HW:Hid (arW b 5 w=(w.alloc (.cells #[.pointer (some ⟨b,0,none⟩)] 188)).alloc (.cells #[.int .i64 5] 3)):=Lib.hid rfl;have hb0:w.heap.size≠b:=by omega
 clear cN
 go_enter Tryz.func170,Tryz.ntmps170
 go_wp2_with fail;obtain⟨W0,hW0⟩:∃W0,w.alloc (.cells #[.pointer (some ⟨b,0,none⟩)] 188)=W0:=⟨_,rfl⟩;have r0:W0.heap[w.heap.size]? = some (.cells #[.pointer (some ⟨b,0,none⟩)] 188 (0,0)):=by rw[←hW0];exact heap_alloc_new w _
 have c0:W0.cell? ⟨w.heap.size,0,none⟩=some (.pointer (some ⟨b,0,none⟩)):=cell_of_row W0 w.heap.size 0 _ _ _ r0;have z0:W0.heap.size=w.heap.size+1:=by rw[←hW0];simp
 have hz0:w.heap.size<W0.heap.size:=by omega
 have HW0:=Lib.hid hW0;have HZ0:=Lib.hid z0;have R0:=Lib.hid r0;rw[hW0];clear hW0 r0 z0
 go_region_held3 (fun w'=>w'.cell? ⟨w.heap.size,0,none⟩=some (.pointer (some ⟨b,0,none⟩))) (first | go_keep | assumption)
  (first
   | (go_at_call 197;refine(zY3 5 _).mono ?_;rintro e w2 ⟨he,h2⟩;obtain rfl:e = .returned (jv (w.heap.size+1)):=(by rw[he,←HZ0.out];rfl);have c2:w2.cell? ⟨w.heap.size,0,none⟩=some (.pointer (some ⟨b,0,none⟩)):=(by rw[h2];exact cell_of_row _ _ 0 _ _ _ (kL _ (show _=_ from R0.out)));have U2:Hid (Up (arW b 5 w) w2):=Lib.hid (by rw[h2,HW.out,HW0.out];exact⟨rfl,rfl,rfl,Nat.le_refl _,fun _ _=>rfl⟩);clear h2 he)
   | (go_at_call 195;refine(HN.out _ U2.out).mono ?_;rintro e w3 ⟨A,rfl,h⟩;have c3:w3.cell? ⟨w.heap.size,0,none⟩=some (.pointer (some ⟨b,0,none⟩)):=h.1.cell c2 (by unfold On;exact hb0);have H3:=Lib.hid h;clear h))
 all_goals (first | go_wp2_with fail | skip)
 all_goals go_ret
 all_goals exact PaT.base ((dU b 5 w).trans U2.out) ⟨_,rfl,H3.out⟩
theorem lI (b:Nat) (v:Value) (R:Rs Tr) (w:World) (hb:b<w.heap.size) (cN:∀w',Up (arW b 6 w) w'→Calls Tryz.prog 195 #[.pointer (some ⟨b,0,none⟩),.string kStar,.func (.func 224) #[.agg #[.pointer (some ⟨b,0,none⟩)]] #[],jv (w.heap.size+1)] w' (PaT (On b) b v R (fun _ _=>True) w')) :
  Calls Tryz.prog 196 #[.agg #[.pointer (some ⟨b,0,none⟩)]] w (PaT (On b) b v R (fun _ _=>True) w):=by
 have HN:=Lib.hid cN;have HW:Hid (arW b 6 w=(w.alloc (.cells #[.pointer (some ⟨b,0,none⟩)] 188)).alloc (.cells #[.int .i64 6] 3)):=Lib.hid rfl;have hb0:w.heap.size≠b:=by omega
 clear cN
 go_enter Tryz.func196,Tryz.ntmps196
 go_wp2_with fail;obtain⟨W0,hW0⟩:∃W0,w.alloc (.cells #[.pointer (some ⟨b,0,none⟩)] 188)=W0:=⟨_,rfl⟩;have r0:W0.heap[w.heap.size]? = some (.cells #[.pointer (some ⟨b,0,none⟩)] 188 (0,0)):=by rw[←hW0];exact heap_alloc_new w _
 have c0:W0.cell? ⟨w.heap.size,0,none⟩=some (.pointer (some ⟨b,0,none⟩)):=cell_of_row W0 w.heap.size 0 _ _ _ r0;have z0:W0.heap.size=w.heap.size+1:=by rw[←hW0];simp
 have hz0:w.heap.size<W0.heap.size:=by omega
 have HW0:=Lib.hid hW0;have HZ0:=Lib.hid z0;have R0:=Lib.hid r0;rw[hW0];clear hW0 r0 z0
 go_region_held3 (fun w'=>w'.cell? ⟨w.heap.size,0,none⟩=some (.pointer (some ⟨b,0,none⟩))) (first | go_keep | assumption)
  (first
   | (go_at_call 197;refine(zY3 6 _).mono ?_;rintro e w2 ⟨he,h2⟩;obtain rfl:e = .returned (jv (w.heap.size+1)):=(by rw[he,←HZ0.out];rfl);have c2:w2.cell? ⟨w.heap.size,0,none⟩=some (.pointer (some ⟨b,0,none⟩)):=(by rw[h2];exact cell_of_row _ _ 0 _ _ _ (kL _ (show _=_ from R0.out)));have U2:Hid (Up (arW b 6 w) w2):=Lib.hid (by rw[h2,HW.out,HW0.out];exact⟨rfl,rfl,rfl,Nat.le_refl _,fun _ _=>rfl⟩);clear h2 he)
   | (go_at_call 195;refine(HN.out _ U2.out).mono ?_;rintro e w3 ⟨A,rfl,h⟩;have c3:w3.cell? ⟨w.heap.size,0,none⟩=some (.pointer (some ⟨b,0,none⟩)):=h.1.cell c2 (by unfold On;exact hb0);have H3:=Lib.hid h;clear h))
 all_goals (first | go_wp2_with fail | skip)
 all_goals go_ret
 all_goals exact PaT.base ((dU b 6 w).trans U2.out) ⟨_,rfl,H3.out⟩
theorem zT1 {w:World} {B B':Nat} {e:TypeId} {v:Value} {n:Nat} {xs:List Value} (h:w.ownsRow B e 1 v n xs) (hB:B'≤B):w.ownsRow B' e 1 v n xs:=by
 refine⟨h.1,?_⟩
 rcases h.2 with h2 | ⟨g,cap,cur,h3,h4,h5⟩
 ·exact .inl h2
 ·exact .inr ⟨g,cap,cur,h3,Nat.le_trans hB h4,h5⟩
def consW (b:Nat) (w:World):World:=((w.alloc (.cells #[.pointer (some ⟨b,0,none⟩)] 188)).alloc (.map #[] 0)).alloc (.cells #[.map (some (w.heap.size+1))] 205)
theorem oY (b:Nat) (w:World):Up w (consW b w):=(((Up.refl w).alloc _).alloc _).alloc _
theorem sS (b:Nat) (w:World):(consW b w).heap.size=w.heap.size+3:=by simp[consW]
theorem zYa (b:Nat) (w:World):(consW b w).heap[w.heap.size]? = some (.cells #[.pointer (some ⟨b,0,none⟩)] 188 (0,0)):=kL _ (kL _ (heap_alloc_new w _))
theorem zT2 (b:Nat) (w:World):StC (consW b w) (w.heap.size+2) (w.heap.size+1) []:=by
 refine⟨vV _ _ (by simp),by omega,?_⟩;have hm:((w.alloc (.cells #[.pointer (some ⟨b,0,none⟩)] 188)).alloc (.map #[] 0)).ownsMap Tryz.prog 9 (unitElem (H:=Unit)) (w.alloc (.cells #[.pointer (some ⟨b,0,none⟩)] 188)).heap.size 0 (.map []):=World.ownsMap_made _ _ _ _;rw[World.size_alloc] at hm;exact vD hm ((Below.refl _ _).alloc (Nat.le_refl _) _)
theorem zYb (b:Nat) (v:Value) (R:Rs Fr) (J:Fr→World→Prop) (w:World)
  (hrow:Calls Tryz.prog 118 #[.pointer (some ⟨b,0,none⟩),.string kBar,.func (.func 261) #[] #[.pointer (some ⟨w.heap.size,0,none⟩),.pointer (some ⟨w.heap.size+2,0,none⟩)]] (consW b w) (RowP (Two b (w.heap.size+1)) b v R J (consW b w))) :
  Calls Tryz.prog 248 #[.agg #[.pointer (some ⟨b,0,none⟩)]] w (RowP (On b) b v R (fun _ _=>True) w):=by
 have hmm:∀W:World,(Instr.makeMap 205 none).run Tryz.prog W = .ok (.map (some W.heap.size)) (W.alloc (.map #[] 0)):=fun W=>by kernel_rfl
 have HW:Hid (consW b w=((w.alloc (.cells #[.pointer (some ⟨b,0,none⟩)] 188)).alloc (.map #[] 0)).alloc (.cells #[.map (some (w.heap.size+1))] 205)):=Lib.hid rfl;have HR:=Lib.hid hrow;clear hrow
 go_enter Tryz.func248,Tryz.ntmps248
 go_wp2_with fail;refine Calls.mono HR.out ?_;rintro en w1 ⟨vo,ps,rfl,⟨ho,hpt⟩,hp0,hpl,g1,hR⟩;have hG1:=Lib.hid g1;have hHR:=Lib.hid hR;clear g1 hR HR;go_wp2_with fail
 go_ret
 have hz:=sS b w;have hu:=oY b w;refine⟨vo,ps,rfl,⟨zT1 ho (by omega),hpt⟩,hp0,hpl,⟨hG1.out.os.trans hu.os,hG1.out.tape.trans hu.tape,hG1.out.output.trans hu.output,Nat.le_trans hu.size hG1.out.size,fun k hk hn=>(hG1.out.block k (by omega) (by rintro(h | h);exact hn h;omega)).trans (hu.block k hk)⟩,?_⟩;have h:=hHR.out
 cases R with
 | inr e=>exact h
 | inl e=>
  obtain⟨h1,h2,-⟩:=h;exact⟨PtF.keep (fun q hq=>⟨⟨by have:=hq.1.1;omega,hq.1.2⟩,hq.2⟩) (fun _ _=>rfl) h1,h2,trivial⟩
section
variable {nk lg:ByteArray→Bool}
structure Prs (nk lg:ByteArray→Bool) (V0:World) (v:Value) (l:List Tk) (b:Nat):Prop where
 T:Toks nk lg V0 v l
 P:Pl V0
 hb:V0.heap.size≤b
 hl:l.length≤100000
 hz:∀t∈l,t.s.size≤1000000000
theorem yV1 {p:ByteArray→Bool} {l:List Tk} {i:Nat} {s:ByteArray} (hz:∀t∈l,t.s.size≤1000000000) (h:nam p l i=some s):s.size≤1000000000:=by
 unfold nam at h
 split at h
 ·rename_i t ht
  split at h
  ·rw[←Option.some.inj h];exact hz t (List.mem_of_getElem? ht)
  ·cases h
 ·cases h
section
variable {V0:World} {v:Value} {l:List Tk} {b:Nat}
theorem zGm (Q:Prs nk lg V0 v l b) (i:Nat) (r:Int) (hr:¬r=0) (hi:i≤1000000) (w:World) (h:Psr w b v i r) (hu:Up V0 w):Calls Tryz.prog 224 #[.agg #[.pointer (some ⟨b,0,none⟩)]] w (PaT (On b) b v (.inr (i,r)) (fun _ _=>True) w):=by
 have c:=dN b v i r w Q.T h hu Q.hb (Q.P.up hu) hi (fun k _=>kC hr) (kC hr) (kC hr);unfold nameR at c;rw[if_neg hr] at c;exact c
theorem zT3 (Q:Prs nk lg V0 v l b) (i:Nat) (r:Int) (hr:¬r=0) (hi:i≤1000000) (w:World) (h:Psr w b v i r) (hu:Up V0 w):Calls Tryz.prog 196 #[.agg #[.pointer (some ⟨b,0,none⟩)]] w (PaT (On b) b v (.inr (i,r)) (fun _ _=>True) w):=by
 have hb:=qC h;refine lI b v _ w hb fun w' u0=>?_
 have u1:=(dU b 6 w).trans u0;have ua:=u1.alloc (.cells #[jv (w.heap.size+1)] 210);have hz:=u1.size;exact mG b v kStar 6 _ (.inr (i,r)) (fun _ _=>True) w' (by omega) (w.heap.size+1) (u0.row (zWc b 6 w)) (by omega)
  (eF (l:=l) b v (On b) (fun k hk=>by rw[hk,World.size_alloc];omega) rfl (fun k hk=>by rw[hk];exact Q.hb) kStar 224 #[.agg #[.pointer (some ⟨b,0,none⟩)]] #[] (fun _ _=>by kernel_rfl) i r hr _ rfl (fun _ _=>True)
   (zGm Q i r hr hi _ (h.up ua) (hu.trans ua)) (fun _ _=>True) Q.T (hu.trans ua) hi)
theorem mI (Q:Prs nk lg V0 v l b) (i:Nat) (r:Int) (hr:¬r=0) (hi:i≤1000000) (w:World) (h:Psr w b v i r) (hu:Up V0 w):Calls Tryz.prog 170 #[.agg #[.pointer (some ⟨b,0,none⟩)]] w (PaT (On b) b v (.inr (i,r)) (fun _ _=>True) w):=by
 have hb:=qC h;refine bP b v _ w hb fun w' u0=>?_
 have u1:=(dU b 5 w).trans u0;have ua:=u1.alloc (.cells #[jv (w.heap.size+1)] 210);have hz:=u1.size;exact mG b v zI 5 _ (.inr (i,r)) (fun _ _=>True) w' (by omega) (w.heap.size+1) (u0.row (zWc b 5 w)) (by omega)
  (eF (l:=l) b v (On b) (fun k hk=>by rw[hk,World.size_alloc];omega) rfl (fun k hk=>by rw[hk];exact Q.hb) zI 196 #[.agg #[.pointer (some ⟨b,0,none⟩)]] #[] (fun _ _=>by kernel_rfl) i r hr _ rfl (fun _ _=>True)
   (zT3 Q i r hr hi _ (h.up ua) (hu.trans ua)) (fun _ _=>True) Q.T (hu.trans ua) hi)
theorem zWd (Q:Prs nk lg V0 v l b) {o:Option ByteArray} {j:Nat} (ho:nam nk l j=o) (w:World) (h:Psr w b v j 0) (hu:Up V0 w):Calls Tryz.prog 167 #[.pointer (some ⟨b,0,none⟩),.func (.func 50) #[] #[]] w (AnP (.string (o.getD nob)) o.isSome w):=by
 have c:=zRp b v j 0 (.string (o.getD nob)) o.isSome w (fun w' u=>by rw[←ho];exact Q.T.name j w' (hu.trans u)) h;rw[if_pos rfl,decide_eq_true rfl,Bool.true_and] at c;exact c
theorem yV2 (Q:Prs nk lg V0 v l b) {j:Nat} {r:Int} (hr:¬r=0) (w:World) (h:Psr w b v j r) (hu:Up V0 w):Calls Tryz.prog 167 #[.pointer (some ⟨b,0,none⟩),.func (.func 50) #[] #[]] w (AnP (.string nob) false w):=by
 have c:=zRp b v j r (.string ((nam nk l j).getD nob)) (nam nk l j).isSome w (fun w' u=>Q.T.name j w' (hu.trans u)) h;rw[if_neg hr,decide_eq_false hr,Bool.false_and] at c;exact c
theorem lJ (Q:Prs nk lg V0 v l b) {o:Option ByteArray} {j:Nat} (hj:j≤1000000) (e:Int) (ho:e=0→nam nk l j=o) (w:World) (hu:Up V0 w) (h:Psr w b v j e):Calls Tryz.prog 49 #[.pointer (some ⟨b,0,none⟩),.func (.func 50) #[] #[]] w (NmP b v (nmS o e) (nmI o j e) (nmE o e) w):=by
 have c:=zW4 b v j e (nam nk l j) w (fun w' u=>Q.T.name j w' (hu.trans u)) h hj
 by_cases he:e=0
 ·rw[ho he] at c
  exact c
 ·have e1:∀o:Option ByteArray,nmS o e=nob∧nmI o j e=j∧nmE o e=e:=fun o=>⟨if_neg he,if_neg he,if_neg he⟩
  rw[(e1 _).1,(e1 _).2.1,(e1 _).2.2] at c;rw[(e1 _).1,(e1 _).2.1,(e1 _).2.2];exact c
theorem zGn (Q:Prs nk lg V0 v l b) (acc:Fr) (j:Nat) (hj:j≤l.length) (hacc:acc.len≤j) (B1 pb mb:Nat) (w:World) (h:Psr w b v j 0) (hu:Up V0 w) (hmW:V0.heap.size≤mb) (hB1:w.heap[B1]? = some (.cells #[.pointer (some ⟨b,0,none⟩)] 188 (0,0))) (hst:StC w pb mb (kM acc)) (n1:B1≠b) (n2:B1≠mb) (n3:pb≠b) (n4:mb≠b)
  (cA:∀k w',j<k→k≤l.length→Up V0 w'→Psr w' b v k 0→Calls Tryz.prog 170 #[.agg #[.pointer (some ⟨b,0,none⟩)]] w' (PaT (On b) b v (typL nk lg l k) (fun _ _=>True) w')) :
  Calls Tryz.prog 261 #[.pointer (some ⟨B1,0,none⟩),.pointer (some ⟨pb,0,none⟩)] w (PaT (Two b mb) b v (conS nk lg l acc j) (fun t w'=>StC w' pb mb (kM (acc.app (fr1 t)))) w):=by
 have hl:=Q.hl;have hN:(kM acc).length≤200000:=by rw[oV];omega
 have hsW:∀q,Two b mb q→V0.heap.size≤q:=fun q hq=>by have:=Q.hb;rcases hq with hq | hq<;>omega
 have eW:∀w',Gs (Two b mb) w w'→Up V0 w':=fun w' g=>g.up hu hsW
 unfold conS
 cases ho:nam nk l j with
 | none=>
  have e1:coI l none j 0=j:=by unfold coI;show neI j (tkB l j 6 kOf)=j;rw[kC (by decide)];rfl
  have e2:coE l none j 0=6:=by unfold coE;show neE 6 (tkB l j 6 kOf)=6;rw[kC (by decide)];rfl
  have c:=zT0 (nk:=nk) (lg:=lg) (l:=l) b v j 0 B1 pb mb (kM acc) w Q.T h hu Q.hb hmW (by omega) hN hB1 hst n1 n2 n3 n4 (zWd Q ho w h hu) (fun w' u p=>lJ Q (by omega) 0 (fun _=>ho) w' u p) (by decide) trivial (.inr (j,6)) fun w' g p=>by
   rw[e1,e2] at p;exact mI Q j 6 (by decide) (by omega) w' p (eW w' g)
  exact c.mono fun e w' hp=>hp.imp fun t j' he=>by cases he
 | some s=>
  have hsz:s.size≤2000000000:=by have:=yV1 Q.hz ho;omega
  have hjl:=zXu ho;simp only
  cases hh:hasN acc s with
  | true=>
   rw[←zGl] at hh;have e1:coI l (some s) j 9=j:=by unfold coI;show neI j (tkB l j 9 kOf)=j;rw[kC (by decide)];rfl
   have e2:coE l (some s) j 9=9:=by unfold coE;show neE 9 (tkB l j 9 kOf)=9;rw[kC (by decide)];rfl
   have c:=zA5 (nk:=nk) (lg:=lg) (l:=l) b v j 0 B1 pb mb (kM acc) w Q.T h hu Q.hb hmW (by omega) hN hB1 hst n1 n2 n3 n4 s 9 rfl (zWd Q ho w h hu) (fun w' u p=>lJ Q (by omega) 9 (fun _=>ho) w' u p) hsz hh (.inr (j,9)) fun w' g p=>by
    rw[e1,e2] at p;exact mI Q j 9 (by decide) (by omega) w' p (eW w' g)
   rw[if_pos rfl];exact c.mono fun e w' hp=>hp.imp fun t j' he=>by cases he
  | false=>
   rw[←zGl] at hh;rw[if_neg (by decide)]
   cases hk:key l (j+1) kOf with
   | false=>
    have e1:coI l (some s) j 0=j+1:=by unfold coI;show neI (j+1) (tkB l (j+1) 0 kOf)=j+1;rw[yA,hk];rfl
    have e2:coE l (some s) j 0=6:=by unfold coE;show neE 0 (tkB l (j+1) 0 kOf)=6;rw[yA,hk];rfl
    have c:=zOm (nk:=nk) (lg:=lg) (l:=l) b v j 0 B1 pb mb (kM acc) w Q.T h hu Q.hb hmW (by omega) hN hB1 hst n1 n2 n3 n4 s (zWd Q ho w h hu) (fun w' u p=>lJ Q (by omega) 0 (fun _=>ho) w' u p) hsz hh (.inr (j+1,6)) fun w' g p=>by
     rw[e1,e2] at p;exact mI Q (j+1) 6 (by decide) (by omega) w' p (eW w' g)
    rw[if_neg (by decide)];exact c.mono fun e w' hp=>hp.imp fun t j' he=>by cases he
   | true=>
    have hkl:=yN hk;have e1:coI l (some s) j 0=j+2:=by unfold coI;show neI (j+1) (tkB l (j+1) 0 kOf)=j+2;rw[yA,hk];rfl
    have e2:coE l (some s) j 0=0:=by unfold coE;show neE 0 (tkB l (j+1) 0 kOf)=0;rw[yA,hk];rfl
    have c:=zOm (nk:=nk) (lg:=lg) (l:=l) b v j 0 B1 pb mb (kM acc) w Q.T h hu Q.hb hmW (by omega) hN hB1 hst n1 n2 n3 n4 s (zWd Q ho w h hu) (fun w' u p=>lJ Q (by omega) 0 (fun _=>ho) w' u p) hsz hh (typL nk lg l (j+2)) fun w' g p=>by
     rw[e1,e2] at p;exact cA (j+2) w' (by omega) (by omega) (eW w' g) p
    rw[if_pos rfl];have hc:conR (nmS (some s) 0) (typL nk lg l (j+2))=(match typL nk lg l (j+2) with
     | .inr e=>.inr e
     | .inl (t,j)=>.inl (nd 8 s (fr1 t),j)):=rfl
    rw[hc] at c;refine c.mono fun e w' hp=>hp.imp fun t j' he _ hJ=>?_
    have ht:t.1.a=s:=by
     cases hT:typL nk lg l (j+2) with
     | inr e=>rw[hT] at he;cases he
     | inl q=>
      rw[hT] at he;have he:nd 8 s (fr1 q.1)=t:=congrArg Prod.fst (Sum.inl.inj he);rw[←he]
      rfl
    rw[oU,ht];exact hJ
theorem zT4 (Q:Prs nk lg V0 v l b) (i:Nat) (r:Int) (hr:¬r=0) (hi:i≤500000) (w:World) (h:Psr w b v i r) (hu:Up V0 w):Calls Tryz.prog 248 #[.agg #[.pointer (some ⟨b,0,none⟩)]] w (RowP (On b) b v (.inr (i,r)) (fun _ _=>True) w):=by
 have hb:=qC h;have hz:=hu.size;have u3:=oY b w;have z3:=sS b w;have hbV:=Q.hb;have hsW:∀q,Two b (w.heap.size+1) q→V0.heap.size≤q:=fun q hq=>by rcases hq with hq | hq<;>omega
 have p3:=h.up u3;refine zYb b v _ (fun _ _=>True) w (eF (l:=l) b v (Two b (w.heap.size+1)) (fun k hk=>by rcases hk with hk | hk<;>omega) (.inl rfl) hsW kBar 261 #[] #[.pointer (some ⟨w.heap.size,0,none⟩),.pointer (some ⟨w.heap.size+2,0,none⟩)] (fun _ _=>by kernel_rfl) i r hr (.inr (i,r)) rfl (fun _ _=>True) ?_ (fun _ _=>True) Q.T (hu.trans u3) (by omega))
 have e0:(#[]++#[.pointer (some ⟨w.heap.size,0,none⟩),.pointer (some ⟨w.heap.size+2,0,none⟩)]:Array Value)=#[.pointer (some ⟨w.heap.size,0,none⟩),.pointer (some ⟨w.heap.size+2,0,none⟩)]:=by simp
 rw[e0];have e1:coI l none i r=i:=by unfold coI nmI nmE;rw[if_neg hr,if_neg hr,kC hr];rfl
 have e2:coE l none i r=r:=by unfold coE nmI nmE;rw[if_neg hr,if_neg hr,kC hr];exact oT hr
 have c:=zT0 (nk:=nk) (lg:=lg) (l:=l) b v i r w.heap.size (w.heap.size+2) (w.heap.size+1) [] (consW b w) Q.T p3 (hu.trans u3) hbV (by omega) hi (by simp) (zYa b w) (zT2 b w) (by omega) (by omega) (by omega) (by omega) (yV2 Q hr _ p3 (hu.trans u3)) (fun w' u p=>lJ Q (by omega) r (fun h=>absurd h hr) w' u p) (by decide) trivial (.inr (i,r)) fun w' g p=>by
  rw[e1,e2] at p;exact mI Q i r hr (by omega) w' p (g.up (hu.trans u3) hsW)
 exact c.mono fun e w' hp=>hp.imp fun _ _ _ _ _=>trivial
def ArrAt (nk lg:ByteArray→Bool) (V0:World) (v:Value) (l:List Tk) (b k:Nat):Prop:=∀w,Up V0 w→Psr w b v k 0→Calls Tryz.prog 170 #[.agg #[.pointer (some ⟨b,0,none⟩)]] w (PaT (On b) b v (typL nk lg l k) (fun _ _=>True) w)
def zWe (nk lg:ByteArray→Bool) (V0:World) (v:Value) (l:List Tk) (b k:Nat):Prop:=∀w,Up V0 w→Psr w b v k 0→Calls Tryz.prog 196 #[.agg #[.pointer (some ⟨b,0,none⟩)]] w (PaT (On b) b v (prodL nk lg l k) (fun _ _=>True) w)
def zWf (nk lg:ByteArray→Bool) (V0:World) (v:Value) (l:List Tk) (b k:Nat):Prop:=∀w,Up V0 w→Psr w b v k 0→Calls Tryz.prog 224 #[.agg #[.pointer (some ⟨b,0,none⟩)]] w (PaT (On b) b v (atomL nk lg l k) (fun _ _=>True) w)
def zWg (nk lg:ByteArray→Bool) (V0:World) (v:Value) (l:List Tk) (b k:Nat):Prop:=∀w,Up V0 w→Psr w b v k 0→Calls Tryz.prog 248 #[.agg #[.pointer (some ⟨b,0,none⟩)]] w (RowP (On b) b v (consL nk lg l k .nil) (fun _ _=>True) w)
theorem zWh (Q:Prs nk lg V0 v l b) (i:Nat) (hi:i≤l.length) (cA:∀j,i≤j→j≤l.length→zWf nk lg V0 v l b j):zWe nk lg V0 v l b i:=fun w hu h=>by
 have hb:=qC h;rw[←zMx l i hi];refine lI b v _ w hb fun w' u0=>?_
 have u1:=(dU b 6 w).trans u0;have ua:=u1.alloc (.cells #[jv (w.heap.size+1)] 210);have hz:=u1.size;exact mG b v kStar 6 _ (rowL l kStar (fun _=>atomL nk lg l) .nil i) (fun _ _=>True) w' (by omega) (w.heap.size+1) (u0.row (zWc b 6 w)) (by omega)
  (eE (W0:=V0) (l:=l) b v (On b) (fun k hk=>by rw[hk,World.size_alloc];omega) rfl (fun k hk=>by rw[hk];exact Q.hb) kStar (fun _=>atomL nk lg l) (fun _=>wY l) (fun _ i hi=>zUk l i hi) 224 #[.agg #[.pointer (some ⟨b,0,none⟩)]] #[] (fun _ _=>by kernel_rfl)
   (fun _ _=>True) (fun _ _ _ _ _=>trivial) (rowL l kStar (fun _=>atomL nk lg l)) (fun acc j hj=>pO (fun _=>wY l) acc j hj) i hi (fun acc j w' h1 h2 _ g _ p=>cA j h1 h2 w' (g.up (hu.trans ua) fun k hk=>by rw[hk];exact Q.hb) p) Q.T (hu.trans ua) Q.hl (h.up ua) trivial)
theorem zT5 (Q:Prs nk lg V0 v l b) (i:Nat) (hi:i≤l.length) (cA:∀j,i≤j→j≤l.length→zWe nk lg V0 v l b j):ArrAt nk lg V0 v l b i:=fun w hu h=>by
 have hb:=qC h;rw[←zHv l i hi];refine bP b v _ w hb fun w' u0=>?_
 have u1:=(dU b 5 w).trans u0;have ua:=u1.alloc (.cells #[jv (w.heap.size+1)] 210);have hz:=u1.size;exact mG b v zI 5 _ (rowL l zI (fun _=>prodL nk lg l) .nil i) (fun _ _=>True) w' (by omega) (w.heap.size+1) (u0.row (zWc b 5 w)) (by omega)
  (eE (W0:=V0) (l:=l) b v (On b) (fun k hk=>by rw[hk,World.size_alloc];omega) rfl (fun k hk=>by rw[hk];exact Q.hb) zI (fun _=>prodL nk lg l) (fun _=>wX l) (fun _ i hi=>zUj l i hi) 196 #[.agg #[.pointer (some ⟨b,0,none⟩)]] #[] (fun _ _=>by kernel_rfl)
   (fun _ _=>True) (fun _ _ _ _ _=>trivial) (rowL l zI (fun _=>prodL nk lg l)) (fun acc j hj=>pO (fun _=>wX l) acc j hj) i hi (fun acc j w' h1 h2 _ g _ p=>cA j h1 h2 w' (g.up (hu.trans ua) fun k hk=>by rw[hk];exact Q.hb) p) Q.T (hu.trans ua) Q.hl (h.up ua) trivial)
theorem zA6 (l:List Tk) (acc:Fr) (i:Nat) (hi:i≤l.length):LeOk l.length (conS nk lg l acc i):=by
 unfold conS
 cases ho:nam nk l i with
 | none=>exact⟨hi,fun p e h=>by have h:=congrArg Prod.snd (Sum.inr.inj h);have h:(6:Int)=e:=h;omega⟩
 | some s=>
  simp only
  split
  ·exact⟨hi,fun p e h=>by have h:=congrArg Prod.snd (Sum.inr.inj h);have h:(9:Int)=e:=h;omega⟩
  ·split
   ·rename_i hk
    have hkl:=yN hk;have ht:=mF (nk:=nk) (lg:=lg) l (i+2) (by omega)
    cases hT:typL nk lg l (i+2) with
    | inr e=>rw[hT] at ht;exact⟨ht.1,fun p e' h=>ht.2 p e' (by rw[←h])⟩
    | inl q=>rw[hT] at ht;exact⟨ht.1,fun p e h=>by cases h⟩
   ·have hjl:=zXu ho
    exact⟨by show i+1≤_;omega,fun p e h=>by have h:=congrArg Prod.snd (Sum.inr.inj h);have h:(6:Int)=e:=h;omega⟩
theorem zLc (Q:Prs nk lg V0 v l b) (i:Nat) (hi:i≤l.length) (cA:∀j,i<j→j≤l.length→ArrAt nk lg V0 v l b j):zWg nk lg V0 v l b i:=fun w hu h=>by
 have hb:=qC h;have hz:=hu.size;have u3:=oY b w;have z3:=sS b w;have hbV:=Q.hb;have hsW:∀q,Two b (w.heap.size+1) q→V0.heap.size≤q:=fun q hq=>by rcases hq with hq | hq<;>omega
 refine zYb b v _ (fun acc w'=>StC w' (w.heap.size+2) (w.heap.size+1) (kM acc)∧w'.heap[w.heap.size]? = some (.cells #[.pointer (some ⟨b,0,none⟩)] 188 (0,0))) w
  (eE (W0:=V0) (l:=l) b v (Two b (w.heap.size+1)) (fun k hk=>by rcases hk with hk | hk<;>omega) (.inl rfl) hsW kBar (conS nk lg l) (zRn l) (fun acc i hi=>zA6 l acc i hi) 261 #[] #[.pointer (some ⟨w.heap.size,0,none⟩),.pointer (some ⟨w.heap.size+2,0,none⟩)] (fun _ _=>by kernel_rfl)
   _ (fun acc x y hJ hq=>?_) (fun acc j=>consL nk lg l j acc) (fun acc j _=>zRo l acc j) i hi (fun acc j w' h1 h2 h3 g hJ p=>?_) Q.T (hu.trans u3) Q.hl (h.up u3) ⟨zT2 b w,zYa b w⟩)
 ·obtain⟨⟨s1,s2,es,clock,s3,s4⟩,s5⟩:=hJ
  exact⟨⟨(hq _ (by omega) (by omega)).trans s1,s2,es,clock,(hq _ (by omega) (by omega)).trans s3,s4⟩,(hq _ (by omega) (by omega)).trans s5⟩
 ·have e0:(#[]++#[.pointer (some ⟨w.heap.size,0,none⟩),.pointer (some ⟨w.heap.size+2,0,none⟩)]:Array Value)=#[.pointer (some ⟨w.heap.size,0,none⟩),.pointer (some ⟨w.heap.size+2,0,none⟩)]:=by simp
  rw[e0];have c:=zGn Q acc j h2 (by omega) w.heap.size (w.heap.size+2) (w.heap.size+1) w' p (g.up (hu.trans u3) hsW) (by omega) hJ.2 hJ.1 (by omega) (by omega) (by omega) (by omega) fun k w2 hk1 hk2 hu2 p2=>cA k (by omega) hk2 w2 hu2 p2
  exact c.mono fun e w2 hp=>hp.imp fun t j' _ g2 hj=>⟨hj,g2.row hJ.2 (by rintro(hq | hq)<;>omega)⟩
theorem zT6 {l:List Tk} {i:Nat} {s:ByteArray} (h:nam lg l i=some s) (x:ByteArray):key l i x=false:=by
 unfold nam at h;unfold key
 split at h
 ·rename_i t ht
  split at h
  ·rename_i hc
   rw[Bool.and_eq_true] at hc;have h1:t.k=1:=of_decide_eq_true hc.1;rw[decide_eq_false (by omega:¬t.k=3),Bool.false_and]
  ·cases h
 ·cases h
theorem zLd (Q:Prs nk lg V0 v l b) (i:Nat) (hi:i≤l.length) (cA:∀j,i<j→j≤l.length→ArrAt nk lg V0 v l b j) (cC:∀j,i<j→j≤l.length→zWg nk lg V0 v l b j):zWf nk lg V0 v l b i:=fun w hu h=>by
 have hl:=Q.hl;have hsW:∀q,On b q→V0.heap.size≤q:=fun q hq=>by rw[hq];exact Q.hb
 rw[zR];unfold atomS;have c0:∀x,tkB l i 0 x=key l i x:=fun x=>yA
 cases ho:nam lg l i with
 | some s=>
  have hk:=zT6 ho;have c:=dN b v i 0 w Q.T h hu Q.hb (Q.P.up hu) (by omega) (fun k _=>by rw[c0,hk]) (by rw[c0,hk]) (by rw[c0,hk]);rw[ho] at c;exact c
 | none=>
  simp only
  cases k1:key l i kInt with
  | true=>
   rw[if_pos rfl];exact sQ b v i 0 (by omega) w Q.T h hu Q.hb (Q.P.up hu) (by omega) (fun k hk=>absurd hk (by omega)) (by rw[c0];exact k1)
  | false=>
   rw[if_neg (by decide)]
   cases k2:key l i kBool with
   | true=>
    rw[if_pos rfl];exact sQ b v i 1 (by omega) w Q.T h hu Q.hb (Q.P.up hu) (by omega) (fun k hk=>by obtain rfl:k=0:=(by omega);rw[c0];exact k1) (by rw[c0];exact k2)
   | false=>
    rw[if_neg (by decide)]
    cases k3:key l i kUnit with
    | true=>
     rw[if_pos rfl];exact sQ b v i 2 (by omega) w Q.T h hu Q.hb (Q.P.up hu) (by omega) (fun k hk=>by rw[c0];obtain rfl | rfl:k=0∨k=1:=(by omega);exact k1;exact k2) (by rw[c0];exact k3)
    | false=>
     rw[if_neg (by decide)];have hn:∀k,k<3→tkB l i 0 (plS k)=false:=fun k hk=>by
      rw[c0];obtain rfl | rfl | rfl:k=0∨k=1∨k=2:=by omega
      ·exact k1
      ·exact k2
      ·exact k3
     cases k4:key l i kOpen with
     | true=>
      rw[if_pos rfl];have hil:=yN k4;have c:=zRx b v i (typL nk lg l (i+1)) (mF l (i+1) (by omega)) hl w Q.T h hu Q.hb (Q.P.up hu) (by omega) hn (by rw[c0];exact k4) fun w' g p=>cA (i+1) (by omega) (by omega) w' (g.up hu hsW) p
      exact c
     | false=>
      rw[if_neg (by decide)]
      cases k5:key l i kMu with
      | false=>
       rw[if_neg (by decide)];have c:=dN b v i 0 w Q.T h hu Q.hb (Q.P.up hu) (by omega) hn (by rw[c0];exact k4) (by rw[c0];exact k5);rw[ho] at c;exact c
      | true=>
       rw[if_pos rfl];have hil:=yN k5
       cases hn2:nam nk l (i+1) with
       | none=>
        have e1:muE l none (i+1)=(i+1,6):=by unfold muE;show(neI (i+1) (tkB l (i+1) 6 kLeft),neE 6 (tkB l (i+1) 6 kLeft))=_;rw[kC (by decide)];rfl
        have c:=zWb (nk:=nk) (lg:=lg) b v i (.inr (i+1,6)) ⟨by show i+1≤_;omega,fun p e h=>by have h:=congrArg Prod.snd (Sum.inr.inj h);have h:(6:Int)=e:=h;omega⟩ hl w Q.T h hu Q.hb (Q.P.up hu) hi hn (by rw[c0];exact k4) (by rw[c0];exact k5) fun w' g p=>by
         rw[hn2,e1] at p;exact zT4 Q (i+1) 6 (by decide) (by omega) w' p (g.up hu hsW)
        exact c
       | some s=>
        have hjl:=zXu hn2
        cases k6:key l (i+2) kLeft with
        | false=>
         have e1:muE l (some s) (i+1)=(i+2,6):=by unfold muE;show(neI (i+2) (tkB l (i+2) 0 kLeft),neE 0 (tkB l (i+2) 0 kLeft))=_;rw[yA,k6];rfl
         have c:=zWb (nk:=nk) (lg:=lg) b v i (.inr (i+2,6)) ⟨by show i+2≤_;omega,fun p e h=>by have h:=congrArg Prod.snd (Sum.inr.inj h);have h:(6:Int)=e:=h;omega⟩ hl w Q.T h hu Q.hb (Q.P.up hu) hi hn (by rw[c0];exact k4) (by rw[c0];exact k5) fun w' g p=>by
          rw[hn2,e1] at p;exact zT4 Q (i+2) 6 (by decide) (by omega) w' p (g.up hu hsW)
         exact c
        | true=>
         have hkl:=yN k6;have e1:muE l (some s) (i+1)=(i+3,0):=by unfold muE;show(neI (i+2) (tkB l (i+2) 0 kLeft),neE 0 (tkB l (i+2) 0 kLeft))=_;rw[yA,k6];rfl
         have c:=zWb (nk:=nk) (lg:=lg) b v i (consL nk lg l (i+3) .nil) (zUl l (i+3) .nil (by omega)) hl w Q.T h hu Q.hb (Q.P.up hu) hi hn (by rw[c0];exact k4) (by rw[c0];exact k5) fun w' g p=>by
          rw[hn2,e1] at p;exact cC (i+3) (by omega) (by omega) w' (g.up hu hsW) p
         rw[hn2] at c;exact c
theorem zT7 (Q:Prs nk lg V0 v l b):∀(d i:Nat),l.length-i≤d→i≤l.length→ArrAt nk lg V0 v l b i∧zWe nk lg V0 v l b i∧zWf nk lg V0 v l b i∧zWg nk lg V0 v l b i
 | d,i,hd,hi=>by
  have ih:∀j,i<j→j≤l.length→ArrAt nk lg V0 v l b j∧zWe nk lg V0 v l b j∧zWf nk lg V0 v l b j∧zWg nk lg V0 v l b j:=fun j h1 h2=>by
   cases d with
   | zero=>omega
   | succ d=>exact zT7 Q d j (by omega) h2
  have a1:=zLd Q i hi (fun j h1 h2=>(ih j h1 h2).1) (fun j h1 h2=>(ih j h1 h2).2.2.2);have a2:=zWh Q i hi fun j h1 h2=>by
   rcases Nat.eq_or_lt_of_le h1 with rfl | h1
   ·exact a1
   ·exact(ih j h1 h2).2.2.1
  have a3:=zT5 Q i hi fun j h1 h2=>by
   rcases Nat.eq_or_lt_of_le h1 with rfl | h1
   ·exact a2
   ·exact(ih j h1 h2).2.1
  exact⟨a3,a2,a1,zLc Q i hi fun j h1 h2=>(ih j h1 h2).1⟩
end
end
end Go.Proofs.YtbpijnalmakfaaaGreatDoor
namespace Go.Proofs.YtbpijnalmakfaaaGreatDoor
abbrev SS:=Nat×Int
def at0 {α:Type} (R:Nat→Rs α) (s:SS):Rs α:=if s.2=0 then R s.1 else .inr s
theorem qR {α:Type} (R:Nat→Rs α) (i:Nat):at0 R (i,0)=R i:=if_pos rfl
theorem kP {α:Type} (R:Nat→Rs α) {s:SS} (h:¬s.2=0):at0 R s = .inr s:=if_neg h
def stO {α:Type} (R:Rs α):SS:=(rI R,rE R)
def kS (l:List Tk) (x:ByteArray) (s:SS):SS:=(neI s.1 (tkB l s.1 s.2 x),neE s.2 (tkB l s.1 s.2 x))
def nS (p:ByteArray→Bool) (l:List Tk) (s:SS):SS:=(nmI (nam p l s.1) s.1 s.2,nmE (nam p l s.1) s.2)
def rS {α:Type} (R:Nat→Rs α) (s:SS):SS:=stO (at0 R s)
def Ab7 (g:SS→SS):Prop:=∀s,¬s.2=0→g s=s
theorem Ab7.id:Ab7 fun s=>s:=fun _ _=>rfl
theorem jC (l:List Tk) (x:ByteArray):Ab7 (kS l x):=fun s h=>by
 unfold kS;rw[kC h,oT h]
 rfl
theorem zRz (p:ByteArray→Bool) (l:List Tk):Ab7 (nS p l):=fun s h=>by
 unfold nS nmI nmE;rw[if_neg h,if_neg h]
theorem xC {α:Type} (R:Nat→Rs α):Ab7 (rS R):=fun s h=>by
 unfold rS;rw[kP R h]
 rfl
theorem Ab7.comp {f g:SS→SS} (hf:Ab7 f) (hg:Ab7 g):Ab7 fun s=>f (g s):=fun s h=>by
 show f (g s)=s
 rw[hg s h,hf s h]
def NeO {α:Type} (R:Rs α):Prop:=∀p e,R = .inr (p,e)→¬e=0
theorem NeO.of_in {α:Type} {N i:Nat} {R:Rs α} (h:In N i R):NeO R:=fun _ _ e=>h.ne e
theorem yB {α β:Type} {R:Rs α} {f:α→Nat→Rs β} {g:SS→SS} (hne:NeO R) (hg:Ab7 g) (hf:∀a j,R = .inl (a,j)→stO (f a j)=g (j,0)):stO (thn R f)=g (stO R):=by
 cases R with
 | inr e=>
  obtain⟨p,r⟩:=e;exact(hg (p,r) (hne p r rfl)).symm
 | inl r=>
  obtain⟨a,j⟩:=r;exact hf a j rfl
theorem oZ {α β:Type} {R:Rs α} {f:α→Nat→Rs β} (hR:NeO R) (hf:∀a j,R = .inl (a,j)→NeO (f a j)):NeO (thn R f):=by
 cases R with
 | inr e=>
  intro p r h;have h:(.inr e:Rs β) = .inr (p,r):=h;injection h with h;exact hR p r (by rw[h])
 | inl r=>exact hf r.1 r.2 rfl
theorem dV {α:Type} (a:α) (j:Nat):NeO (.inl (a,j):Rs α):=fun p e h=>by cases h
theorem zOn {α:Type} (i:Nat):NeO (.inr (i,6):Rs α):=fun p e h=>by
 have h:=congrArg Prod.snd (Sum.inr.inj h);have h:(6:Int)=e:=h;omega
section
variable {nk lg:ByteArray→Bool} {l:List Tk}
theorem mJ:∀(ks:List ByteArray) (i:Nat),NeO (keysL l i ks)
 | [],i=>dV _ _
 | k::r,i=>by
  unfold keysL
  split
  ·exact mJ r (i+1)
  ·exact zOn i
theorem lK (p:ByteArray→Bool) (i:Nat) (ks:List ByteArray):NeO (nameQ p l i ks):=by
 unfold nameQ
 split
 ·exact zOn i
 ·exact oZ (mJ _ _) fun _ _ _=>dV _ _
theorem jU {α:Type} {R:Rs α} (h:NeO R) (ks:List ByteArray):NeO (thenK l R ks):=oZ h fun _ _ _=>oZ (mJ _ _) fun _ _ _=>dV _ _
theorem yV3 (i:Nat) (x:ByteArray):kS l x (i,0)=if key l i x then (i+1,0) else (i,6):=by
 unfold kS;rw[yA]
 cases key l i x<;>rfl
theorem yV4 (p:ByteArray→Bool) (i:Nat):nS p l (i,0)=match nam p l i with
  | some _=>(i+1,0)
  | none=>(i,6):=by
 unfold nS
 cases nam p l i<;>rfl
theorem nL (x:ByteArray) (i:Nat):stO (keysL l i [x])=kS l x (i,0):=by
 rw[yV3];unfold keysL keysL
 split<;>rfl
theorem zGo (x y:ByteArray) (i:Nat):stO (keysL l i [x,y])=kS l y (kS l x (i,0)):=by
 rw[yV3];unfold keysL
 split
 ·exact nL y (i+1)
 ·exact(jC l y (i,6) (by show ¬(6:Int)=0;decide)).symm
theorem zT8 (p:ByteArray→Bool) (i:Nat):stO (nameQ p l i [])=nS p l (i,0):=by
 rw[yV4];unfold nameQ
 cases nam p l i<;>rfl
theorem lL (p:ByteArray→Bool) (x:ByteArray) (i:Nat):stO (nameQ p l i [x])=kS l x (nS p l (i,0)):=by
 rw[yV4];unfold nameQ
 cases nam p l i with
 | none=>exact(jC l x (i,6) (by show ¬(6:Int)=0;decide)).symm
 | some s=>
  simp only;rw[←nL];exact yB (g:=fun s=>s) (mJ _ _) Ab7.id fun _ _ _=>rfl
theorem jV {α:Type} {R:Rs α} (h:NeO R) (x:ByteArray):stO (thenK l R [x])=kS l x (stO R):=
 yB h (jC l x) fun a j _=>by
  rw[←nL];exact yB (g:=fun s=>s) (mJ _ _) Ab7.id fun _ _ _=>rfl
theorem zT9 {α:Type} {R:Rs α} (h:NeO R) (x y:ByteArray):stO (thenK l R [x,y])=kS l y (kS l x (stO R)):=
 yB (g:=fun s=>kS l y (kS l x s)) h ((jC l y).comp (jC l x)) fun a j _=>by
  rw[←zGo];exact yB (g:=fun s=>s) (mJ _ _) Ab7.id fun _ _ _=>rfl
theorem zLe {x:ByteArray} {i m:Nat} {u:Unit} (h:keysL l i [x] = .inl (u,m)):kS l x (i,0)=(m,0):=by rw[←nL,h];rfl
theorem zLf {p:ByteArray→Bool} {i m:Nat} {s:ByteArray} (h:nameQ p l i [] = .inl (s,m)):nam p l i=some s∧nS p l (i,0)=(m,0):=by
 refine⟨?_,by rw[←zT8,h];rfl⟩;unfold nameQ at h
 cases hn:nam p l i with
 | none=>rw[hn] at h;cases h
 | some s'=>rw[hn] at h;exact congrArg some (congrArg Prod.fst (Sum.inl.inj h))
theorem dW {p:ByteArray→Bool} {i m:Nat} {s x:ByteArray} (h:nameQ p l i [x] = .inl (s,m)):nam p l i=some s∧kS l x (nS p l (i,0))=(m,0):=by
 refine⟨?_,by rw[←lL,h];rfl⟩;unfold nameQ at h
 cases hn:nam p l i with
 | none=>rw[hn] at h;cases h
 | some s'=>
  rw[hn] at h;obtain⟨a,j,_,h2⟩:=qH h;exact congrArg some (congrArg Prod.fst (Sum.inl.inj h2))
theorem jH {α:Type} {R:Rs α} (hne:NeO R) {x:ByteArray} {a:α} {m:Nat} (h:thenK l R [x] = .inl (a,m)):∃j,R = .inl (a,j)∧kS l x (j,0)=(m,0):=by
 have hs:=jV (l:=l) hne x;obtain⟨a',j,h1,h2⟩:=qH (show thn R (fun a j=>thn (keysL l j [x]) fun _ m=>.inl (a,m)) = .inl (a,m) from h);obtain⟨_,_,_,h4⟩:=qH h2;have e:a'=a:=congrArg Prod.fst (Sum.inl.inj h4);subst e;rw[h,h1] at hs;exact⟨j,h1,hs.symm⟩
theorem zLg {α:Type} {R:Rs α} (hne:NeO R) {x y:ByteArray} {a:α} {m:Nat} (h:thenK l R [x,y] = .inl (a,m)):∃j,R = .inl (a,j)∧kS l y (kS l x (j,0))=(m,0):=by
 have hs:=zT9 (l:=l) hne x y;obtain⟨a',j,h1,h2⟩:=qH (show thn R (fun a j=>thn (keysL l j [x,y]) fun _ m=>.inl (a,m)) = .inl (a,m) from h);obtain⟨_,_,_,h4⟩:=qH h2;have e:a'=a:=congrArg Prod.fst (Sum.inl.inj h4);subst e;rw[h,h1] at hs;exact⟨j,h1,hs.symm⟩
end
section
variable {nk lg:ByteArray→Bool} {l:List Te} {E:Nat→Rs Tr}
theorem uC (i:Nat) (hi:i≤l.length):NeO (typL nk lg (tks l) i):=NeO.of_in (xQ hi)
def lamG (nk lg:ByteArray→Bool) (l:List Te) (E:Nat→Rs Tr) (s:SS):SS:=rS E (kS (tks l) kFat (kS (tks l) kShut (rS (typL nk lg (tks l)) (kS (tks l) zW (nS nk (tks l) (kS (tks l) kOpen s))))))
theorem yV5 (hE:∀j,j≤l.length→In l.length j (E j)) {i:Nat} (hi:i≤l.length):stO (lamS nk lg l E i)=lamG nk lg l E (i,0):=by
 unfold lamS;refine(yB (g:=fun s=>rS E (kS (tks l) kFat (kS (tks l) kShut (rS (typL nk lg (tks l)) (kS (tks l) zW (nS nk (tks l) s)))))) (mJ _ _) ((xC _).comp ((jC _ _).comp ((jC _ _).comp ((xC _).comp ((jC _ _).comp (zRz _ _)))))) fun _ j hj=>?_).trans (by rw[nL];rfl);have hj:j≤l.length:=by have h:=xP (l:=l) [kOpen] i hi;rw[hj] at h;exact h.2
 refine(yB (g:=fun s=>rS E (kS (tks l) kFat (kS (tks l) kShut (rS (typL nk lg (tks l)) s)))) (lK _ _ _) ((xC _).comp ((jC _ _).comp ((jC _ _).comp (xC _)))) fun _ j2 hj2=>?_).trans (by rw[lL]);have hj2:j2≤l.length:=by have h:=yJ (p:=nk) (l:=l) (ks:=[zW]) hj;rw[hj2] at h;exact h.2
 refine(yB (g:=fun s=>rS E s) (jU (uC j2 hj2) _) (xC _) fun _ j3 hj3=>?_).trans (by rw[zT9 (uC j2 hj2)];show _=rS E (kS _ _ (kS _ _ (stO (at0 _ (j2,0)))));rw[qR]);have hj3:j3≤l.length:=by have h:=qT (l:=l) (ks:=[kShut,kFat]) (xQ (nk:=nk) (lg:=lg) hj2);rw[hj3] at h;exact h.2
 refine(yB (g:=fun s=>s) (NeO.of_in (hE j3 hj3)) Ab7.id fun _ _ _=>rfl).trans ?_
 show stO (E j3)=stO (at0 E (j3,0))
 rw[qR]
theorem zA7 {i m:Nat} (hi:i≤l.length) {u:Tr} (h:lamS nk lg l E i = .inl (u,m)):∃s t b j1 j2 j3 j4,kS (tks l) kOpen (i,0)=(j1,0)∧nam nk (tks l) j1=some s∧kS (tks l) zW (nS nk (tks l) (j1,0))=(j2,0)∧typL nk lg (tks l) j2 = .inl (t,j3)∧
  kS (tks l) kFat (kS (tks l) kShut (j3,0))=(j4,0)∧E j4 = .inl (b,m)∧u=nd 24 s (fr2 t b):=by
 unfold lamS at h;obtain⟨_,j1,h1,h⟩:=qH h;have i1:j1≤l.length:=by have h:=xP (l:=l) [kOpen] i hi;rw[h1] at h;exact h.2
 obtain⟨s,j2,h2,h⟩:=qH h;have i2:j2≤l.length:=by have h:=yJ (p:=nk) (l:=l) (ks:=[zW]) i1;rw[h2] at h;exact h.2
 obtain⟨t,j4,h3,h⟩:=qH h;obtain⟨b,m',h4,h⟩:=qH h;injection h with h;injection h with e1 e2;subst e2;obtain⟨hn,hs⟩:=dW h2;obtain⟨j3,h5,h6⟩:=zLg (uC j2 i2) h3;exact⟨s,t,b,j1,j2,j3,j4,zLe h1,hn,hs,h5,h6,h4,e1.symm⟩
def letG (nk:ByteArray→Bool) (l:List Te) (E:Nat→Rs Tr) (s:SS):SS:=kS (tks l) kEnd (rS E (kS (tks l) kIn (rS E (kS (tks l) kEq (nS nk (tks l) s)))))
theorem yV6 (hE:∀j,j≤l.length→In l.length j (E j)) {i:Nat} (hi:i≤l.length):stO (letS nk l E i)=letG nk l E (i,0):=by
 unfold letS;refine(yB (g:=fun s=>kS (tks l) kEnd (rS E (kS (tks l) kIn (rS E s)))) (lK _ _ _) ((jC _ _).comp ((xC _).comp ((jC _ _).comp (xC _)))) fun _ j hj=>?_).trans (by rw[lL];rfl);have hj:j≤l.length:=by have h:=yJ (p:=nk) (l:=l) (ks:=[kEq]) hi;rw[hj] at h;exact h.2
 have ne:=NeO.of_in (hE j hj);refine(yB (g:=fun s=>kS (tks l) kEnd (rS E s)) (jU ne _) ((jC _ _).comp (xC _)) fun _ j2 hj2=>?_).trans (by rw[jV ne];show _=kS _ _ (rS E (kS _ _ (stO (at0 E (j,0)))));rw[qR]);have hj2:j2≤l.length:=by have h:=qT (l:=l) (ks:=[kIn]) (hE j hj);rw[hj2] at h;exact h.2
 have ne2:=NeO.of_in (hE j2 hj2);refine(yB (g:=fun s=>s) (jU ne2 _) Ab7.id fun _ _ _=>rfl).trans ?_;rw[jV ne2]
 show _=kS _ _ (stO (at0 E (j2,0)))
 rw[qR]
theorem zA8 (hE:∀j,j≤l.length→In l.length j (E j)) {i m:Nat} (hi:i≤l.length) {u:Tr} (h:letS nk l E i = .inl (u,m)):∃s a b j1 j2 j3 j4,nam nk (tks l) i=some s∧kS (tks l) kEq (nS nk (tks l) (i,0))=(j1,0)∧E j1 = .inl (a,j2)∧kS (tks l) kIn (j2,0)=(j3,0)∧E j3 = .inl (b,j4)∧u=nd 29 s (fr2 a b):=by
 unfold letS at h;obtain⟨s,j1,h1,h⟩:=qH h;have i1:j1≤l.length:=by have h:=yJ (p:=nk) (l:=l) (ks:=[kEq]) hi;rw[h1] at h;exact h.2
 obtain⟨a,j3,h2,h⟩:=qH h;obtain⟨j2,h3,h4⟩:=jH (NeO.of_in (hE j1 i1)) h2;have i3:j3≤l.length:=by have h:=qT (l:=l) (ks:=[kIn]) (hE j1 i1);rw[h2] at h;exact h.2
 obtain⟨b,m',h5,h⟩:=qH h;obtain⟨j4,h6,h7⟩:=jH (NeO.of_in (hE j3 i3)) h5;injection h with h;injection h with e1 e2;obtain⟨hn,hs⟩:=dW h1;exact⟨s,a,b,j1,j2,j3,j4,hn,hs,h3,h4,h6,e1.symm⟩
def ifG (l:List Te) (E:Nat→Rs Tr) (s:SS):SS:=rS E (kS (tks l) kElse (rS E (kS (tks l) kThen (rS E s))))
theorem if_st (hE:∀j,j≤l.length→In l.length j (E j)) {i:Nat} (hi:i≤l.length):stO (ifS l E i)=ifG l E (i,0):=by
 unfold ifS;have ne:=NeO.of_in (hE i hi);refine(yB (g:=fun s=>rS E (kS (tks l) kElse (rS E s))) (jU ne _) ((xC _).comp ((jC _ _).comp (xC _))) fun _ j hj=>?_).trans (by rw[jV ne];show _=rS E (kS _ _ (rS E (kS _ _ (stO (at0 E (i,0))))));rw[qR]);have hj:j≤l.length:=by have h:=qT (l:=l) (ks:=[kThen]) (hE i hi);rw[hj] at h;exact h.2
 have ne:=NeO.of_in (hE j hj);refine(yB (g:=fun s=>rS E s) (jU ne _) (xC _) fun _ j2 hj2=>?_).trans (by rw[jV ne];show _=rS E (kS _ _ (stO (at0 E (j,0))));rw[qR]);have hj2:j2≤l.length:=by have h:=qT (l:=l) (ks:=[kElse]) (hE j hj);rw[hj2] at h;exact h.2
 refine(yB (g:=fun s=>s) (NeO.of_in (hE j2 hj2)) Ab7.id fun _ _ _=>rfl).trans ?_
 show _=stO (at0 E (j2,0))
 rw[qR]
theorem yV7 (hE:∀j,j≤l.length→In l.length j (E j)) {i m:Nat} (hi:i≤l.length) {u:Tr} (h:ifS l E i = .inl (u,m)):∃a b c j1 j2 j3 j4,E i = .inl (a,j1)∧kS (tks l) kThen (j1,0)=(j2,0)∧E j2 = .inl (b,j3)∧kS (tks l) kElse (j3,0)=(j4,0)∧E j4 = .inl (c,m)∧u=nd 30 nob (fr3 a b c):=by
 unfold ifS at h;obtain⟨a,j2,h1,h⟩:=qH h;obtain⟨j1,h2,h3⟩:=jH (NeO.of_in (hE i hi)) h1;have i2:j2≤l.length:=by have h:=qT (l:=l) (ks:=[kThen]) (hE i hi);rw[h1] at h;exact h.2
 obtain⟨b,j4,h4,h⟩:=qH h;obtain⟨j3,h5,h6⟩:=jH (NeO.of_in (hE j2 i2)) h4;obtain⟨c,m',h7,h⟩:=qH h;injection h with h;injection h with e1 e2;subst e2;exact⟨a,b,c,j1,j2,j3,j4,h2,h3,h5,h6,h7,e1.symm⟩
def sT (nk:ByteArray→Bool) (l:List Te) (E:Nat→Rs Tr) (i:Nat):Rs Tr:=thn (nameQ nk (tks l) i []) fun c j=>thn (nameQ nk (tks l) j [kFat]) fun x j=>thn (E j) fun b j=>.inl ((⟨34,0,c,x⟩,fr1 b),j)
def armG (nk:ByteArray→Bool) (l:List Te) (E:Nat→Rs Tr) (s:SS):SS:=rS E (kS (tks l) kFat (nS nk (tks l) (nS nk (tks l) s)))
theorem yV8 (hE:∀j,j≤l.length→In l.length j (E j)) {i:Nat} (hi:i≤l.length):stO (sT nk l E i)=armG nk l E (i,0):=by
 unfold sT;refine(yB (g:=fun s=>rS E (kS (tks l) kFat (nS nk (tks l) s))) (lK _ _ _) ((xC _).comp ((jC _ _).comp (zRz _ _))) fun _ j hj=>?_).trans (by rw[zT8];rfl);have hj:j≤l.length:=by have h:=yJ (p:=nk) (l:=l) (ks:=[]) hi;rw[hj] at h;exact h.2
 refine(yB (g:=fun s=>rS E s) (lK _ _ _) (xC _) fun _ j2 hj2=>?_).trans (by rw[lL]);have hj2:j2≤l.length:=by have h:=yJ (p:=nk) (l:=l) (ks:=[kFat]) hj;rw[hj2] at h;exact h.2
 refine(yB (g:=fun s=>s) (NeO.of_in (hE j2 hj2)) Ab7.id fun _ _ _=>rfl).trans ?_
 show _=stO (at0 E (j2,0))
 rw[qR]
theorem zA9 {i m:Nat} {u:Tr} (h:sT nk l E i = .inl (u,m)):∃c x b j1 j2,nam nk (tks l) i=some c∧nS nk (tks l) (i,0)=(j1,0)∧nam nk (tks l) j1=some x∧kS (tks l) kFat (nS nk (tks l) (j1,0))=(j2,0)∧E j2 = .inl (b,m)∧u=(⟨34,0,c,x⟩,fr1 b):=by
 unfold sT at h;obtain⟨c,j1,h1,h⟩:=qH h;obtain⟨x,j2,h2,h⟩:=qH h;obtain⟨b,m',h3,h⟩:=qH h;injection h with h;injection h with e1 e2;subst e2;obtain⟨a1,a2⟩:=zLf h1;obtain⟨b1,b2⟩:=dW h2;exact⟨c,x,b,j1,j2,a1,a2,b1,b2,h3,e1.symm⟩
theorem zGp (hE:∀j,j≤l.length→In l.length j (E j)) {i:Nat} (hi:i≤l.length):In l.length i (sT nk l E i):=
 (yJ hi).bnd fun _ _ _ _ hj=>(yJ hj).bnd fun _ j _ _ hj=>(hE j hj).bnd0 fun _ _ _ _ hj=>kV (Nat.le_refl _) hj
def rowA (nk:ByteArray→Bool) (l:List Te) (X:Nat→Nat→Rs Tr):Nat→Nat→Fr→Rs Fr
 | 0,i,_=>.inr (i,6)
 | n+1,i,acc=>thn (sT nk l (X n) i) fun a j=>if key (tks l) j kBar then rowA nk l X n (j+1) (acc.app (fr1 a)) else .inl (acc.app (fr1 a),j)
end
section
variable {nk lg:ByteArray→Bool} {l:List Te}
theorem uD:∀(n i:Nat) (acc:Fr),armsF nk lg l n i acc=thn (rowA nk l (exprF nk lg l) n i acc) fun f j=>thn (keysL (tks l) j [kEnd]) fun _ m=>.inl (f,m)
 | 0,i,acc=>by rw[armsF];rfl
 | n+1,i,acc=>by
  rw[tW];unfold armsS rowA sT
  cases h1:nameQ nk (tks l) i [] with
  | inr e=>rfl
  | inl r=>
   show thn (nameQ nk (tks l) r.2 [kFat]) _=thn (thn (thn (nameQ nk (tks l) r.2 [kFat]) _) _) _
   cases h2:nameQ nk (tks l) r.2 [kFat] with
   | inr e=>rfl
   | inl q=>
    show thn (exprF nk lg l n q.2) _=thn (thn (thn (exprF nk lg l n q.2) _) _) _
    cases h3:exprF nk lg l n q.2 with
    | inr e=>rfl
    | inl z=>
     show(if key (tks l) z.2 kBar=true then _ else _)=thn (if key (tks l) z.2 kBar=true then _ else _) _
     split
     ·exact uD n _ _
     ·rfl
def caseG (l:List Te) (E:Nat→Rs Tr) (C:Nat→Rs Fr) (s:SS):SS:=kS (tks l) kEnd (rS C (kS (tks l) kOf (rS E s)))
def foldG (nk lg:ByteArray→Bool) (l:List Te) (E:Nat→Rs Tr) (C:Nat→Rs Fr) (s:SS):SS:=kS (tks l) kEnd (rS C (kS (tks l) kOf (rS (typL nk lg (tks l)) (kS (tks l) kTo (rS E s)))))
theorem eI {X:Nat→Nat→Rs Tr} (hX:∀n j,j≤l.length→In l.length j (X n j)):∀(n i:Nat) (acc:Fr),i≤l.length→In l.length i (rowA nk l X n i acc)
 | 0,i,acc,hi=>⟨Nat.le_refl _,hi,.inl rfl⟩
 | n+1,i,acc,hi=>by
  unfold rowA;refine(zGp (hX n) hi).bnd0 fun a j _ _ hj=>?_
  split
  ·rename_i hk
   exact((eI hX n (j+1) _ (qK hk)).weak).down (Nat.le_succ j)
  ·exact kV (Nat.le_refl _) hj
theorem zAa {E:Nat→Rs Tr} (hE:∀j,j≤l.length→In l.length j (E j)) {M:Nat→Fr→Rs Fr} {C:Nat→Rs Fr} (hC:∀j,j≤l.length→In l.length j (C j)) (hM:∀j,M j .nil=thn (C j) fun f j=>thn (keysL (tks l) j [kEnd]) fun _ m=>.inl (f,m)) {i:Nat} (hi:i≤l.length):stO (caseS l E M i)=caseG l E C (i,0):=by
 unfold caseS;have ne:=NeO.of_in (hE i hi);refine(yB (g:=fun s=>kS (tks l) kEnd (rS C s)) (jU ne _) ((jC _ _).comp (xC _)) fun _ j hj=>?_).trans (by rw[jV ne];show _=kS _ _ (rS C (kS _ _ (stO (at0 E (i,0)))));rw[qR]);have hj:j≤l.length:=by have h:=qT (l:=l) (ks:=[kOf]) (hE i hi);rw[hj] at h;exact h.2
 have ne2:=NeO.of_in (hC j hj);rw[hM];refine(yB (g:=fun s=>s) (jU ne2 _) Ab7.id fun _ _ _=>rfl).trans ?_
 show stO (thenK (tks l) (C j) [kEnd])=_
 rw[jV ne2]
 show _=kS _ _ (stO (at0 C (j,0)))
 rw[qR]
theorem zGq {E:Nat→Rs Tr} (hE:∀j,j≤l.length→In l.length j (E j)) {M:Nat→Fr→Rs Fr} {C:Nat→Rs Fr} (hC:∀j,j≤l.length→In l.length j (C j)) (hM:∀j,M j .nil=thn (C j) fun f j=>thn (keysL (tks l) j [kEnd]) fun _ m=>.inl (f,m)) {i m:Nat} (hi:i≤l.length) {u:Tr} (h:caseS l E M i = .inl (u,m)) :
  ∃a f j1 j2 j3,E i = .inl (a,j1)∧kS (tks l) kOf (j1,0)=(j2,0)∧C j2 = .inl (f,j3)∧u=nd 32 nob (.cons a.1 a.2 f):=by
 unfold caseS at h;obtain⟨a,j2,h1,h⟩:=qH h;obtain⟨j1,h2,h3⟩:=jH (NeO.of_in (hE i hi)) h1;have i2:j2≤l.length:=by have h:=qT (l:=l) (ks:=[kOf]) (hE i hi);rw[h1] at h;exact h.2
 rw[hM] at h;obtain⟨f,j4,h4,h⟩:=qH h;obtain⟨j3,h5,h6⟩:=jH (NeO.of_in (hC j2 i2)) (show thenK (tks l) (C j2) [kEnd] = .inl (f,j4) from h4);injection h with h;injection h with e1 e2;exact⟨a,f,j1,j2,j3,h2,h3,h5,e1.symm⟩
theorem zAb {E:Nat→Rs Tr} (hE:∀j,j≤l.length→In l.length j (E j)) {M:Nat→Fr→Rs Fr} {C:Nat→Rs Fr} (hC:∀j,j≤l.length→In l.length j (C j)) (hM:∀j,M j .nil=thn (C j) fun f j=>thn (keysL (tks l) j [kEnd]) fun _ m=>.inl (f,m)) {i:Nat} (hi:i≤l.length):stO (foldS nk lg l E M i)=foldG nk lg l E C (i,0):=by
 unfold foldS;have ne:=NeO.of_in (hE i hi);refine(yB (g:=fun s=>kS (tks l) kEnd (rS C (kS (tks l) kOf (rS (typL nk lg (tks l)) s)))) (jU ne _) ((jC _ _).comp ((xC _).comp ((jC _ _).comp (xC _)))) fun _ j hj=>?_).trans (by rw[jV ne];show _=kS _ _ (rS C (kS _ _ (rS _ (kS _ _ (stO (at0 E (i,0)))))));rw[qR]);have hj:j≤l.length:=by have h:=qT (l:=l) (ks:=[kTo]) (hE i hi);rw[hj] at h;exact h.2
 have ne1:=uC (nk:=nk) (lg:=lg) j hj;refine(yB (g:=fun s=>kS (tks l) kEnd (rS C s)) (jU ne1 _) ((jC _ _).comp (xC _)) fun _ j2 hj2=>?_).trans (by rw[jV ne1];show _=kS _ _ (rS C (kS _ _ (stO (at0 _ (j,0)))));rw[qR]);have hj2:j2≤l.length:=by have h:=qT (l:=l) (ks:=[kOf]) (xQ (nk:=nk) (lg:=lg) hj);rw[hj2] at h;exact h.2
 have ne2:=NeO.of_in (hC j2 hj2);rw[hM];refine(yB (g:=fun s=>s) (jU ne2 _) Ab7.id fun _ _ _=>rfl).trans ?_
 show stO (thenK (tks l) (C j2) [kEnd])=_
 rw[jV ne2]
 show _=kS _ _ (stO (at0 C (j2,0)))
 rw[qR]
theorem zGr {E:Nat→Rs Tr} (hE:∀j,j≤l.length→In l.length j (E j)) {M:Nat→Fr→Rs Fr} {C:Nat→Rs Fr} (hC:∀j,j≤l.length→In l.length j (C j)) (hM:∀j,M j .nil=thn (C j) fun f j=>thn (keysL (tks l) j [kEnd]) fun _ m=>.inl (f,m)) {i m:Nat} (hi:i≤l.length) {u:Tr} (h:foldS nk lg l E M i = .inl (u,m)) :
  ∃a t f j1 j2 j3 j4 j5,E i = .inl (a,j1)∧kS (tks l) kTo (j1,0)=(j2,0)∧typL nk lg (tks l) j2 = .inl (t,j3)∧kS (tks l) kOf (j3,0)=(j4,0)∧C j4 = .inl (f,j5)∧u=nd 33 nob (.cons a.1 a.2 (.cons t.1 t.2 f)):=by
 unfold foldS at h;obtain⟨a,j2,h1,h⟩:=qH h;obtain⟨j1,h2,h3⟩:=jH (NeO.of_in (hE i hi)) h1;have i2:j2≤l.length:=by have h:=qT (l:=l) (ks:=[kTo]) (hE i hi);rw[h1] at h;exact h.2
 obtain⟨t,j4,h4,h⟩:=qH h;obtain⟨j3,h5,h6⟩:=jH (uC j2 i2) h4;have i4:j4≤l.length:=by have h:=qT (l:=l) (ks:=[kOf]) (xQ (nk:=nk) (lg:=lg) i2);rw[h4] at h;exact h.2
 rw[hM] at h;obtain⟨f,j6,h7,h⟩:=qH h;obtain⟨j5,h8,h9⟩:=jH (NeO.of_in (hC j4 i4)) (show thenK (tks l) (C j4) [kEnd] = .inl (f,j6) from h7);injection h with h;injection h with e1 e2;exact⟨a,t,f,j1,j2,j3,j4,j5,h2,h3,h5,h6,h8,e1.symm⟩
end
end Go.Proofs.YtbpijnalmakfaaaGreatDoor
namespace Go.Proofs.YtbpijnalmakfaaaGreatDoor
open Go.RowKit
theorem yV9 (b:Nat) (v:Value) (i:Nat) (e:Int) (x:Value) (d:Bool) (w:World) (cS:∀w',Up w w'→Calls Tryz.prog 263 #[v,.int .i64 (i:Int)] w' (AnP x d w')) (h:Psr w b v i e) :
  Calls Tryz.prog 268 #[.pointer (some ⟨b,0,none⟩),.func (.func 263) #[] #[]] w (AnP (if e=0 then x else .int .i64 0) (decide (e=0)&&d) w):=by
 obtain⟨c0,c1,c2,f1,f2⟩:=h.cells;have hb:b<w.heap.size:=qC h;clear h f1 f2
 by_cases he:e=0
 ·subst he
  have c0u:∀u:Upw w,u.w.cell? ⟨b,0,none⟩=some v:=Upw.cell c0;have c1u:∀u:Upw w,u.w.cell? ⟨b,1,none⟩=some (.int .i64 (i:Int)):=Upw.cell c1;have CK:∀u:Upw w,Calls Tryz.prog 263 #[v,.int .i64 (i:Int)] u.w fun e w'=>e = .returned (.tuple #[x,.bool d])∧Up w w':=fun u=>(cS u.w u.h).mono fun e w' ⟨h1,h2⟩=>⟨h1,u.h.trans h2⟩
  have HK:=Lib.hid CK;have U0:=Lib.hid (Up.refl w);have HD:Hid ((decide ((0:Int)=0)&&d)=d):=Lib.hid (by rw[decide_eq_true rfl,Bool.true_and]);rw[if_pos rfl,HD.out];clear CK cS c0 c1
  go_enter Tryz.func268,Tryz.ntmps268
  go_wp2_with fail;refine qF (W:=w) U0.out (by kernel_rfl) (by kernel_rfl) ?_
  repeat (go_big_quiet_step (first
   | (go_at_call 263;exact Calls.upw (HK.out _))))
  refine wpQuiet_nil ?_;rintro _ ⟨⟨w9,u9⟩,rfl⟩;go_wp2_with fail
  go_ret2
  exact⟨rfl,u9⟩
 ·have HD:Hid ((decide (e=0)&&d)=false):=Lib.hid (by rw[decide_eq_false he,Bool.false_and])
  rw[if_neg he,HD.out];clear cS c0 c1
  go_enter Tryz.func268,Tryz.ntmps268
  go_wp2_with fail
  go_ret2
  exact⟨rfl,Up.refl _⟩
def PkPi (b:Nat) (v:Value) (x:Value) (d:Bool) (i:Nat) (e:Int) (w:World) (en:Ending) (w':World):Prop:=en = .returned (.tuple #[x,.bool d])∧Gs (On b) w w'∧Psr w' b v (if d then i+1 else i) e
theorem yVa (b:Nat) (v F:Value) (i:Nat) (e:Int) (x:Value) (d:Bool) (w:World) (cL:Calls Tryz.prog 268 #[.pointer (some ⟨b,0,none⟩),F] w (AnP x d w)) (h:Psr w b v i e) (hi:i≤1000000) :
  Calls Tryz.prog 262 #[.pointer (some ⟨b,0,none⟩),F] w (PkPi b v x d i e w):=by
 have hb:b<w.heap.size:=qC h;have H:=Lib.hid h;have hw:IntKind.i64.wrap ((i:Int)+1)=(i:Int)+1:=by rw[IntKind.wrap_i64];omega
 clear h
 cases d with
 | false=>
  go_enter Tryz.func262,Tryz.ntmps262
  go_wp2_with fail;refine cL.mono ?_;rintro en w1 ⟨rfl,u1⟩;go_wp2_with fail
  go_ret2
  exact⟨rfl,Gs.of u1,H.out.up u1⟩
 | true=>
  go_enter Tryz.func262,Tryz.ntmps262
  go_wp2_with fail;refine cL.mono ?_;rintro en w1 ⟨rfl,u1⟩;have h1:=H.out.up u1;obtain⟨d0,d1,d2,g1,g2⟩:=h1.cells;have H1:=Lib.hid h1;have U1:=Lib.hid u1;clear u1 h1 d0 g2;go_wp2_with fail
  go_ret2
  exact⟨rfl,(Gs.of U1.out).set _ _ (.inl rfl),H1.out.at _ _ (by rw[if_pos rfl];omega)⟩
end Go.Proofs.YtbpijnalmakfaaaGreatDoor
