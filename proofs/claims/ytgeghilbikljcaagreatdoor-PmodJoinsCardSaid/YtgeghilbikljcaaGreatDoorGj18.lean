/-
  Layer 7, the program's inSigns, whole; whole: an atom that begins with no half.
-/
import Derived.Test.YtgeghilbikljcaaGreatDoorGj17
set_option maxHeartbeats 40000000
set_option maxRecDepth 100000
namespace Go.Proofs.YtgeghilbikljcaaGreatDoor
open Go.RowKit
theorem zYm (l:List Tk) (R:Rs Tr):parR l R=thenK l R [kShut]:=by
 cases R with
 | inr e=>rfl
 | inl r=>
  show(if key l r.2 kShut then _ else _:Rs Tr)=thn (keysL l r.2 [kShut]) _
  unfold keysL keysL
  cases key l r.2 kShut<;>rfl
section
variable {V0:World} {v:Value} {l:List Te} {b:Nat}
theorem zYn (Q:Px8 V0 v l b) (E:Nat->Rs Tr) (hE:∀j,j<=l.length->In l.length j (E j)) (i:Nat) (hk:key (tks l) i kOpen=true) (w:World) (h:Psr w b v i 0) (hu:Up V0 w) (cE:∀j,i<j->j<=l.length->RuAt V0 v b 191 E j 0) :
  Calls Tryz.prog 266 #[.agg #[.pointer (some ⟨b,0,none⟩)]] w (PaT (On b) b v (thenK (tks l) (inS l E (i+1)) [kShut]) (fun _ _=>True) w):=by
 have hll:=Q.hl;have hbV:=Q.hb;have hb:b<w.heap.size:=qC h;have hi1:i+1<=l.length:=qF hk;rw[<- zYm];have hne:=zKq hE hi1;have hle:=zKr hE hi1;obtain⟨R,hR⟩:∃R,inS l E (i+1)=R:=⟨_,rfl⟩;obtain⟨W0,hW0⟩:∃W0,(w.alloc (.cells #[.pointer (some ⟨b,0,none⟩)] 183)).alloc (.cells #[.pointer none] 24)=W0:=⟨_,rfl⟩;have z0:W0.heap.size=w.heap.size+2:=by rw[<- hW0];simp
 have b1:W0.heap[w.heap.size]? = some (.cells #[.pointer (some ⟨b,0,none⟩)] 183 (0,0)):=by rw[<- hW0];exact yF _ (heap_alloc_new w _)
 have b2:W0.heap[w.heap.size+1]? = some (.cells #[.pointer none] 24 (0,0)):=by rw[<- hW0];exact yU _ _ (by simp)
 have u0:Up w W0:=by rw[<- hW0];exact((Up.refl w).alloc _).alloc _
 have hz:=hu.size;have cB:=zJ b v i 0 kOpen kShut 269 #[.pointer (some ⟨w.heap.size,0,none⟩),.pointer (some ⟨w.heap.size+1,0,none⟩)] (fun _ _=>by kernel_rfl) (Two b (w.heap.size+1)) (fun q hq=>by rcases hq with hq | hq<;>omega) hbV (rI R) (rE R) (P1 w (w.heap.size+1) R) W0
  Q.T (h.up u0) (hu.trans u0) (by omega) (by rw[<- hR];omega) (fun w2 g2 h2=>by
   rw[qQ,hk] at h2;rw[<- hR];exact zRn Q E hE w (i+1) hi1 w.heap.size (w.heap.size+1) none w2 (by have:=g2.size;omega) hb (by omega) (by omega) (by omega) (by omega) (g2.row b1 (by unfold On;omega)) (g2.row b2 (by unfold On;omega)) h2 (g2.up (hu.trans u0) fun q hq=>by rw[hq];exact hbV) fun j h3 h4=>cE j (by omega) h4)
 rw[hR] at hne ⊢;have HNE:=Lib.hid hne;have HW0:=Lib.hid hW0;have U0:=Lib.hid u0;clear hR hle hE b1 b2 u0 hW0 h hu cE hne Q hk;have k0:W0.cell? ⟨w.heap.size,0,none⟩=some (.pointer (some ⟨b,0,none⟩)):=by rw[<- HW0.out];exact cell_of_row _ _ 0 _ _ _ (yF _ (heap_alloc_new w _))
 go_enter Tryz.func266,Tryz.ntmps266
 go_wp2_with fail;rw[HW0.out];refine cB.mono ?_;rintro en w4 ⟨⟨u,rfl⟩,w2,w3,g2,g3,⟨A,b3,hT⟩,g4,h4⟩;have b4:Boxed w4 (w.heap.size+1) 24 (.pointer A):=g4.row b3 (by unfold On;omega);have c4:=b4.cell;have f4:=b4.frozen;have hb4:=b4.lt;have hgF:Gs (On b) w w4:=(((Gs.of U0.out:Gs (On b) w W0).trans g2).out2 g3 (by omega)).trans g4;have HGF:=Lib.hid hgF;have HTT:Hid (∀t j,R = .inl (t,j)->InT w4 (fun q=>NewS w w4 q/\q≠w.heap.size+1) (.pointer A) t):=Lib.hid fun t j hR=>InT.keep (hT t j hR) (fun q hq=>⟨⟨hq.1.1,Nat.lt_of_lt_of_le hq.1.2 g4.size⟩,hq.2⟩) fun q hq=>g4.block q hq.1.2 (by have:=hq.1.1;unfold On;omega)
 have H4:=Lib.hid h4;have B4:=Lib.hid b4;clear cB b4 hgF h4 g2 g3 g4 b3 hT k0;go_wp2_with fail;obtain⟨WF,hWF⟩:∃WF,w4.setCell ⟨w.heap.size+1,0,none⟩ (.pointer A)=WF:=⟨_,rfl⟩;have bF:Boxed WF (w.heap.size+1) 24 (.pointer A):=by rw[<- hWF];exact B4.out.set _
 have r0:=bF.cell;have hs:WF.heap.size=w4.heap.size:=by rw[<- hWF];simp[World.setCell]
 have hneq:∀q,q≠w.heap.size+1->WF.heap[q]? = w4.heap[q]?:=fun q hq=>by rw[<- hWF];exact Below.heap_setCell _ _ _ _ hq
 have gF:Gs (On b) w WF:=by rw[<- hWF];exact HGF.out.set _ _ (.inr (by simp))
 have pF:Psr WF b v (neI (rI R) (tkB (tks l) (rI R) (rE R) kShut)) (neE (rE R) (tkB (tks l) (rI R) (rE R) kShut)):=(hneq b (by omega)).trans H4.out;have hle:=HNE.out;rw[hWF];refine bodyPost_ret (v:=.pointer A) (by simp[results,Tryz.results266,go_sem,r0]) rfl ⟨_,rfl,gF,?_⟩
 cases R with
 | inr e=>
  obtain⟨p,r⟩:=e;have hr:¬r=0:=hle p r rfl;simp only[rI,rE] at pF;rw[zE hr,tY hr] at pF;exact pF
 | inl e=>
  obtain⟨t,j⟩:=e;simp only[rI,rE] at pF;rw[qQ] at pF;unfold parR;simp only
  cases hk:key (tks l) j kShut with
  | false=>rw[hk] at pF;exact pF
  | true=>
   rw[hk] at pF;exact⟨InT.keep (HTT.out t j rfl) (fun q hq=>⟨hq.1.1,by rw[hs];exact hq.1.2⟩) (fun q hq=>hneq q hq.2),pF,trivial⟩
end
section
variable {l:List Te} {i:Nat}
theorem zNb {n:Int} (h:numQ l i=some n):hdE B.long l i = .num n:=by
 unfold numQ at h;unfold hdE
 cases ht:l[i]? with
 | none=>rw[ht] at h;cases h
 | some t=>
  rw[ht] at h;simp only at h ⊢
  split at h
  ·rename_i hc
   rw[Bool.and_eq_true,Bool.and_eq_true] at hc;have h2:t.t.k=2:=of_decide_eq_true hc.1;unfold hdT;rw[if_neg (by omega),if_pos h2,if_pos ⟨of_decide_eq_true hc.2.1,of_decide_eq_true hc.2.2⟩,Option.some.inj h]
  ·cases h
theorem zNc {s:ByteArray} (h:nam B.long (tks l) i=some s):hdE B.long l i = .var s:=by
 unfold nam at h;rw[yM] at h;unfold hdE
 cases ht:l[i]? with
 | none=>rw[ht] at h;cases h
 | some t=>
  rw[ht] at h;simp only[Option.map_some] at h ⊢
  split at h
  ·rename_i hc
   rw[Bool.and_eq_true] at hc;have h1:t.t.k=1:=of_decide_eq_true hc.1;unfold hdT;rw[if_neg (by omega),if_neg (by omega),if_pos h1,if_pos hc.2,Option.some.inj h]
  ·cases h
theorem vL {x:ByteArray} (h:key (tks l) i x=true):hdE B.long l i=if x=kTrue then .boo 1 else if x=wB then .boo 0 else if x=kOpen then .opn else if x=kOne then .sel 27 else if x=kTwo then .sel 28 else .no:=by
 unfold key at h;rw[yM] at h;unfold hdE
 cases ht:l[i]? with
 | none=>rw[ht] at h;cases h
 | some t=>
  rw[ht] at h;simp only[Option.map_some] at h ⊢;rw[Bool.and_eq_true] at h;have h3:t.t.k=3:=of_decide_eq_true h.1;have hx:t.t.s=x:=of_decide_eq_true h.2;unfold hdT;rw[if_pos h3,hx]
theorem zKs (h1:numQ l i=none) (h2:nam B.long (tks l) i=none) (h3:key (tks l) i kTrue=false) (h4:key (tks l) i wB=false) (h5:key (tks l) i kOpen=false) (h6:key (tks l) i kOne=false) (h7:key (tks l) i kTwo=false):hdE B.long l i = .no:=by
 unfold hdE
 cases ht:l[i]? with
 | none=>rfl
 | some t=>
  simp only;unfold hdT
  by_cases k3:t.t.k=3
  ·have hk:∀x,key (tks l) i x=decide (t.t.s=x):=fun x=>by
    unfold key;rw[yM,ht];simp only[Option.map_some];rw[decide_eq_true k3,Bool.true_and]
   rw[hk] at h3 h4 h5 h6 h7;rw[if_pos k3,if_neg (of_decide_eq_false h3),if_neg (of_decide_eq_false h4),if_neg (of_decide_eq_false h5),if_neg (of_decide_eq_false h6),if_neg (of_decide_eq_false h7)]
  ·rw[if_neg k3]
   by_cases k2:t.t.k=2
   ·rw[if_pos k2]
    unfold numQ at h1;rw[ht] at h1;simp only at h1;rw[decide_eq_true k2,Bool.true_and] at h1
    by_cases hr : -1073741824<=t.n/\t.n<=1073741824
    ·rw[decide_eq_true hr.1,decide_eq_true hr.2] at h1;cases h1
    ·rw[if_neg hr]
   ·rw[if_neg k2]
    by_cases k1:t.t.k=1
    ·rw[if_pos k1]
     unfold nam at h2;rw[yM,ht] at h2;simp only[Option.map_some] at h2;rw[decide_eq_true k1,Bool.true_and] at h2
     cases hl:B.long t.t.s with
     | true=>rw[hl] at h2;cases h2
     | false=>rfl
    ·rw[if_neg k1]
end
def Hd.who:Hd->Bool
 | .no=>false
 | .sel _=>false
 | _=>true
def WhP (l:List Te) (X:Rs Tr) (b:Nat) (v:Value) (i:Nat) (e:Int) (w:World) (en:Ending) (w':World):Prop:=∃P d,en = .returned (.tuple #[.pointer P,.bool d])/\Gs (On b) w w'/\
 ((¬(e=0/\(hdE B.long l i).who=true)/\d=false/\P=none/\Psr w' b v i e)\/(e=0/\(hdE B.long l i).who=true/\d=true/\Psr w' b v (rI X) (rE X)/\∀t m,X = .inl (t,m)->NewT w w' (.pointer P) t))
theorem leafN {w:World} {W:World} (x:Nod) (hW:W.heap.size<=w.heap.size):NewT W (w.alloc (.cells #[.int .i64 x.k,.int .i64 x.n,.string x.a,.string x.m,.slice none 0 0] 44)) (.pointer (some ⟨w.heap.size,0,none⟩)) (x,.nil):=
 kR (heap_alloc_new w _) ⟨hW,by simp⟩
section
variable {V0:World} {v:Value} {l:List Te} {b:Nat}
theorem zRo (Q:Px8 V0 v l b) (hv:Tke V0 v l) (A E:Nat->Rs Tr) (hE:∀j,j<=l.length->In l.length j (E j)) (i:Nat) (e:Int) (hi:i<=l.length) (w:World) (h:Psr w b v i e) (hu:Up V0 w) (cE:∀j,e=0->i<j->j<=l.length->RuAt V0 v b 191 E j 0) :
  Calls Tryz.prog 262 #[.agg #[.pointer (some ⟨b,0,none⟩)]] w (WhP l (zO B.long l A E i) b v i e w):=by
 have hll:=Q.hl;have hbV:=Q.hb;have hb:b<w.heap.size:=qC h;obtain⟨W0,hW0⟩:∃W0,w.alloc (.cells #[.pointer (some ⟨b,0,none⟩)] 183)=W0:=⟨_,rfl⟩;have u0:Up w W0:=by rw[<- hW0];exact(Up.refl w).alloc _
 have b1:W0.heap[w.heap.size]? = some (.cells #[.pointer (some ⟨b,0,none⟩)] 183 (0,0)):=by rw[<- hW0];exact heap_alloc_new w _
 have k0:W0.cell? ⟨w.heap.size,0,none⟩=some (.pointer (some ⟨b,0,none⟩)):=cell_of_row W0 w.heap.size 0 _ _ _ b1;have hgU:∀w',Gs (On b) W0 w'->Up V0 w':=fun w' g=>g.up (hu.trans u0) fun q hq=>by rw[hq];exact hbV
 have HGU:=Lib.hid hgU;have B1:=Lib.hid b1;have U0:=Lib.hid u0;have HW0:=Lib.hid hW0;have HQ:=Lib.hid Q;have HCE:=Lib.hid cE;have HE:=Lib.hid hE;have z0:W0.heap.size=w.heap.size+1:=by rw[<- hW0];simp
 obtain⟨qn,hqn⟩:∃qn,(if e=0 then numQ l i else none)=qn:=⟨_,rfl⟩;obtain⟨ql,hql⟩:∃ql,(if e=0 then nam B.long (tks l) i else none)=ql:=⟨_,rfl⟩;have c1:Calls Tryz.prog 264 #[.pointer (some ⟨b,0,none⟩),.func (.func 265) #[] #[]] W0 (PkPi b v (.int .i64 (qn.getD 0)) qn.isSome i e W0):=by
  have c:=zKi b v i e _ _ W0 (fun w' u=>zVw l i w' v (hv.up ((hu.trans u0).trans u))) (h.up u0);have c2:=zKj b v _ i e _ _ W0 c (h.up u0) (by omega);rw[<- hqn]
  by_cases he:e=0
  ·subst he
   rw[if_pos rfl,decide_eq_true rfl,Bool.true_and] at c2;rw[if_pos rfl];exact c2
  ·rw[if_neg he,decide_eq_false he,Bool.false_and] at c2
   rw[if_neg he];exact c2
 have c2:∀w',Gs (On b) W0 w'->Psr w' b v i e->Calls Tryz.prog 67 #[.pointer (some ⟨b,0,none⟩),.func (.func 45) #[] #[]] w' (PkPs b v (.string (ql.getD nob)) ql.isSome i e w'):=fun w' g p=>by
  have c:=zSk b v i e _ _ w' (fun w2 u=>HQ.out.T.long i w2 ((hgU w' g).trans u)) p;have c2:=mV b v _ i e _ _ w' c p (by omega);rw[<- hql]
  by_cases he:e=0
  ·subst he
   rw[if_pos rfl,decide_eq_true rfl,Bool.true_and] at c2;rw[if_pos rfl];exact c2
  ·rw[if_neg he,decide_eq_false he,Bool.false_and] at c2
   rw[if_neg he];exact c2
 have C2:=Lib.hid c2;have HQN:=Lib.hid hqn;have HQL:=Lib.hid hql;obtain⟨X,hX⟩:∃X,zO B.long l A E i=X:=⟨_,rfl⟩;have HX:=Lib.hid hX;rw[hX];clear hv hX hqn hql c2 hW0 u0 b1 hgU Q cE hE h hu
 go_enter Tryz.func262,Tryz.ntmps262
 go_wp2_with fail;rw[HW0.out];refine c1.mono ?_;rintro en w1 ⟨rfl,g1,p1⟩
 cases qn with
 | some n=>
  have h0:e=0/\numQ l i=some n:=by
   have h:=HQN.out
   by_cases he:e=0
   ·rw[if_pos he] at h;exact⟨he,h⟩
   ·rw[if_neg he] at h;cases h
  have HH:=Lib.hid h0;have G1:=Lib.hid g1;have P1:=Lib.hid p1;clear h0 g1 p1 c1;go_wp2_with fail
  go_ret2
  have hd:=zNb HH.out.2;have hXX:X = .inl ((⟨20,n,nob,nob⟩,.nil),i+1):=by rw[<- HX.out];unfold zO;rw[hd]
  have ua:=(Up.refl w1).alloc (.cells #[.int .i64 20,.int .i64 n,.string ⟨#[]⟩,.string ⟨#[]⟩,.slice none 0 0] 44);refine⟨_,_,rfl,((Gs.of U0.out).trans G1.out).alloc _,.inr ⟨HH.out.1,by rw[hd];rfl,rfl,?_,fun t m ht=>?_⟩⟩
  ·rw[hXX]
   have h:=P1.out.up ua;rw[HH.out.1] at h;exact h
  ·rw[hXX] at ht
   injection ht with ht;injection ht with e1 e2;rw[<- e1];exact leafN ⟨20,n,nob,nob⟩ (by have:=U0.out.size;have:=G1.out.size;omega)
 | none=>
  have p1:Psr w1 b v i e:=p1;have cL:=C2.out w1 g1 p1;have r1:w1.heap[w.heap.size]? = some (.cells #[.pointer (some ⟨b,0,none⟩)] 183 (0,0)):=g1.row B1.out (by unfold On;omega);have k1:w1.cell? ⟨w.heap.size,0,none⟩=some (.pointer (some ⟨b,0,none⟩)):=cell_of_row w1 w.heap.size 0 _ _ _ r1;have hb1:=qC r1;have G1:=Lib.hid g1;clear g1 p1 r1 c1 k0;go_wp2_with fail;refine cL.mono ?_;rintro en w2 ⟨rfl,g2,p2⟩
  cases ql with
  | some s=>
   have h0:e=0/\nam B.long (tks l) i=some s:=by
    have h:=HQL.out
    by_cases he:e=0
    ·rw[if_pos he] at h;exact⟨he,h⟩
    ·rw[if_neg he] at h;cases h
   have HH:=Lib.hid h0;have G2:=Lib.hid (G1.out.trans g2);have P2:=Lib.hid p2;clear h0 g2 p2 cL;go_wp2_with fail
   go_ret2
   have hd:=zNc HH.out.2;have hXX:X = .inl (nd 23 s .nil,i+1):=by rw[<- HX.out];unfold zO;rw[hd]
   have ua:=(Up.refl w2).alloc (.cells #[.int .i64 23,.int .i64 0,.string s,.string ⟨#[]⟩,.slice none 0 0] 44);refine⟨_,_,rfl,((Gs.of U0.out).trans G2.out).alloc _,.inr ⟨HH.out.1,by rw[hd];rfl,rfl,?_,fun t m ht=>?_⟩⟩
   ·rw[hXX]
    have h:=P2.out.up ua;rw[HH.out.1] at h;exact h
   ·rw[hXX] at ht
    injection ht with ht;injection ht with e1 e2;rw[<- e1];exact leafN ⟨23,0,s,nob⟩ (by have:=U0.out.size;have:=G2.out.size;omega)
  | none=>
   have p2:Psr w2 b v i e:=p2;have G2:=Lib.hid (G1.out.trans g2);have u2:=HGU.out w2 G2.out;have cT:=qP b v i e kTrue w2 HQ.out.T p2 u2 (by omega);have r2:w2.heap[w.heap.size]? = some (.cells #[.pointer (some ⟨b,0,none⟩)] 183 (0,0)):=G2.out.row B1.out (by unfold On;omega);have k2:w2.cell? ⟨w.heap.size,0,none⟩=some (.pointer (some ⟨b,0,none⟩)):=cell_of_row w2 w.heap.size 0 _ _ _ r2;have hb2:=qC r2;obtain⟨d3,hd3⟩:∃d,tkB (tks l) i e kTrue=d:=⟨_,rfl⟩;rw[hd3] at cT;have HD3:=Lib.hid hd3;have P2:=Lib.hid p2;clear g2 p2 r2 u2 cL k1 hd3
   cases d3 with
   | true=>
    have h0:e=0/\key (tks l) i kTrue=true:=by
     have h:=HD3.out;unfold tkB at h;rw[Bool.and_eq_true] at h;exact⟨of_decide_eq_true h.1,h.2⟩
    have HH:=Lib.hid h0;clear h0;go_wp2_with fail;refine cT.mono ?_;rintro en w3 ⟨rfl,g3,p3⟩;have G3:=Lib.hid (G2.out.trans g3);have P3:=Lib.hid p3;clear g3 p3 cT;go_wp2_with fail
    go_ret2
    have hd:=vL HH.out.2;have hXX:X = .inl ((⟨21,1,nob,nob⟩,.nil),i+1):=by rw[<- HX.out];unfold zO;rw[hd];rfl
    have ua:=(Up.refl w3).alloc (.cells #[.int .i64 21,.int .i64 1,.string ⟨#[]⟩,.string ⟨#[]⟩,.slice none 0 0] 44);refine⟨_,_,rfl,((Gs.of U0.out).trans G3.out).alloc _,.inr ⟨HH.out.1,by rw[hd];rfl,rfl,?_,fun t m ht=>?_⟩⟩
    ·rw[hXX]
     have h:=P3.out.up ua;rw[HH.out.1] at h;exact h
    ·rw[hXX] at ht
     injection ht with ht;injection ht with e1 e2;rw[<- e1];exact leafN ⟨21,1,nob,nob⟩ (by have:=U0.out.size;have:=G3.out.size;omega)
   | false=>
    go_wp2_with fail;refine cT.mono ?_;rintro en w3 ⟨rfl,g3,p3⟩;have p3:Psr w3 b v i e:=p3;have G3:=Lib.hid (G2.out.trans g3);have u3:=HGU.out w3 G3.out;have cF:=qP b v i e wB w3 HQ.out.T p3 u3 (by omega);have r3:w3.heap[w.heap.size]? = some (.cells #[.pointer (some ⟨b,0,none⟩)] 183 (0,0)):=G3.out.row B1.out (by unfold On;omega);have k3:w3.cell? ⟨w.heap.size,0,none⟩=some (.pointer (some ⟨b,0,none⟩)):=cell_of_row w3 w.heap.size 0 _ _ _ r3;have hb3:=qC r3;obtain⟨d4,hd4⟩:∃d,tkB (tks l) i e wB=d:=⟨_,rfl⟩;rw[hd4] at cF;have HD4:=Lib.hid hd4;clear g3 p3 r3 u3 cT k2 hd4
    cases d4 with
    | true=>
     have h0:e=0/\key (tks l) i wB=true:=by
      have h:=HD4.out;unfold tkB at h;rw[Bool.and_eq_true] at h;exact⟨of_decide_eq_true h.1,h.2⟩
     have HH:=Lib.hid h0;clear h0;go_wp2_with fail;refine cF.mono ?_;rintro en w4 ⟨rfl,g4,p4⟩;have G4:=Lib.hid (G3.out.trans g4);have P4:=Lib.hid p4;clear g4 p4 cF;go_wp2_with fail;refine(kL 21 _ _ _ _).mono ?_;rintro en w5 ⟨rfl,h5⟩;have H5:=Lib.hid h5;clear h5;go_wp2_with fail
     go_ret2
     have hd:=vL HH.out.2;have hXX:X = .inl ((⟨21,0,nob,nob⟩,.nil),i+1):=by rw[<- HX.out];unfold zO;rw[hd];rfl
     have ua:=(Up.refl w4).alloc (.cells #[.int .i64 21,.int .i64 0,.string ⟨#[]⟩,.string ⟨#[]⟩,.slice none 0 0] 44);rw[H5.out];refine⟨_,_,rfl,((Gs.of U0.out).trans G4.out).alloc _,.inr ⟨HH.out.1,by rw[hd];rfl,rfl,?_,fun t m ht=>?_⟩⟩
     ·rw[hXX]
      have h:=P4.out.up ua;rw[HH.out.1] at h;exact h
     ·rw[hXX] at ht
      injection ht with ht;injection ht with e1 e2;rw[<- e1];exact leafN ⟨21,0,nob,nob⟩ (by have:=U0.out.size;have:=G4.out.size;omega)
    | false=>
     go_wp2_with fail;refine cF.mono ?_;rintro en w4 ⟨rfl,g4,p4⟩;have p4:Psr w4 b v i e:=p4;have G4:=Lib.hid (G3.out.trans g4);have u4:=HGU.out w4 G4.out;have cO:=yW b v i e kOpen w4 HQ.out.T p4 u4;have r4:w4.heap[w.heap.size]? = some (.cells #[.pointer (some ⟨b,0,none⟩)] 183 (0,0)):=G4.out.row B1.out (by unfold On;omega);have k4:w4.cell? ⟨w.heap.size,0,none⟩=some (.pointer (some ⟨b,0,none⟩)):=cell_of_row w4 w.heap.size 0 _ _ _ r4;have hb4:=qC r4;obtain⟨d5,hd5⟩:∃d,tkB (tks l) i e kOpen=d:=⟨_,rfl⟩;rw[hd5] at cO;have HD5:=Lib.hid hd5;have P4:=Lib.hid p4;clear g4 p4 r4 u4 cF k3 hd5
     cases d5 with
     | true=>
      have h0:e=0/\key (tks l) i kOpen=true:=by
       have h:=HD5.out;unfold tkB at h;rw[Bool.and_eq_true] at h;exact⟨of_decide_eq_true h.1,h.2⟩
      have HH:=Lib.hid h0;clear h0;go_wp2_with fail;refine cO.mono ?_;rintro en w5 ⟨rfl,u5⟩;have u5:Up w4 w5:=u5;have k5:=u5.cell k4;have p5:Psr w5 b v i 0:=by have h:=P4.out.up u5;rw[HH.out.1] at h;exact h
      have cI:=zYn HQ.out E HE.out i HH.out.2 w5 p5 ((HGU.out w4 G4.out).trans u5) (fun j h1 h2=>HCE.out j HH.out.1 h1 h2);have G5:=Lib.hid (G4.out.trans (Gs.of u5));clear u5 p5 cO k4;go_wp2_with fail;refine cI.mono ?_;rintro en w6 hP;obtain⟨A6,rfl,g6,p6,n6⟩:=hP.psr;have G6:=Lib.hid g6;have P6:=Lib.hid p6;have N6:=Lib.hid n6;clear g6 p6 n6 hP cI;go_wp2_with fail
      go_ret2
      have hd:=vL HH.out.2;have hXX:X=thenK (tks l) (inS l E (i+1)) [kShut]:=by rw[<- HX.out];unfold zO;rw[hd];exact zKp l E (i+1)
      rw[hXX];exact⟨_,_,rfl,(Gs.of U0.out).trans (G5.out.trans G6.out),.inr ⟨HH.out.1,by rw[hd];rfl,rfl,P6.out,fun t m ht=>(N6.out t m ht).base (by have:=U0.out.size;have:=G5.out.size;omega)⟩⟩
     | false=>
      go_wp2_with fail;refine cO.mono ?_;rintro en w5 ⟨rfl,u5⟩;have U5:=Lib.hid (show Up w4 w5 from u5);clear u5 cO;go_wp2_with fail
      go_ret2
      refine⟨_,_,rfl,(Gs.of U0.out).trans (G4.out.trans (Gs.of U5.out)),.inl ⟨?_,rfl,rfl,P4.out.up U5.out⟩⟩;rintro⟨he,hw⟩;have h1:=HQN.out;have h2:=HQL.out;have h3:=HD3.out;have h4:=HD4.out;have h5:=HD5.out;subst he;rw[if_pos rfl] at h1 h2;rw[qQ] at h3 h4 h5
      cases h6:key (tks l) i kOne with
      | true=>rw[vL h6] at hw;exact absurd hw (by decide)
      | false=>
       cases h7:key (tks l) i kTwo with
       | true=>rw[vL h7] at hw;exact absurd hw (by decide)
       | false=>rw[zKs h1 h2 h3 h4 h5 h6 h7] at hw;exact absurd hw (by decide)
end
end Go.Proofs.YtgeghilbikljcaaGreatDoor
namespace Go.Proofs.YtgeghilbikljcaaGreatDoor
open Go.RowKit Go.Shelf
attribute [local go_sem] Oper.semAt_some
def bwdI (qs:List Int) (k:Nat):List (Nat×Int):=(List.range k).map fun j=>(qs.length-1-j,(qs[qs.length-1-j]?).getD 0)
theorem bR (qs:List Int) (k:Nat):bwdI qs (k+1)=bwdI qs k++[(qs.length-1-k,(qs[qs.length-1-k]?).getD 0)]:=by simp[bwdI,List.range_succ]
theorem yE (qs:List Int) (k:Nat):(bwdI qs k).length=k:=by simp[bwdI]
theorem zYo (n k:Nat) (h:k<n):((n:Int)-1-(k:Int))=((n-1-k:Nat):Int):=by omega
theorem zVx (F:Fence) (n vb:Nat) (hf:F.fn 267) (hro:F.round=none) (hn:1<=n) (l Bs n₀ cap:Nat) (A:Option Addr) (hv1:Bs≠vb) (qs:List Int) (hreach:qs.length<=100000000) (J Jx:List (Nat×Int)->World->Prop)
  (hY:∀pre x W,J pre W->pre.length<qs.length->YieldAt F (n-1) Tryz.prog l #[.int .i64 (x.1:Int),.int .i64 x.2] W fun e W'=>
   (e = .returned (.bool true)/\J (pre++[x]) W'/\Kq n₀ vb W W')\/(e = .returned (.bool false)/\Jx (pre++[x]) W'))
  (W:World) (hBn:Bs<n₀) (hBs:W.cell? ⟨Bs,0,none⟩=some (.slice A qs.length cap)) (hc:0<qs.length->∃b off,A=some ⟨b,off,none⟩/\b≠vb/\b<n₀/\∀j,j<qs.length->W.cell? ⟨b,off+j,none⟩=some (.int .i64 ((qs[j]?).getD 0))) (h0:J [] W) :
  CallsIn F n Tryz.prog 267 #[.func (.yield l) #[] #[],.pointer (some ⟨Bs,0,none⟩)] W fun e W'=>(∃v,e = .returned v)/\
   ((∃ys,ys=bwdI qs qs.length/\J ys W')\/(∃pre,(∃k,k<=qs.length/\pre=bwdI qs k)/\Jx pre W')):=by
 obtain⟨len,hlen⟩:∃len,qs.length=len:=⟨_,rfl⟩;have HLEN:=Lib.hid hlen;rw[hlen] at hBs hreach ⊢;have HC:=Lib.hid hc;have HY:=Lib.hid hY;clear hc hY hlen;refine callsIn_of_wp Tryz.func267 rfl hf ?_ hro;simp only[Tryz.ntmps267,List.size_toArray,List.length_cons,List.length_nil,Nat.reduceAdd,Nat.reduceSub,Array.replicate_succ,Array.replicate_zero,List.push_toArray,List.append_toArray,List.nil_append,List.cons_append];have hw1:IntKind.i64.wrap ((len:Int)-1)=(len:Int)-1:=by rw[IntKind.wrap_i64];omega
 gi_wp2
 gi_loopw [3] (fun i wr=>∃k:Nat,k<=len/\i = .int .i64 ((len:Int)-1-(k:Int))/\J (bwdI qs k) wr/\Kq n₀ vb W wr)
  (fun i _=>(intOf i+1).toNat)
 case atStart=>exact⟨0,Nat.zero_le _,jR (by omega),h0,Kq.refl _ _ _⟩
 case round=>
  obtain⟨k,hk,rfl,hJs,hnx⟩:=hrel;have hBs':=(hnx.cell (p:=⟨Bs,0,none⟩) hBn hv1).trans hBs
  by_cases hlt:k<len
  ·obtain⟨b,off,rfl,hv2,hb,hcc⟩:=HC.out (by rw[HLEN.out];omega)
   have hcx:wr.cell? ⟨b,off+(len-1-k),none⟩=some (.int .i64 ((qs[qs.length-1-k]?).getD 0)):=by
    have h:=(hnx.cell (p:=⟨b,off+(len-1-k),none⟩) hb hv2).trans (hcc (len-1-k) (by rw[HLEN.out];omega));rw[h,HLEN.out]
   obtain⟨fn,tmps,assign,body,hy,hR⟩:=HY.out _ (len-1-k,(qs[qs.length-1-k]?).getD 0) wr hJs (by rw[yE,HLEN.out];exact hlt)
   dsimp only at hy
   have hi:(len:Int)-1-(k:Int)=((len-1-k:Nat):Int):=zYo len k hlt;have hlt':len-1-k<len:=by omega
   have hsucc:bwdI qs (k+1)=bwdI qs k++[(len-1-k,(qs[qs.length-1-k]?).getD 0)]:=by rw[bR,HLEN.out]
   have HSUC:=Lib.hid hsucc;have HR:=Lib.hid hR;obtain⟨ix,hix⟩:∃ix,len-1-k=ix:=⟨_,rfl⟩;obtain⟨qx,hqx⟩:∃qx,(qs[qs.length-1-k]?).getD 0=qx:=⟨_,rfl⟩;rw[hix,hqx] at hcx hy;rw[hix] at hi hlt';rw[hi];have HIX:=Lib.hid hix;have HQX:=Lib.hid hqx;have HI:=Lib.hid hi;have hw2:IntKind.i64.wrap ((ix:Int)-1)=(ix:Int)-1:=by rw[IntKind.wrap_i64];omega
   clear hsucc hR hix hqx hi hcc
   gi_wp2
   refine HR.out.mono ?_;rintro e W3 (⟨rfl,hJ3,hk3⟩ | ⟨rfl,hJx3⟩)
   ·gi_wp2
    go_roundw
    case rel=>exact⟨k+1,by omega,jR (by have:=HI.out;omega),by rw[HSUC.out];exact hJ3,hnx.trans hk3⟩
    case measure=>first | (simp[intOf];omega) | simp[intOf]
   ·gi_wp2
    refine bodyPost_ret (results_none rfl _ _ _) rfl ?_;exact⟨⟨_,rfl⟩,.inr ⟨_,⟨k+1,by omega,HSUC.out.symm⟩,hJx3⟩⟩
  ·obtain rfl:k=len:=by omega
   have hi:¬(0:Int)<=(k:Int)-1-(k:Int):=by omega
   gi_wp2
   go_end0;exact⟨⟨_,rfl⟩,.inl (by first | exact hJs | exact⟨_,rfl,hJs⟩)⟩
theorem mD (F:Fence) (n:Nat) (hf:F.fn 263) (hro:F.round=none) (a:Option Addr) (len cap:Nat) (w:World) :
  CallsIn F n Tryz.prog 263 #[.slice a len cap] w fun e w'=>e = .returned (.func (.func 267) #[] #[.pointer (some ⟨w.heap.size,0,none⟩)])/\w'=w.alloc (.cells #[.slice a len cap] 119):=by
 refine callsIn_of_wp Tryz.func263 rfl hf ?_ hro;simp only[Tryz.ntmps263,List.size_toArray,List.length_cons,List.length_nil,Nat.reduceAdd,Nat.reduceSub,Array.replicate_succ,Array.replicate_zero,List.push_toArray,List.append_toArray,List.nil_append,List.cons_append]
 gi_wp2
 go_ret
 exact⟨rfl,rfl⟩
theorem xH (F:Fence) (n vb:Nat) (hf:F.fn 267) (hro:F.round=none) (hn:1<=n) (Bs n₀ cap:Nat) (A:Option Addr) (hv1:Bs≠vb) (qs:List Int) (hreach:qs.length<=100000000) (w:World) (hBs:Bs<n₀) (hn₀:n₀<=w.heap.size)
  (hc:w.cell? ⟨Bs,0,none⟩=some (.slice A qs.length cap)) (hI:0<qs.length->∃b off,A=some ⟨b,off,none⟩/\b≠vb/\b<n₀/\∀j,j<qs.length->w.cell? ⟨b,off+j,none⟩=some (.int .i64 ((qs[j]?).getD 0))) :
  SeqStopsK F n Tryz.prog 267 #[.pointer (some ⟨Bs,0,none⟩)] (fun x:Nat×Int=>#[Value.int .i64 (x.1:Int),Value.int .i64 x.2]) (Kq n₀ vb) (fun ys=>ys=bwdI qs qs.length)
   (fun pre=>∃k,k<=qs.length/\pre=bwdI qs k) qs.length w:=fun l J Jx W hW _ _ hY h0=>by
 have hc':=(hW.cell (p:=⟨Bs,0,none⟩) (by simp only;omega)).trans hc;exact zVx F n vb hf hro hn l Bs n₀ cap A hv1 qs hreach J Jx hY W hBs hc' (fun h0=>by
  obtain⟨b,off,h1,h2,h3,h4⟩:=hI h0;exact⟨b,off,h1,h2,h3,fun j hj=>(hW.cell (p:=⟨b,off+j,none⟩) (by simp only;omega)).trans (h4 j hj)⟩) h0
end Go.Proofs.YtgeghilbikljcaaGreatDoor
namespace Go.Proofs.YtgeghilbikljcaaGreatDoor
open Go.RowKit Go.Shelf
attribute [local go_sem] Oper.semAt_some
def wrapK (hs:List Int) (t:Tr):Tr:=hs.foldr (fun k t=>nd k nob (fr1 t)) t
def selW (hs:List Int) (R:Rs Tr):Rs Tr:=thn R fun a m=>.inl (wrapK hs a,m)
theorem zRp (R:Rs Tr):selW [] R=R:=by cases R<;>rfl
theorem zVy (hs:List Int) (k:Int) (R:Rs Tr):selW (hs++[k]) R=selW hs (selW [k] R):=by
 cases R with
 | inr e=>rfl
 | inl r=>
  show(.inl (wrapK (hs++[k]) r.1,r.2):Rs Tr) = .inl (wrapK hs (wrapK [k] r.1),r.2)
  unfold wrapK;rw[List.foldr_append]
theorem zWd (hs:List Int) (R:Rs Tr):stO (selW hs R)=stO R:=by cases R<;>rfl
theorem zVz (hs:List Int) (i:Nat) (k:Int) (t:Tr) (h:hs[i]? = some k):wrapK (hs.drop i) t=nd k nob (fr1 (wrapK (hs.drop (i+1)) t)):=by
 obtain⟨hk,he⟩:=List.getElem?_eq_some_iff.1 h;rw[List.drop_eq_getElem_cons hk,he]
 rfl
structure uT (l:List Te) (i:Nat) (e:Int) (hs:List Int):Prop where
 ne:¬e=0->hs=[]
 eq:e=0->∀m,qV B.nck B.long l (m+hs.length) i=selW hs (qV B.nck B.long l m (i+hs.length))
 any:0<hs.length->(hdE B.long l i).any=true
 le:i+hs.length<=l.length
theorem uT.nil {l:List Te} {i:Nat} {e:Int} (hi:i<=l.length):uT l i e []:=⟨fun _=>rfl,fun _ _=>(zRp _).symm,fun h=>absurd h (Nat.lt_irrefl _),hi⟩
theorem zRq {l:List Te} {j:Nat} {e k:Int} (h:halfQ (tks l) j e=some k):e=0/\hdE B.long l j = .sel k:=by
 unfold halfQ at h
 split at h
 ·rename_i h1
  unfold tkB at h1;rw[Bool.and_eq_true] at h1;rw[<- Option.some.inj h,vL h1.2];exact⟨of_decide_eq_true h1.1,rfl⟩
 ·split at h
  ·rename_i h1
   unfold tkB at h1;rw[Bool.and_eq_true] at h1;rw[<- Option.some.inj h,vL h1.2];exact⟨of_decide_eq_true h1.1,rfl⟩
  ·cases h
theorem uT.snoc {l:List Te} {i:Nat} {e k:Int} {hs:List Int} (h:uT l i e hs) (hq:halfQ (tks l) (i+hs.length) e=some k):uT l i e (hs++[k]):=by
 obtain⟨he,hd⟩:=zRq hq;have hlt:i+hs.length<l.length:=wC (lg:=B.long) (by rw[hd];rfl);have hlen:(hs++[k]).length=hs.length+1:=by simp
 refine⟨fun h0=>absurd he h0,fun h0 m=>?_,fun _=>?_,by rw[hlen];omega⟩
 ·rw[hlen,zVy]
  have e1:m+(hs.length+1)=(m+1)+hs.length:=by omega
  rw[e1,h.eq h0 (m+1),kE];unfold zO;rw[hd]
  rfl
 ·cases hs with
  | nil=>rw[show hdE B.long l i = .sel k from hd];rfl
  | cons a r=>exact h.any (Nat.succ_pos _)
theorem zWe {l:List Te} {j:Nat} (h:halfQ (tks l) j 0=none) (hw:(hdE B.long l j).who=false):hdE B.long l j = .no:=by
 cases hd:hdE B.long l j with
 | no=>rfl
 | sel k=>
  exfalso
  unfold hdE at hd
  cases ht:l[j]? with
  | none=>rw[ht] at hd;cases hd
  | some t=>
   rw[ht] at hd;unfold hdT at hd;simp only at hd;have hk:∀x,t.t.k=3->t.t.s=x->tkB (tks l) j 0 x=true:=fun x h3 hx=>by
    rw[qQ];unfold key;rw[yM,ht];simp only[Option.map_some];rw[decide_eq_true h3,decide_eq_true hx]
    rfl
   unfold halfQ at h
   split at hd
   ·rename_i h3
    split at hd
    ·cases hd
    ·split at hd
     ·cases hd
     ·split at hd
      ·cases hd
      ·split at hd
       ·rename_i h5
        rw[hk _ h3 h5,if_pos rfl] at h;cases h
       ·split at hd
        ·rename_i h6
         rw[hk _ h3 h6,if_pos rfl] at h
         split at h<;>cases h
        ·cases hd
   ·split at hd
    ·split at hd<;>cases hd
    ·split at hd
     ·split at hd<;>cases hd
     ·cases hd
 | num n=>rw[hd] at hw;cases hw
 | var s=>rw[hd] at hw;cases hw
 | boo n=>rw[hd] at hw;cases hw
 | opn=>rw[hd] at hw;cases hw
theorem zRr:(Tryz.prog.info? 3).map (fun i=>(i.zero,i.size,i.bytes))=some (some (.int .i64 0),1,8):=by kernel_rfl
def NJ (w W0:World) (Bn:Nat) (X:Rs Tr) (hs:List Int) (pre:List (Nat×Int)) (W:World):Prop:=
 ∃A,Boxed W Bn 24 (.pointer A)/\Gs (On Bn) W0 W/\(pre=bwdI hs pre.length->pre.length<=hs.length->∀t j,X = .inl (t,j)->InT W (Sc w Bn W) (.pointer A) (wrapK (hs.drop (hs.length-pre.length)) t))
theorem wG {w W0:World} {Bn:Nat} {X:Rs Tr} {hs:List Int} (hB:Bn<W0.heap.size):OwnFrom W0.heap.size (NJ w W0 Bn X hs):=fun s Y Z row ⟨A,hb,hg,ht⟩ hgr hr=>
 ⟨A,hb.kept hgr (fun e=>by have:=(hr Bn e.symm).1;omega),hg.grown hgr (fun g e=>.inr (hr g e).1),fun h1 h2 f j hf=>by
  have hk:∀q,Sc w Bn Y q->Z.heap[q]? = Y.heap[q]?:=fun q hq=>hgr.block q hq.1.2 fun e=>by
   obtain⟨-,o,ho,hc⟩:=hr q e.symm;obtain⟨o',ho',hc'⟩:=hq.2.2;rw[ho] at ho';have e:=Option.some.inj ho';rw[e,hc'] at hc
   cases hc
  exact InT.keep (ht h1 h2 f j hf) (fun q hq=>⟨⟨hq.1.1,Nat.lt_of_lt_of_le hq.1.2 hgr.size⟩,hq.2.1,hq.2.2.keep (hk q hq)⟩) hk⟩
theorem zKt {w:World} {S:Nat->Prop} {va:Value} {a:Tr} {k:Int} (ha:InT w S va a) (hS:∀q,S q->q<w.heap.size) :
  InT ((w.alloc (.cells #[va] 24)).alloc (.cells #[.int .i64 k,.int .i64 0,.string nob,.string ⟨#[]⟩,.slice (some ⟨w.heap.size,0,none⟩) 1 1] 44)) (fun q=>S q\/q=w.heap.size\/q=w.heap.size+1) (.pointer (some ⟨w.heap.size+1,0,none⟩)) (nd k nob (fr1 a)):=by
 have e1:(w.alloc (.cells #[va] 24)).heap.size=w.heap.size+1:=by simp
 obtain⟨W1,hW1⟩:∃W1,w.alloc (.cells #[va] 24)=W1:=⟨_,rfl⟩;have s1:W1.heap[w.heap.size]? = some (.cells #[va] 24 (0,0)):=by rw[<- hW1];exact heap_alloc_new w _
 have u1:Up w W1:=by rw[<- hW1];exact(Up.refl w).alloc _
 rw[hW1] at e1 ⊢;rw[<- e1];obtain⟨W2,hW2⟩:∃W2,W1.alloc (.cells #[.int .i64 k,.int .i64 0,.string nob,.string ⟨#[]⟩,.slice (some ⟨w.heap.size,0,none⟩) 1 1] 44)=W2:=⟨_,rfl⟩;have s2:W2.heap[W1.heap.size]? = some (.cells #[.int .i64 k,.int .i64 0,.string nob,.string ⟨#[]⟩,.slice (some ⟨w.heap.size,0,none⟩) 1 1] 44 (0,0)):=by rw[<- hW2];exact heap_alloc_new W1 _
 have u2:Up W1 W2:=by rw[<- hW2];exact(Up.refl W1).alloc _
 have s3:W2.heap[w.heap.size]? = some (.cells #[va] 24 (0,0)):=u2.row s1;have kp:∀q,S q->W2.heap[q]? = w.heap[q]?:=fun q hq=>(u1.trans u2).block q (hS q hq)
 rw[hW2];exact yV (x:=⟨k,0,nob,nob⟩) (f:=fr1 a) s2 rfl (Nat.le_refl _) (.inr (.inr rfl)) (.inr (.inl rfl)) ⟨⟨_,cell_of_row W2 w.heap.size 0 _ _ _ s3,InT.keep ha (fun _ h=>.inl h) kp⟩,trivial⟩
theorem sM {w W0 W:World} {Bn:Nat} {X:Rs Tr} {hs:List Int} {pre:List (Nat×Int)} {x:Nat×Int} {A:Option Addr} (hz:w.heap.size<=W0.heap.size) (bX:Boxed W Bn 24 (.pointer A)) (g:Gs (On Bn) W0 W)
  (ht:pre=bwdI hs pre.length->pre.length<=hs.length->∀t j,X = .inl (t,j)->InT W (Sc w Bn W) (.pointer A) (wrapK (hs.drop (hs.length-pre.length)) t)) :
  NJ w W0 Bn X hs (pre++[x]) (((W.setCell ⟨Bn,0,none⟩ (.pointer (some ⟨W.heap.size+1,0,none⟩))).alloc (.cells #[.pointer A] 24)).alloc (.cells #[.int .i64 x.2,.int .i64 0,.string nob,.string ⟨#[]⟩,.slice (some ⟨W.heap.size,0,none⟩) 1 1] 44)):=by
 obtain⟨Ws,hWs⟩:∃Ws,W.setCell ⟨Bn,0,none⟩ (.pointer (some ⟨W.heap.size+1,0,none⟩))=Ws:=⟨_,rfl⟩;have zs:Ws.heap.size=W.heap.size:=by rw[<- hWs];simp[World.setCell]
 have bs:Boxed Ws Bn 24 (.pointer (some ⟨W.heap.size+1,0,none⟩)):=by rw[<- hWs];exact bX.set _
 have gs:Gs (On Bn) W0 Ws:=by rw[<- hWs];exact g.set _ _ (.inl rfl)
 have hcn:∀q,q≠Bn->Ws.heap[q]? = W.heap[q]?:=fun q hq=>by rw[<- hWs];exact Below.heap_setCell _ _ _ _ hq
 rw[hWs,<- zs];rw[<- zs] at bs;refine⟨_,(bs.alloc _).alloc _,(gs.alloc _).alloc _,fun h1 h2 t j hX=>?_⟩;have hl1:(pre++[x]).length=pre.length+1:=by simp
 rw[hl1] at h1 h2 ⊢;rw[bR] at h1;obtain⟨h3,h4⟩:=List.append_inj' h1 rfl;have h5:x=(hs.length-1-pre.length,(hs[hs.length-1-pre.length]?).getD 0):=by simpa using h4
 obtain⟨k,hk⟩:∃k,hs[hs.length-1-pre.length]? = some k:=⟨_,List.getElem?_eq_getElem (by omega)⟩;have hx:x.2=k:=by rw[h5];show(hs[hs.length-1-pre.length]?).getD 0=k;rw[hk];rfl
 have hta:=ht h3 (by omega) t j hX;have hi:hs.length-(pre.length+1)=hs.length-1-pre.length:=by omega
 have hi2:hs.length-pre.length=hs.length-1-pre.length+1:=by omega
 rw[hi,zVz hs _ k t hk];rw[hi2] at hta;have kp:∀q,Sc w Bn W q->Ws.heap[q]? = W.heap[q]?:=fun q hq=>hcn q hq.2.1
 have h6:=zKt (k:=k) (InT.keep hta (fun _ h=>h) kp) (fun q hq=>by rw[zs];exact hq.1.2);rw[<- hx] at h6 ⊢;have hbW:Bn<W.heap.size:=bX.lt;have hgz:=g.size;have z2:((Ws.alloc (.cells #[.pointer A] 24)).alloc (.cells #[.int .i64 x.2,.int .i64 0,.string nob,.string ⟨#[]⟩,.slice (some ⟨Ws.heap.size,0,none⟩) 1 1] 44)).heap.size=Ws.heap.size+2:=by simp
 refine InT.keep h6 (fun q hq=>?_) fun q hq=>rfl
 rcases hq with hq | rfl | rfl
 ·exact⟨⟨hq.1.1,by rw[z2];have:=hq.1.2;omega⟩,hq.2.1,hq.2.2.keep ((((Up.refl Ws).alloc _).alloc _).block q (by rw[zs];exact hq.1.2) |>.trans (hcn q hq.2.1))⟩
 ·exact⟨⟨by omega,by rw[z2];omega⟩,by omega,⟨_,yF _ (heap_alloc_new Ws _),rfl⟩⟩
 ·exact⟨⟨by omega,by rw[z2];omega⟩,by omega,⟨_,yU _ _ (by simp),rfl⟩⟩
end Go.Proofs.YtgeghilbikljcaaGreatDoor
