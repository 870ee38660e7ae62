/-
  Layer 7, the program's sum, term, comparison.
-/
import Derived.Test.YtbpijnalmakfaaaGreatDoorGw24
set_option maxHeartbeats 40000000
set_option maxRecDepth 100000
namespace Go.Proofs.YtbpijnalmakfaaaGreatDoor
open Go.RowKit
theorem zGz (b:Nat) (v:Value) (R:Rs Tr) (w:World) (cL:∀w',Up w w'→Calls Tryz.prog 171 #[.agg #[.pointer (some ⟨b,0,none⟩)],.func (.func 172) #[.agg #[.pointer (some ⟨b,0,none⟩)]] #[],.int .i64 2] w' (PaT (On b) b v R (fun _ _=>True) w')) :
  Calls Tryz.prog 122 #[.agg #[.pointer (some ⟨b,0,none⟩)]] w (PaT (On b) b v R (fun _ _=>True) w):=by
 have u0:=(Up.refl w).alloc (.cells #[.pointer (some ⟨b,0,none⟩)] 62);have cN:=cL _ u0;have U0:=Lib.hid u0;clear cL u0
 go_enter Tryz.func122,Tryz.ntmps122
 go_wp2_with fail;refine cN.mono ?_;rintro en w1 hP;obtain⟨A,rfl,h⟩:=PaT.base U0.out hP;have H:=Lib.hid h;clear h hP;go_wp2_with fail
 go_ret
 exact⟨A,rfl,H.out⟩
theorem zLl (b:Nat) (v:Value) (R:Rs Tr) (w:World) (cL:∀w',Up w w'→Calls Tryz.prog 171 #[.agg #[.pointer (some ⟨b,0,none⟩)],.func (.func 198) #[.agg #[.pointer (some ⟨b,0,none⟩)]] #[],.int .i64 3] w' (PaT (On b) b v R (fun _ _=>True) w')) :
  Calls Tryz.prog 172 #[.agg #[.pointer (some ⟨b,0,none⟩)]] w (PaT (On b) b v R (fun _ _=>True) w):=by
 have u0:=(Up.refl w).alloc (.cells #[.pointer (some ⟨b,0,none⟩)] 62);have cN:=cL _ u0;have U0:=Lib.hid u0;clear cL u0
 go_enter Tryz.func172,Tryz.ntmps172
 go_wp2_with fail;refine cN.mono ?_;rintro en w1 hP;obtain⟨A,rfl,h⟩:=PaT.base U0.out hP;have H:=Lib.hid h;clear h hP;go_wp2_with fail
 go_ret
 exact⟨A,rfl,H.out⟩
structure Px8 (V0:World) (v:Value) (l:List Te) (b:Nat):Prop where
 T:Toks B.nck B.long V0 v (tks l)
 O:Op7 V0
 hb:V0.heap.size≤b
 hl:l.length≤100000
def RuAt (V0:World) (v:Value) (b:Nat) (f:FuncId) (R:Nat→Rs Tr) (j:Nat) (e:Int):Prop:=∀w,Up V0 w→Psr w b v j e→Calls Tryz.prog f #[.agg #[.pointer (some ⟨b,0,none⟩)]] w (PaT (On b) b v (at0 R (j,e)) (fun _ _=>True) w)
section
variable {V0:World} {v:Value} {l:List Te} {b:Nat}
theorem zAe (Q:Px8 V0 v l b) (n:Nat) (A:Nat→Rs Tr) (hA:∀j,j≤l.length→In l.length j (A j)) (i:Nat) (e:Int) (hi:i≤l.length) (hn:e=0→l.length-i+1≤n)
  (cT:∀(j:Nat) (e':Int),j≤l.length→(e'=0→e=0∧i≤j)→RuAt V0 v b 198 (appS B.long l n A) j e'):RuAt V0 v b 172 (mulS B.long l n A) i e:=fun w hu h=>by
 have es:mulS B.long l n A=lopS (appS B.long l n A) (sgo l 3) n:=by unfold mulS;rw[show sgo l 3=sMul l from funext (sgo_3 l)]
 rw[es];exact zLl b v _ w fun w' u=>lO b v 198 #[.agg #[.pointer (some ⟨b,0,none⟩)]] #[] (fun _ _=>by kernel_rfl) 3 (appS B.long l n A) (fun j hj=>zXy hA hj) n i e hi hn Q.hl w' Q.T (h.up u) (hu.trans u) Q.hb Q.O (fun j e' w2 hj he u2 p2=>cT j e' hj he w2 u2 p2)
theorem yVd (Q:Px8 V0 v l b) (n:Nat) (A:Nat→Rs Tr) (hA:∀j,j≤l.length→In l.length j (A j)) (i:Nat) (e:Int) (hi:i≤l.length) (hn:e=0→l.length-i+1≤n)
  (cT:∀(j:Nat) (e':Int),j≤l.length→(e'=0→e=0∧i≤j)→RuAt V0 v b 198 (appS B.long l n A) j e'):RuAt V0 v b 122 (addS B.long l n A) i e:=fun w hu h=>by
 have es:addS B.long l n A=lopS (mulS B.long l n A) (sgo l 2) n:=by unfold addS;rw[show sgo l 2=sAdd l from funext (sgo_2 l)]
 rw[es];refine zGz b v _ w fun w' u=>lO b v 172 #[.agg #[.pointer (some ⟨b,0,none⟩)]] #[] (fun _ _=>by kernel_rfl) 2 (mulS B.long l n A) (fun j hj=>zXz hA hj) n i e hi hn Q.hl w' Q.T (h.up u) (hu.trans u) Q.hb Q.O (fun j e' w2 hj he u2 p2=>?_)
 exact zAe Q n A hA j e' hj (fun h0=>by have:=hn (he h0).1;have:=(he h0).2;omega) (fun j2 e2 hj2 he2=>cT j2 e2 hj2 fun h0=>⟨(he (he2 h0).1).1,Nat.le_trans (he (he2 h0).1).2 (he2 h0).2⟩) w2 u2 p2
theorem yVe (Q:Px8 V0 v l b) (n:Nat) (A:Nat→Rs Tr) (hA:∀j,j≤l.length→In l.length j (A j)) (i:Nat) (e:Int) (hi:i≤l.length)
  (cS:∀(j:Nat) (e':Int),j≤l.length→(e'=0→e=0∧i≤j)→RuAt V0 v b 122 (addS B.long l n A) j e'):RuAt V0 v b 56 (cmpS B.long l n A) i e:=fun w hu h=>by
 have hb:b<w.heap.size:=qC h;have hbV:=Q.hb;obtain⟨W0,hW0⟩:∃W0,w.alloc (.cells #[.pointer (some ⟨b,0,none⟩)] 62)=W0:=⟨_,rfl⟩;have u0:Up w W0:=by rw[←hW0];exact(Up.refl w).alloc _
 have b1:W0.heap[w.heap.size]? = some (.cells #[.pointer (some ⟨b,0,none⟩)] 62 (0,0)):=by rw[←hW0];exact heap_alloc_new w _
 have c0:=cS i e hi (fun h=>⟨h,Nat.le_refl _⟩) W0 (hu.trans u0) (h.up u0);have hgU:∀w',Gs (On b) W0 w'→Up V0 w':=fun w' g=>g.up (hu.trans u0) fun q hq=>by rw[hq];exact hbV
 obtain⟨S,hS⟩:∃S,addS B.long l n A=S:=⟨_,rfl⟩;have hSin:∀j,j≤l.length→In l.length j (S j):=fun j hj=>by rw[←hS];exact eC hA hj
 have hR:at0 (cmpS B.long l n A) (i,e)=thn (at0 S (i,e)) fun a j=>match opQ (tks l) 1 j 0 with
   | none=>.inl (a,j)
   | some k=>thn (S (j+1)) fun b m=>.inl ((opN ((k+1:Nat):Int),fr2 a b),m):=by
  by_cases he:e=0
  ·subst he
   rw[qR,qR];unfold cmpS;rw[hS]
   congr 1
   funext a j
   rw[←sgo_1];unfold sgo
   cases opQ (tks l) 1 j 0<;>rfl
  ·rw[kP _ he,kP _ he]
   rfl
 rw[hR];rw[hS] at c0 cS;have hXe:∀p r,at0 S (i,e) = .inr (p,r)→¬r=0:=fun p r hX=>by
  by_cases he:e=0
  ·subst he
   rw[qR] at hX;exact(hSin i hi).ne hX
  ·rw[kP _ he] at hX
   injection hX with hX;injection hX with _ hX;rw[←hX];exact he
 have hXi:∀a j,at0 S (i,e) = .inl (a,j)→e=0∧i≤j∧j≤l.length:=fun a j hX=>by
  by_cases he:e=0
  ·subst he
   rw[qR] at hX;have h1:=hSin i hi;rw[hX] at h1;exact⟨rfl,Nat.le_of_lt h1.1,h1.2⟩
  ·rw[kP _ he] at hX;cases hX
 have hXl:rI (at0 S (i,e))≤1000000:=by
  have hl:=Q.hl
  by_cases he:e=0
  ·subst he
   rw[qR];have h1:=hSin i hi
   cases hX:S i with
   | inl r=>rw[hX] at h1;have:=h1.2;simp only[rI];omega
   | inr r=>rw[hX] at h1;have:=h1.2.1;simp only[rI];omega
  ·rw[kP _ he];simp only[rI];omega
 obtain⟨X,hXq⟩:∃X,at0 S (i,e)=X:=⟨_,rfl⟩;rw[hXq] at c0 hXe hXi hXl;rw[hXq];have HCS:=Lib.hid cS;have HXE:=Lib.hid hXe;have HXI:=Lib.hid hXi;have HGU:=Lib.hid hgU;have B1:=Lib.hid b1;have UZ:=Lib.hid u0;have HW0:=Lib.hid hW0;have HQ:=Lib.hid Q;have HSI:=Lib.hid hSin;have z0:W0.heap.size=w.heap.size+1:=by rw[←hW0];simp
 clear hW0 b1 u0 hR hXe hXi hgU cS hXq hS hSin h hu Q
 go_enter Tryz.func56,Tryz.ntmps56
 go_wp2_with fail;rw[HW0.out];refine c0.mono ?_;rintro en w1 hP1;obtain⟨A1,rfl,g1,p1,n1⟩:=hP1.psr;have cO:=lM b v _ _ 1 w1 HQ.out.T p1 (HGU.out w1 g1) hbV (HQ.out.O.up (HGU.out w1 g1)) hXl;have r1:w1.heap[w.heap.size]? = some (.cells #[.pointer (some ⟨b,0,none⟩)] 62 (0,0)):=g1.row B1.out (by unfold On;omega);have c1:w1.cell? ⟨w.heap.size,0,none⟩=some (.pointer (some ⟨b,0,none⟩)):=cell_of_row w1 w.heap.size 0 _ _ _ r1;have hb1:=qC r1;have G1:=Lib.hid g1;have HN1:=Lib.hid n1;have R1:=Lib.hid r1;obtain⟨q,hq⟩:∃q,opQ (tks l) 1 (rI X) (rE X)=q:=⟨_,rfl⟩;rw[hq] at cO;have HQQ:=Lib.hid hq;clear r1 g1 n1 p1 c0 hP1 hq
 cases q with
 | none=>
  go_wp2_with fail;refine cO.mono ?_;rintro en w2 ⟨rfl,g2,h2⟩;have H2:=Lib.hid h2;have G2:=Lib.hid g2;clear g2 h2 cO;go_wp2_with fail
  go_ret
  refine⟨A1,rfl,(Gs.of UZ.out).trans (G1.out.trans G2.out),?_⟩;have h2:=H2.out
  cases X with
  | inr r=>exact h2
  | inl r=>
   obtain⟨a,j⟩:=r;have hqq:opQ (tks l) 1 j 0=none:=HQQ.out
   show match (match opQ (tks l) 1 j 0 with
    | none=>.inl (a,j)
    | some k=>thn (S (j+1)) fun b m=>.inl ((opN ((k+1:Nat):Int),fr2 a b),m):Rs Tr) with
    | .inl (t,j)=>_
    | .inr (p,r)=>_
   rw[hqq];exact⟨((HN1.out a j rfl).base UZ.out.size).gsb G2.out hb,h2,trivial⟩
 | some k=>
  cases X with
  | inr r=>
   have h0:opQ (tks l) 1 r.1 r.2=none:=zGs (HXE.out r.1 r.2 rfl);have h1:opQ (tks l) 1 r.1 r.2=some k:=HQQ.out;rw[h0] at h1
   cases h1
  | inl r=>
   obtain⟨a,j⟩:=r;obtain⟨he,hij,hjl⟩:=HXI.out a j rfl;have hqq:opQ (tks l) 1 j 0=some k:=HQQ.out;have hj1:j+1≤l.length:=by
    by_cases hjl:j<l.length
    ·exact hjl
    ·unfold opQ at hqq
     have:zTa (opT (tks l) 1 j 0)=none:=pR fun m _=>by
      unfold opT;rw[yA,kI (by rw[yV];omega),Bool.and_false]
     rw[this] at hqq
     cases hqq
   obtain⟨o1,p1,hp1⟩:=InT.ptr (HN1.out a j rfl);injection hp1 with hp1;subst hp1;have HQ2:=Lib.hid hqq;clear hqq;go_wp2_with fail;refine cO.mono ?_;rintro en w2 ⟨rfl,g2,h2⟩;have h2:Psr w2 b v (j+1) 0:=h2;have cT:=HCS.out (j+1) 0 hj1 (fun _=>⟨he,by omega⟩) w2 (HGU.out w2 (G1.out.trans g2)) h2;rw[qR] at cT;have hin:=HSI.out (j+1) hj1;obtain⟨Y,hY⟩:∃Y,S (j+1)=Y:=⟨_,rfl⟩;rw[hY] at cT hin;have r2:w2.heap[w.heap.size]? = some (.cells #[.pointer (some ⟨b,0,none⟩)] 62 (0,0)):=g2.row R1.out (by unfold On;omega);have c2:w2.cell? ⟨w.heap.size,0,none⟩=some (.pointer (some ⟨b,0,none⟩)):=cell_of_row w2 w.heap.size 0 _ _ _ r2;have hb2:=qC r2;have G2:=Lib.hid g2;have HY:=Lib.hid hY;clear g2 h2 r2 hY cO c1;go_wp2_with fail;refine cT.mono ?_;rintro en w3 hP3;obtain⟨A3,rfl,g3,p3,n3⟩:=hP3.psr;have P3:=Lib.hid p3;have N3:=Lib.hid n3;have G3:=Lib.hid g3;clear p3 n3 g3 hP3 cT;go_wp2_with fail;refine(zOs _ _ _ _).mono ?_;rintro en w4 ⟨rfl,h4⟩;have u4:Up w3 w4:=by rw[h4];exact((Up.refl _).alloc _).alloc _
   have hnd:∀b' m,Y = .inl (b',m)→NewT w w4 (.pointer (some ⟨w3.heap.size+1,0,none⟩)) (opN ((k+1:Nat):Int),fr2 a b'):=fun b' m hYe=>by
    have h1:=(((HN1.out a j rfl).base UZ.out.size).gsb (G2.out.trans G3.out) hb);have hz1:=UZ.out.size;have hz2:=G1.out.size;have hz3:=G2.out.size;have hz4:=G3.out.size;have h2:=hasOp (k:=opK (some k)) (by omega) h1 ((N3.out b' m hYe).base (by omega));rw[h4];exact h2
   have HND:=Lib.hid hnd;have U4:=Lib.hid u4;clear u4 hnd h4;go_wp2_with fail
   go_ret
   refine PaT.mk (((Gs.of UZ.out).trans (G1.out.trans (G2.out.trans G3.out))).trans (Gs.of U4.out)) ?_ fun t m hR=>?_
   ·have hst:stO (thn (.inl (a,j):Rs Tr) fun a j=>match opQ (tks l) 1 j 0 with
     | none=>.inl (a,j)
     | some k=>thn (S (j+1)) fun b m=>.inl ((opN ((k+1:Nat):Int),fr2 a b),m))=stO Y:=by
     show stO (match opQ (tks l) 1 j 0 with
      | none=>.inl (a,j)
      | some k=>thn (S (j+1)) fun b m=>.inl ((opN ((k+1:Nat):Int),fr2 a b),m):Rs Tr)=_
     rw[HQ2.out]
     show stO (thn (S (j+1)) _)=_
     rw[HY.out]
     cases Y<;>rfl
    have e1:=congrArg Prod.fst hst;have e2:=congrArg Prod.snd hst;simp only[stO] at e1 e2;rw[e1,e2];exact P3.out.up U4.out
   ·have hR:(match opQ (tks l) 1 j 0 with
      | none=>.inl (a,j)
      | some k=>thn (S (j+1)) fun b m=>.inl ((opN ((k+1:Nat):Int),fr2 a b),m):Rs Tr) = .inl (t,m):=hR
    rw[HQ2.out] at hR;obtain⟨b',m',hb',hm'⟩:=qH hR;rw[HY.out] at hb';injection hm' with hm';injection hm' with e1 e2;rw[←e1];exact HND.out b' m' hb'
end
def numQ (l:List Te) (i:Nat):Option Int:=match l[i]? with
 | some t=>if decide (t.t.k=2)&&(decide (-1073741824≤t.n)&&decide (t.n≤1073741824)) then some t.n else none
 | none=>none
theorem zLm (l:List Te) (i:Nat) (w:World) (v:Value) (hv:Tke w v l):Calls Tryz.prog 263 #[v,.int .i64 (i:Int)] w (AnP (.int .i64 ((numQ l i).getD 0)) (numQ l i).isSome w):=by
 obtain⟨A,c,rfl,hc⟩:=hv;obtain⟨n,hn⟩:∃n,l.length=n:=⟨_,rfl⟩;rw[hn];have h0':¬(i:Int)<0:=by omega
 by_cases hk:i<n
 ·obtain⟨t,ht⟩:∃t,l[i]? = some t:=⟨_,List.getElem?_eq_getElem (by rw[hn];exact hk)⟩
  obtain⟨b,o,rfl,hb,c0,c1,c2,m,c3⟩:=hc i t ht;have hki:¬(n:Int)≤(i:Int):=by omega
  have HE:Hid (numQ l i=if decide (t.t.k=2)&&(decide (-1073741824≤t.n)&&decide (t.n≤1073741824)) then some t.n else none):=Lib.hid (by unfold numQ;rw[ht]);rw[HE.out];clear hc ht hn HE c1 c3
  by_cases h3:t.t.k=2
  ·rw[decide_eq_true h3,Bool.true_and]
   rw[h3] at c0
   by_cases h1 : -1073741824≤t.n
   ·rw[decide_eq_true h1,Bool.true_and]
    have h1':¬t.n < -1073741824:=by omega
    by_cases h2:t.n≤1073741824
    ·rw[decide_eq_true h2]
     have h2':¬1073741824<t.n:=by omega
     go_enter Tryz.func263,Tryz.ntmps263
     go_wp2_with fail
     go_ret2
     exact⟨rfl,Up.refl _⟩
    ·rw[decide_eq_false h2]
     have h2':1073741824<t.n:=by omega
     go_enter Tryz.func263,Tryz.ntmps263
     go_wp2_with fail
     go_ret2
     exact⟨rfl,Up.refl _⟩
   ·rw[decide_eq_false h1,Bool.false_and]
    have h1':t.n < -1073741824:=by omega
    go_enter Tryz.func263,Tryz.ntmps263
    go_wp2_with fail
    go_ret2
    exact⟨rfl,Up.refl _⟩
  ·rw[decide_eq_false h3,Bool.false_and]
   go_enter Tryz.func263,Tryz.ntmps263
   go_wp2_with fail
   go_ret2
   exact⟨rfl,Up.refl _⟩
 ·have hki:(n:Int)≤(i:Int):=by omega
  have HE:Hid (numQ l i=none):=Lib.hid (by unfold numQ;rw[List.getElem?_eq_none (by omega)]);rw[HE.out]
  go_enter Tryz.func263,Tryz.ntmps263
  go_wp2_with fail
  go_ret2
  exact⟨rfl,Up.refl _⟩
theorem xA (k:Int) (A:Option Addr) (n c:Nat) (w:World) :
  Calls Tryz.prog 53 #[.int .i64 k,.slice A n c] w fun e w'=>e = .returned (.pointer (some ⟨w.heap.size,0,none⟩))∧w'=w.alloc (.cells #[.int .i64 k,.int .i64 0,.string ⟨#[]⟩,.string ⟨#[]⟩,.slice A n c] 57):=by
 go_enter Tryz.func53,Tryz.ntmps53
 go_wp2_with fail
 go_ret
 exact⟨rfl,rfl⟩
def halfQ (l:List Tk) (i:Nat) (e:Int):Option Int:=if tkB l i e kOne then some 27 else if tkB l i e kTwo then some 28 else none
def haI (q:Option Int) (i:Nat):Nat:=match q with
 | some _=>i+1
 | none=>i
def HaP (b:Nat) (v:Value) (q:Option Int) (i:Nat) (e:Int) (w:World) (en:Ending) (w':World):Prop:=en = .returned (.tuple #[.int .i64 (q.getD 0),.bool q.isSome])∧Gs (On b) w w'∧Psr w' b v (haI q i) e
section
variable {nk lg:ByteArray→Bool}
theorem zAf {V0:World} {l:List Tk} (b:Nat) (v:Value) (i:Nat) (e:Int) (w:World) (T:Toks nk lg V0 v l) (h:Psr w b v i e) (hu:Up V0 w) (hi:i≤1000000) (hbW:V0.heap.size≤b) :
  Calls Tryz.prog 249 #[.agg #[.pointer (some ⟨b,0,none⟩)]] w (HaP b v (halfQ l i e) i e w):=by
 have hb:b<w.heap.size:=qC h;obtain⟨W0,hW0⟩:∃W0,w.alloc (.cells #[.pointer (some ⟨b,0,none⟩)] 62)=W0:=⟨_,rfl⟩;have u0:Up w W0:=by rw[←hW0];exact(Up.refl w).alloc _
 have b1:W0.heap[w.heap.size]? = some (.cells #[.pointer (some ⟨b,0,none⟩)] 62 (0,0)):=by rw[←hW0];exact heap_alloc_new w _
 have c1:=qW b v i e kOne W0 T (h.up u0) (hu.trans u0) hi;have HU:=Lib.hid (hu.trans u0);have HT:=Lib.hid T;have HW0:=Lib.hid hW0;have U0:=Lib.hid u0;have B1:=Lib.hid b1;obtain⟨d1,hd1⟩:∃d,tkB l i e kOne=d:=⟨_,rfl⟩;obtain⟨d2,hd2⟩:∃d,tkB l i e kTwo=d:=⟨_,rfl⟩;rw[hd1] at c1;have HD2:=Lib.hid hd2;have HQ:Hid (halfQ l i e=if d1 then some 27 else if d2 then some 28 else none):=Lib.hid (by unfold halfQ;rw[hd1,hd2]);rw[HQ.out];clear hW0 u0 b1 h hu T hd1 hd2 HQ
 cases d1 with
 | true=>
  go_enter Tryz.func249,Tryz.ntmps249
  go_wp2_with fail;rw[HW0.out];refine c1.mono ?_;rintro en w1 ⟨rfl,g1,p1⟩;have G1:=Lib.hid g1;have P1:=Lib.hid p1;clear g1 p1;go_wp2_with fail
  go_ret2
  exact⟨rfl,(Gs.of U0.out).trans G1.out,P1.out⟩
 | false=>
  cases d2 with
  | true=>
   go_enter Tryz.func249,Tryz.ntmps249
   go_wp2_with fail;rw[HW0.out];refine c1.mono ?_;rintro en w1 ⟨rfl,g1,p1⟩;have u1:Up V0 w1:=g1.up HU.out fun q hq=>by rw[hq];exact hbW
   have c2:=qW b v i e kTwo w1 HT.out p1 u1 hi;rw[HD2.out] at c2;have r1:w1.heap[w.heap.size]? = some (.cells #[.pointer (some ⟨b,0,none⟩)] 62 (0,0)):=g1.row B1.out (by unfold On;omega);have cb:w1.cell? ⟨w.heap.size,0,none⟩=some (.pointer (some ⟨b,0,none⟩)):=cell_of_row w1 w.heap.size 0 _ _ _ r1;have hb1:=qC r1;have G1:=Lib.hid g1;clear g1 p1 u1 r1 c1;go_wp2_with fail;refine c2.mono ?_;rintro en w2 ⟨rfl,g2,p2⟩;have G2:=Lib.hid g2;have P2:=Lib.hid p2;clear g2 p2;go_wp2_with fail
   go_ret2
   exact⟨rfl,((Gs.of U0.out).trans G1.out).trans G2.out,P2.out⟩
  | false=>
   go_enter Tryz.func249,Tryz.ntmps249
   go_wp2_with fail;rw[HW0.out];refine c1.mono ?_;rintro en w1 ⟨rfl,g1,p1⟩;have u1:Up V0 w1:=g1.up HU.out fun q hq=>by rw[hq];exact hbW
   have c2:=qW b v i e kTwo w1 HT.out p1 u1 hi;rw[HD2.out] at c2;have r1:w1.heap[w.heap.size]? = some (.cells #[.pointer (some ⟨b,0,none⟩)] 62 (0,0)):=g1.row B1.out (by unfold On;omega);have cb:w1.cell? ⟨w.heap.size,0,none⟩=some (.pointer (some ⟨b,0,none⟩)):=cell_of_row w1 w.heap.size 0 _ _ _ r1;have hb1:=qC r1;have G1:=Lib.hid g1;clear g1 p1 u1 r1 c1;go_wp2_with fail;refine c2.mono ?_;rintro en w2 ⟨rfl,g2,p2⟩;have G2:=Lib.hid g2;have P2:=Lib.hid p2;clear g2 p2;go_wp2_with fail
   go_ret2
   exact⟨rfl,((Gs.of U0.out).trans G1.out).trans G2.out,P2.out⟩
end
def AtP (l:List Te) (A:Nat→Rs Tr) (b:Nat) (v:Value) (j:Nat) (e:Int) (w:World) (en:Ending) (w':World):Prop:=∃P d,en = .returned (.tuple #[.pointer P,.bool d])∧Gs (On b) w w'∧
 ((¬(e=0∧(hdE B.long l j).any=true)∧d=false∧Psr w' b v j e)∨(e=0∧(hdE B.long l j).any=true∧Psr w' b v (rI (A j)) (rE (A j))∧∀t m,A j = .inl (t,m)→d=true∧NewT w w' (.pointer P) t))
inductive ApQ (i0:Nat) (e0:Int) (l:List Te) (b:Nat) (v:Value) (R:Rs Tr) (A:Nat→Rs Tr) (w wr:World) (nv xv iv:Value):Prop
 | good (a:Tr) (j f:Nat) (P:Option Addr) (d:Bool) (he:e0=0∧i0≤j) (hj:j≤l.length) (hR:R=lop A (sApp B.long l) f a j) (hf:l.length-j+1≤f) (hn:NewT w wr nv a) (hx:xv = .pointer P) (hi:iv = .bool d)
   (hp:((hdE B.long l j).any=false∧d=false∧Psr wr b v j 0)∨((hdE B.long l j).any=true∧Psr wr b v (rI (A j)) (rE (A j))∧∀t m,A j = .inl (t,m)→d=true∧NewT w wr (.pointer P) t)):ApQ i0 e0 l b v R A w wr nv xv iv
 | bad (p:Nat) (r:Int) (N P:Option Addr) (hr:¬r=0) (hR:R = .inr (p,r)) (hn:nv = .pointer N) (hx:xv = .pointer P) (hi:iv = .bool false) (hp:Psr wr b v p r):ApQ i0 e0 l b v R A w wr nv xv iv
theorem ApQ.of {i0:Nat} {e0:Int} {l:List Te} {b:Nat} {v:Value} {R:Rs Tr} {A:Nat→Rs Tr} {w w2 wr:World} {N:Option Addr} {X:Rs Tr} {xv iv:Value} {f:Nat} {g:Tr→Tr} (hu:w.heap.size≤w2.heap.size) (hX:∀a j,X = .inl (a,j)→(e0=0∧i0≤j)∧j≤l.length∧R=lop A (sApp B.long l) f (g a) j∧l.length-j+1≤f∧NewT w wr (.pointer N) (g a)) (hX2:∀p r,X = .inr (p,r)→¬r=0∧R = .inr (p,r))
  (h:AtP l A b v (rI X) (rE X) w2 (.returned (.tuple #[xv,iv])) wr):ApQ i0 e0 l b v R A w wr (.pointer N) xv iv:=by
 obtain⟨P,d,h1,_,h3⟩:=h;injection h1 with h1;injection h1 with h1;have e1:xv = .pointer P:=by have:=congrArg (·[0]?) h1;exact Option.some.inj this
 have e2:iv = .bool d:=by have:=congrArg (·[1]?) h1;exact Option.some.inj this
 cases X with
 | inl r=>
  obtain⟨a,j⟩:=r;obtain⟨h8,h4,h5,h6,h7⟩:=hX a j rfl;refine .good (g a) j f P d h8 h4 h5 h6 h7 e1 e2 ?_
  rcases h3 with ⟨h9,h10,h11⟩ | ⟨_,h9,h10,h11⟩
  ·refine .inl ⟨?_,h10,h11⟩
   cases ha:(hdE B.long l j).any with
   | false=>rfl
   | true=>exact absurd ⟨rfl,ha⟩ h9
  ·exact .inr ⟨h9,h10,fun t m ht=>⟨(h11 t m ht).1,(h11 t m ht).2.base hu⟩⟩
 | inr r=>
  obtain⟨p,r⟩:=r;obtain⟨h4,h5⟩:=hX2 p r rfl
  rcases h3 with ⟨_,h10,h11⟩ | ⟨h9,_⟩
  ·exact .bad p r N P h4 h5 rfl e1 (by rw[e2,h10]) h11
  ·exact absurd h9 h4
theorem eK {l:List Te} {j:Nat} (h:(hdE B.long l j).any=false):sApp B.long l j=none:=by unfold sApp;rw[h];rfl
theorem pS {l:List Te} {j:Nat} (h:(hdE B.long l j).any=true):sApp B.long l j=some (⟨25,0,nob,nob⟩,0):=by unfold sApp;rw[h];rfl
section
variable {V0:World} {v:Value} {l:List Te} {b:Nat}
theorem yVf (Q:Px8 V0 v l b) (n:Nat) (A:Nat→Rs Tr) (hA:∀j,j≤l.length→In l.length j (A j)) (hA0:∀j,(hdE B.long l j).any=false→A j = .inr (j,6)) (hA1:∀j,(hdE B.long l j).any=true→j<rI (A j)) (i:Nat) (e:Int) (hi:i≤l.length) (hn:e=0→l.length-i+1≤n)
  (cA:∀(j:Nat) (e':Int) (w':World),j≤l.length→(e'=0→e=0∧i≤j)→Up V0 w'→Psr w' b v j e'→Calls Tryz.prog 226 #[.agg #[.pointer (some ⟨b,0,none⟩)]] w' (AtP l A b v j e' w')):RuAt V0 v b 198 (appS B.long l n A) i e:=fun w hu h=>by
 have hb:b<w.heap.size:=qC h;have hbV:=Q.hb;have hll:=Q.hl;obtain⟨W0,hW0⟩:∃W0,w.alloc (.cells #[.pointer (some ⟨b,0,none⟩)] 62)=W0:=⟨_,rfl⟩;have u0:Up w W0:=by rw[←hW0];exact(Up.refl w).alloc _
 have b1:W0.heap[w.heap.size]? = some (.cells #[.pointer (some ⟨b,0,none⟩)] 62 (0,0)):=by rw[←hW0];exact heap_alloc_new w _
 have c0:=cA i e W0 hi (fun h=>⟨h,Nat.le_refl _⟩) (hu.trans u0) (h.up u0);have hgU:∀w',Gs (On b) W0 w'→Up V0 w':=fun w' g=>g.up (hu.trans u0) fun q hq=>by rw[hq];exact hbV
 obtain⟨X,hXq⟩:∃X,at0 A (i,e)=X:=⟨_,rfl⟩;obtain⟨R,hR⟩:∃R,at0 (appS B.long l n A) (i,e)=R:=⟨_,rfl⟩;have hX1:∀a j,X = .inl (a,j)→(e=0∧i≤j)∧j≤l.length∧R=lop A (sApp B.long l) n a j∧l.length-j+1≤n:=fun a j hX=>by
  rw[←hXq] at hX
  by_cases he:e=0
  ·subst he
   rw[qR] at hX hR;have h1:=hA i hi;rw[hX] at h1;have h1:i<j∧j≤l.length:=h1;have:=hn rfl;refine⟨⟨rfl,by omega⟩,h1.2,?_,by omega⟩;rw[←hR];unfold appS lopS;rw[hX]
   rfl
  ·rw[kP _ he] at hX
   cases hX
 have hX2:∀p r,X = .inr (p,r)→¬r=0∧R = .inr (p,r):=fun p r hX=>by
  rw[←hXq] at hX
  by_cases he:e=0
  ·subst he
   rw[qR] at hX hR;refine⟨(hA i hi).ne hX,?_⟩;rw[←hR];unfold appS lopS;rw[hX]
   rfl
  ·rw[kP _ he] at hX hR
   rw[←hR,hX];injection hX with hX;injection hX with _ hX;exact⟨by rw[←hX];exact he,rfl⟩
 have hXl:rI X≤l.length:=by
  rw[←hXq]
  by_cases he:e=0
  ·subst he
   rw[qR];have h1:=hA i hi
   cases hX:A i with
   | inl r=>rw[hX] at h1;exact h1.2
   | inr r=>rw[hX] at h1;exact h1.2.1
  ·rw[kP _ he];exact hi
 have hfin:∀(P:Option Addr) (d:Bool) (w1:World),((¬(e=0∧(hdE B.long l i).any=true)∧d=false∧Psr w1 b v i e)∨(e=0∧(hdE B.long l i).any=true∧Psr w1 b v (rI (A i)) (rE (A i))∧∀t m,A i = .inl (t,m)→d=true∧NewT W0 w1 (.pointer P) t))→
   (d=true→Psr w1 b v (rI X) (rE X)∧∀t m,X = .inl (t,m)→NewT W0 w1 (.pointer P) t)∧(d=false→∃i1 e1,Psr w1 b v i1 e1∧i1=rI X∧(if e1=0 then 6 else e1)=rE X∧∀t m,X≠.inl (t,m)):=fun P d w1 h3=>by
  rcases h3 with ⟨h9,h10,h11⟩ | ⟨rfl,h9,h10,h11⟩
  ·refine⟨fun hd=>(by rw[h10] at hd;cases hd),fun _=>⟨i,e,h11,?_⟩⟩
   rw[←hXq]
   by_cases he:e=0
   ·subst he
    have ha:(hdE B.long l i).any=false:=by
     cases ha:(hdE B.long l i).any with
     | false=>rfl
     | true=>exact absurd ⟨rfl,ha⟩ h9
    rw[qR,hA0 i ha];exact⟨rfl,rfl,fun t m h=>by cases h⟩
   ·rw[kP _ he]
    exact⟨rfl,if_neg he,fun t m h=>by cases h⟩
  ·rw[qR] at hXq
   rw[←hXq];refine⟨fun _=>⟨h10,fun t m ht=>(h11 t m ht).2⟩,fun hd=>?_⟩
   cases hX:A i with
   | inl r=>rw[(h11 r.1 r.2 hX).1] at hd;cases hd
   | inr r=>
    rw[hX] at h10;exact⟨r.1,r.2,h10,rfl,if_neg ((hA i hi).ne hX),fun t m h=>by cases h⟩
 rw[hR];have HA:=Lib.hid hA;have HA1:=Lib.hid hA1;have HX1:=Lib.hid hX1;have HX2:=Lib.hid hX2;have HGU:=Lib.hid hgU;have HCA:=Lib.hid cA;have HFIN:=Lib.hid hfin;have B1:=Lib.hid b1;have UZ:=Lib.hid u0;have HW0:=Lib.hid hW0;have z0:W0.heap.size=w.heap.size+1:=by rw[←hW0];simp
 clear hA hA0 hA1 hX1 hX2 hgU cA hfin b1 u0 hW0 h hu hR hXq hn Q
 go_enter Tryz.func198,Tryz.ntmps198
 go_wp2_with fail;rw[HW0.out];refine c0.mono ?_;rintro en w1 ⟨P1,d1,rfl,g1,h3⟩;have hf:=HFIN.out P1 d1 w1 h3;have r1:w1.heap[w.heap.size]? = some (.cells #[.pointer (some ⟨b,0,none⟩)] 62 (0,0)):=g1.row B1.out (by unfold On;omega);have c1:w1.cell? ⟨w.heap.size,0,none⟩=some (.pointer (some ⟨b,0,none⟩)):=cell_of_row w1 w.heap.size 0 _ _ _ r1;have hb1:=qC r1;have R1:=Lib.hid r1;have G1:=Lib.hid g1;have HF:=Lib.hid hf;have key:∀(w2:World),Gs (On b) W0 w2→Psr w2 b v (rI X) (rE X)→Calls Tryz.prog 226 #[.agg #[.pointer (some ⟨b,0,none⟩)]] w2 (AtP l A b v (rI X) (rE X) w2):=fun w2 g p=>
  HCA.out (rI X) (rE X) w2 hXl (fun h0=>by
   cases X with
   | inl r=>exact(HX1.out r.1 r.2 rfl).1
   | inr r=>exact absurd h0 (HX2.out r.1 r.2 rfl).1) (HGU.out w2 g) p
 have KEY:=Lib.hid key;clear r1 g1 h3 hf key c0
 cases d1 with
 | true=>
  have hf:=HF.out.1 rfl;have G2:=Lib.hid G1.out;have HN2:Hid (∀t m,X = .inl (t,m)→NewT W0 w1 (.pointer P1) t):=Lib.hid hf.2;have cN:=KEY.out w1 G1.out hf.1;clear hf;go_wp2_with fail;refine cN.mono ?_;rintro en w3 hAT;have hAT':=hAT;obtain⟨P3,d3,rfl,g3,-⟩:=hAT';have hst:ApQ i e l b v R A w w3 (.pointer P1) (.pointer P3) (.bool d3):=by
   refine ApQ.of (f:=n) (g:=fun a=>a) (by have:=UZ.out.size;have:=G2.out.size;omega) (fun a j hX=>?_) HX2.out hAT;obtain⟨h8,h4,h5,h6⟩:=HX1.out a j hX;exact⟨h8,h4,h5,h6,((HN2.out a j hX).base UZ.out.size).gsb g3 hb⟩
  have HST:=Lib.hid hst;have G3:=Lib.hid (G2.out.trans g3);clear hst hAT g3 cN;go_wp2_with fail
  go_loopw [3,5,6] (fun nv xv iv wr=>Gs (On b) W0 wr∧ApQ i e l b v R A w wr nv xv iv) (fun _ _ iv wr=>boolN iv (l.length+1-posW b wr))
  case atStart=>exact⟨G3.out,HST.out⟩
  case round=>
   obtain⟨hg,hst⟩:=hrel;have hgs:=hg.size;have r1:wr.heap[w.heap.size]? = some (.cells #[.pointer (some ⟨b,0,none⟩)] 62 (0,0)):=hg.row B1.out (by unfold On;omega);have HR1:=Lib.hid r1;have HG:=Lib.hid hg;clear r1 hg
   cases hst with
   | bad p r N0 P0 hr hRe hnv hxv hiv hp=>
    subst hnv hxv hiv;have HP:=Lib.hid hp;have HRR:=Lib.hid hRe;clear hp hRe hr;go_wp2_with fail
    go_ret
    refine⟨N0,rfl,(Gs.of UZ.out).trans HG.out,?_⟩;rw[HRR.out];exact HP.out
   | good a j f P0 d hij hj hRl hf hnw hxv hiv hp=>
    subst hxv hiv;obtain⟨o1,p1,rfl⟩:=InT.ptr hnw;have HP:=Lib.hid hp;have HN:=Lib.hid hnw;have HRR:=Lib.hid hRl;clear hp hnw hRl;obtain⟨f,rfl⟩:∃g,f=g+1:=⟨f-1,by omega⟩
    cases d with
    | false=>
     go_wp2_with fail
     go_ret
     refine PaT.mk ((Gs.of UZ.out).trans HG.out) ?_ fun t m hRt=>?_
     ·rcases HP.out with ⟨h1,_,h3⟩ | ⟨h1,h2,h3⟩
      ·have hRR:R = .inl (a,j):=by rw[HRR.out];unfold lop;rw[eK h1]
       rw[hRR];exact h3
      ·cases hY:A j with
       | inl r=>have:=(h3 r.1 r.2 hY).1;cases this
       | inr r=>
        rw[hY] at h2;have hRR:R = .inr r:=by rw[HRR.out];unfold lop;rw[pS h1];simp only[Nat.add_zero];rw[hY];rfl
        rw[hRR];exact h2
     ·rcases HP.out with ⟨h1,_,h3⟩ | ⟨h1,h2,h3⟩
      ·have hRR:R = .inl (a,j):=by rw[HRR.out];unfold lop;rw[eK h1]
       rw[hRR] at hRt;injection hRt with hRt;injection hRt with e1 e2;rw[←e1];exact HN.out
      ·cases hY:A j with
       | inl r=>have:=(h3 r.1 r.2 hY).1;cases this
       | inr r=>
        have hRR:R = .inr r:=by rw[HRR.out];unfold lop;rw[pS h1];simp only[Nat.add_zero];rw[hY];rfl
        rw[hRR] at hRt
        cases hRt
    | true=>
     have hany:(hdE B.long l j).any=true:=by
      rcases HP.out with ⟨_,h2,_⟩ | ⟨h1,_,_⟩
      ·cases h2
      ·exact h1
     have hps:Psr wr b v (rI (A j)) (rE (A j))∧∀t m,A j = .inl (t,m)→NewT w wr (.pointer P0) t:=by
      rcases HP.out with ⟨_,h2,_⟩ | ⟨_,h2,h3⟩
      ·cases h2
      ·exact⟨h2,fun t m ht=>(h3 t m ht).2⟩
     have hRR:R=thn (A j) fun b m=>lop A (sApp B.long l) f (⟨25,0,nob,nob⟩,fr2 a b) m:=by
      rw[HRR.out]
      conv=>lhs;unfold lop;rw[pS hany]
      rfl
     have hin:=HA.out j hj;have hlt:=HA1.out j hany;have hpos:=hps.1.pos;obtain⟨Y,hY⟩:∃Y,A j=Y:=⟨_,rfl⟩;rw[hY] at hps hRR hin hlt hpos;have hYl:rI Y≤l.length:=by
      cases Y with
      | inl r=>exact hin.2
      | inr r=>exact hin.2.1
     have HPS:=Lib.hid hps;have HRR2:=Lib.hid hRR;have HIN:=Lib.hid hin;have HLT:=Lib.hid hlt;obtain⟨w4,hw4⟩:∃w4,(wr.alloc (.cells #[.pointer (some ⟨o1,p1,none⟩),.pointer P0] 24)).alloc (.cells #[.int .i64 25,.int .i64 0,.string ⟨#[]⟩,.string ⟨#[]⟩,.slice (some ⟨wr.heap.size,0,none⟩) 2 2] 57)=w4:=⟨_,rfl⟩;have u4:Up wr w4:=by rw[←hw4];exact((Up.refl _).alloc _).alloc _
     have hwz:w.heap.size≤wr.heap.size:=by omega
     have hnd:∀b' m,Y = .inl (b',m)→NewT w w4 (.pointer (some ⟨wr.heap.size+1,0,none⟩)) (⟨25,0,nob,nob⟩,fr2 a b'):=fun b' m hYe=>by
      have h2:=oQ (k:=25) (s:=nob) hwz HN.out (HPS.out.2 b' m hYe);rw[show nob=(⟨#[]⟩:ByteArray) from rfl,hw4] at h2;exact h2
     have r4:w4.heap[w.heap.size]? = some (.cells #[.pointer (some ⟨b,0,none⟩)] 62 (0,0)):=u4.row HR1.out;have c4:w4.cell? ⟨w.heap.size,0,none⟩=some (.pointer (some ⟨b,0,none⟩)):=cell_of_row w4 w.heap.size 0 _ _ _ r4;have hb4:=qC r4;have G4:=Lib.hid (HG.out.trans (Gs.of u4));have cO:=HCA.out (rI Y) (rE Y) w4 hYl (fun h0=>by
      cases Y with
      | inl r=>exact⟨hij.1,by have:=hin.1;show i≤r.2;omega⟩
      | inr r=>exact absurd h0 (hin.ne rfl)) (HGU.out w4 G4.out) (hps.1.up u4)
     have HND:=Lib.hid hnd;have HW4:=Lib.hid hw4;clear hps hRR hin hlt hnd u4 r4 hw4 hYl hY;go_wp2_with fail;refine(xA 25 _ _ _ _).mono ?_;rintro en w4' ⟨rfl,rfl⟩;rw[World.size_alloc,HW4.out];go_wp2_with fail;refine cO.mono ?_;rintro en w5 hAT;have hAT':=hAT;obtain⟨P5,d5,rfl,g5,h5⟩:=hAT';have hst:ApQ i e l b v R A w w5 (.pointer (some ⟨wr.heap.size+1,0,none⟩)) (.pointer P5) (.bool d5):=by
      refine ApQ.of (f:=f) (g:=fun b'=>(⟨25,0,nob,nob⟩,fr2 a b')) (by have:=G4.out.size;omega) (fun b' m hYe=>?_) (fun p r hYe=>?_) hAT
      ·have h1:=HIN.out
       have hR:=HRR2.out;rw[hYe] at h1 hR;have h1:j<m∧m≤l.length:=h1;exact⟨⟨hij.1,by omega⟩,h1.2,hR,by omega,(HND.out b' m hYe).gsb g5 hb⟩
      ·have hR:=HRR2.out
       rw[hYe] at hR;exact⟨HIN.out.ne hYe,hR⟩
     have hls:boolN (.bool d5) (l.length+1-posW b w5)<boolN (.bool true) (l.length+1-posW b wr):=by
      rw[hpos];refine lN (by have:=HIN.out;cases Y with
       | inl r=>have:=this.2;show 0<l.length+1-r.2;omega
       | inr r=>have:=this.2.1;show 0<l.length+1-r.1;omega) fun hs=>?_
      rcases h5 with ⟨_,h6,_⟩ | ⟨_,h6,h7,_⟩
      ·rw[h6] at hs;cases hs
      ·rw[h7.pos]
       have h8:=HA1.out (rI Y) h6;have h9:rI (A (rI Y))≤l.length∨l.length<rI (A (rI Y)):=by omega
       have h10:rI Y≤l.length:=by
        have:=HIN.out
        cases Y with
        | inl r=>exact this.2
        | inr r=>exact this.2.1
       have h11:=HA.out (rI Y) h10;have h12:rI (A (rI Y))≤l.length:=by
        cases hZ:A (rI Y) with
        | inl r=>rw[hZ] at h11;exact h11.2
        | inr r=>rw[hZ] at h11;exact h11.2.1
       omega
     have HST:=Lib.hid hst;have HLS:=Lib.hid hls;have G5:=Lib.hid (G4.out.trans g5);clear hst hAT g5 h5 hls cO c4;go_wp2_with fail;exact⟨⟨G5.out,HST.out⟩,HLS.out⟩
 | false=>
  obtain⟨i1,e1,p1,hi1,he1,hno⟩:=HF.out.2 rfl;have cF:=nJ b v i1 e1 6 w1 p1;obtain⟨E2,hE2⟩:∃E2,(if e1=0 then 6 else e1)=E2:=⟨_,rfl⟩;rw[hE2] at cF he1;have HI1:=Lib.hid hi1;have HE1:=Lib.hid he1;have HNO:=Lib.hid hno;clear hi1 he1 hno hE2 p1;go_wp2_with fail;refine cF.mono ?_;rintro en w2 ⟨⟨u,rfl⟩,g2,p2⟩;have hps2:Psr w2 b v (rI X) (rE X):=by rw[←HI1.out,←HE1.out];exact p2
  have G2:=Lib.hid (G1.out.trans g2);have HN2:Hid (∀t m,X = .inl (t,m)→NewT W0 w2 (.pointer P1) t):=Lib.hid fun t m h=>absurd h (HNO.out t m)
  have cN:=KEY.out w2 G2.out hps2;have r2:w2.heap[w.heap.size]? = some (.cells #[.pointer (some ⟨b,0,none⟩)] 62 (0,0)):=g2.row R1.out (by unfold On;omega);have c2:w2.cell? ⟨w.heap.size,0,none⟩=some (.pointer (some ⟨b,0,none⟩)):=cell_of_row w2 w.heap.size 0 _ _ _ r2;have hb2:=qC r2;clear g2 p2 r2 hps2 c1 cF;go_wp2_with fail;refine cN.mono ?_;rintro en w3 hAT;have hAT':=hAT;obtain⟨P3,d3,rfl,g3,-⟩:=hAT';have hst:ApQ i e l b v R A w w3 (.pointer P1) (.pointer P3) (.bool d3):=by
   refine ApQ.of (f:=n) (g:=fun a=>a) (by have:=UZ.out.size;have:=G2.out.size;omega) (fun a j hX=>?_) HX2.out hAT;obtain⟨h8,h4,h5,h6⟩:=HX1.out a j hX;exact⟨h8,h4,h5,h6,((HN2.out a j hX).base UZ.out.size).gsb g3 hb⟩
  have HST:=Lib.hid hst;have G3:=Lib.hid (G2.out.trans g3);clear hst hAT g3 cN;go_wp2_with fail
  go_loopw [3,5,6] (fun nv xv iv wr=>Gs (On b) W0 wr∧ApQ i e l b v R A w wr nv xv iv) (fun _ _ iv wr=>boolN iv (l.length+1-posW b wr))
  case atStart=>exact⟨G3.out,HST.out⟩
  case round=>
   obtain⟨hg,hst⟩:=hrel;have hgs:=hg.size;have r1:wr.heap[w.heap.size]? = some (.cells #[.pointer (some ⟨b,0,none⟩)] 62 (0,0)):=hg.row B1.out (by unfold On;omega);have HR1:=Lib.hid r1;have HG:=Lib.hid hg;clear r1 hg
   cases hst with
   | bad p r N0 P0 hr hRe hnv hxv hiv hp=>
    subst hnv hxv hiv;have HP:=Lib.hid hp;have HRR:=Lib.hid hRe;clear hp hRe hr;go_wp2_with fail
    go_ret
    refine⟨N0,rfl,(Gs.of UZ.out).trans HG.out,?_⟩;rw[HRR.out];exact HP.out
   | good a j f P0 d hij hj hRl hf hnw hxv hiv hp=>
    subst hxv hiv;obtain⟨o1,p1,rfl⟩:=InT.ptr hnw;have HP:=Lib.hid hp;have HN:=Lib.hid hnw;have HRR:=Lib.hid hRl;clear hp hnw hRl;obtain⟨f,rfl⟩:∃g,f=g+1:=⟨f-1,by omega⟩
    cases d with
    | false=>
     go_wp2_with fail
     go_ret
     refine PaT.mk ((Gs.of UZ.out).trans HG.out) ?_ fun t m hRt=>?_
     ·rcases HP.out with ⟨h1,_,h3⟩ | ⟨h1,h2,h3⟩
      ·have hRR:R = .inl (a,j):=by rw[HRR.out];unfold lop;rw[eK h1]
       rw[hRR];exact h3
      ·cases hY:A j with
       | inl r=>have:=(h3 r.1 r.2 hY).1;cases this
       | inr r=>
        rw[hY] at h2;have hRR:R = .inr r:=by rw[HRR.out];unfold lop;rw[pS h1];simp only[Nat.add_zero];rw[hY];rfl
        rw[hRR];exact h2
     ·rcases HP.out with ⟨h1,_,h3⟩ | ⟨h1,h2,h3⟩
      ·have hRR:R = .inl (a,j):=by rw[HRR.out];unfold lop;rw[eK h1]
       rw[hRR] at hRt;injection hRt with hRt;injection hRt with e1 e2;rw[←e1];exact HN.out
      ·cases hY:A j with
       | inl r=>have:=(h3 r.1 r.2 hY).1;cases this
       | inr r=>
        have hRR:R = .inr r:=by rw[HRR.out];unfold lop;rw[pS h1];simp only[Nat.add_zero];rw[hY];rfl
        rw[hRR] at hRt
        cases hRt
    | true=>
     have hany:(hdE B.long l j).any=true:=by
      rcases HP.out with ⟨_,h2,_⟩ | ⟨h1,_,_⟩
      ·cases h2
      ·exact h1
     have hps:Psr wr b v (rI (A j)) (rE (A j))∧∀t m,A j = .inl (t,m)→NewT w wr (.pointer P0) t:=by
      rcases HP.out with ⟨_,h2,_⟩ | ⟨_,h2,h3⟩
      ·cases h2
      ·exact⟨h2,fun t m ht=>(h3 t m ht).2⟩
     have hRR:R=thn (A j) fun b m=>lop A (sApp B.long l) f (⟨25,0,nob,nob⟩,fr2 a b) m:=by
      rw[HRR.out]
      conv=>lhs;unfold lop;rw[pS hany]
      rfl
     have hin:=HA.out j hj;have hlt:=HA1.out j hany;have hpos:=hps.1.pos;obtain⟨Y,hY⟩:∃Y,A j=Y:=⟨_,rfl⟩;rw[hY] at hps hRR hin hlt hpos;have hYl:rI Y≤l.length:=by
      cases Y with
      | inl r=>exact hin.2
      | inr r=>exact hin.2.1
     have HPS:=Lib.hid hps;have HRR2:=Lib.hid hRR;have HIN:=Lib.hid hin;have HLT:=Lib.hid hlt;obtain⟨w4,hw4⟩:∃w4,(wr.alloc (.cells #[.pointer (some ⟨o1,p1,none⟩),.pointer P0] 24)).alloc (.cells #[.int .i64 25,.int .i64 0,.string ⟨#[]⟩,.string ⟨#[]⟩,.slice (some ⟨wr.heap.size,0,none⟩) 2 2] 57)=w4:=⟨_,rfl⟩;have u4:Up wr w4:=by rw[←hw4];exact((Up.refl _).alloc _).alloc _
     have hwz:w.heap.size≤wr.heap.size:=by omega
     have hnd:∀b' m,Y = .inl (b',m)→NewT w w4 (.pointer (some ⟨wr.heap.size+1,0,none⟩)) (⟨25,0,nob,nob⟩,fr2 a b'):=fun b' m hYe=>by
      have h2:=oQ (k:=25) (s:=nob) hwz HN.out (HPS.out.2 b' m hYe);rw[show nob=(⟨#[]⟩:ByteArray) from rfl,hw4] at h2;exact h2
     have r4:w4.heap[w.heap.size]? = some (.cells #[.pointer (some ⟨b,0,none⟩)] 62 (0,0)):=u4.row HR1.out;have c4:w4.cell? ⟨w.heap.size,0,none⟩=some (.pointer (some ⟨b,0,none⟩)):=cell_of_row w4 w.heap.size 0 _ _ _ r4;have hb4:=qC r4;have G4:=Lib.hid (HG.out.trans (Gs.of u4));have cO:=HCA.out (rI Y) (rE Y) w4 hYl (fun h0=>by
      cases Y with
      | inl r=>exact⟨hij.1,by have:=hin.1;show i≤r.2;omega⟩
      | inr r=>exact absurd h0 (hin.ne rfl)) (HGU.out w4 G4.out) (hps.1.up u4)
     have HND:=Lib.hid hnd;have HW4:=Lib.hid hw4;clear hps hRR hin hlt hnd u4 r4 hw4 hYl hY;go_wp2_with fail;refine(xA 25 _ _ _ _).mono ?_;rintro en w4' ⟨rfl,rfl⟩;rw[World.size_alloc,HW4.out];go_wp2_with fail;refine cO.mono ?_;rintro en w5 hAT;have hAT':=hAT;obtain⟨P5,d5,rfl,g5,h5⟩:=hAT';have hst:ApQ i e l b v R A w w5 (.pointer (some ⟨wr.heap.size+1,0,none⟩)) (.pointer P5) (.bool d5):=by
      refine ApQ.of (f:=f) (g:=fun b'=>(⟨25,0,nob,nob⟩,fr2 a b')) (by have:=G4.out.size;omega) (fun b' m hYe=>?_) (fun p r hYe=>?_) hAT
      ·have h1:=HIN.out
       have hR:=HRR2.out;rw[hYe] at h1 hR;have h1:j<m∧m≤l.length:=h1;exact⟨⟨hij.1,by omega⟩,h1.2,hR,by omega,(HND.out b' m hYe).gsb g5 hb⟩
      ·have hR:=HRR2.out
       rw[hYe] at hR;exact⟨HIN.out.ne hYe,hR⟩
     have hls:boolN (.bool d5) (l.length+1-posW b w5)<boolN (.bool true) (l.length+1-posW b wr):=by
      rw[hpos];refine lN (by have:=HIN.out;cases Y with
       | inl r=>have:=this.2;show 0<l.length+1-r.2;omega
       | inr r=>have:=this.2.1;show 0<l.length+1-r.1;omega) fun hs=>?_
      rcases h5 with ⟨_,h6,_⟩ | ⟨_,h6,h7,_⟩
      ·rw[h6] at hs;cases hs
      ·rw[h7.pos]
       have h8:=HA1.out (rI Y) h6;have h9:rI (A (rI Y))≤l.length∨l.length<rI (A (rI Y)):=by omega
       have h10:rI Y≤l.length:=by
        have:=HIN.out
        cases Y with
        | inl r=>exact this.2
        | inr r=>exact this.2.1
       have h11:=HA.out (rI Y) h10;have h12:rI (A (rI Y))≤l.length:=by
        cases hZ:A (rI Y) with
        | inl r=>rw[hZ] at h11;exact h11.2
        | inr r=>rw[hZ] at h11;exact h11.2.1
       omega
     have HST:=Lib.hid hst;have HLS:=Lib.hid hls;have G5:=Lib.hid (G4.out.trans g5);clear hst hAT g5 h5 hls cO c4;go_wp2_with fail;exact⟨⟨G5.out,HST.out⟩,HLS.out⟩
end
end Go.Proofs.YtbpijnalmakfaaaGreatDoor
