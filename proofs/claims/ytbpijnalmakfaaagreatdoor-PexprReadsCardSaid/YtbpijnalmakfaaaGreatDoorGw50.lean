/-
  The document's term, sum: loops; cmp.
-/
import Derived.Test.YtbpijnalmakfaaaGreatDoorGw49
set_option maxHeartbeats 40000000
set_option maxRecDepth 100000
namespace Go.Proofs.YtbpijnalmakfaaaGreatDoor
open Go.RowKit
theorem zSo {T:Nat→Rs Tr} {s:Nat→Option (Nod×Nat)} {R:Rs Tr} {a:Tr} {j f n:Nat} (hR:R=lop T s f a j) (hf:n-j+1≤f) (hs:s j=none):R = .inl (a,j):=by
 rw[hR]
 cases f with
 | zero=>omega
 | succ f=>unfold lop;rw[hs]
theorem yY6 (l:List Te) (A:Nat→Rs Tr) (N i:Nat) (hi:i≤l.length) (hl:l.length≤1000000) (hN:l.length-i+1≤N) (aT:∀j,j≤l.length→In l.length j (appS B.long l N A j)) (w:World) (v:Value) (hv:Tke w v l)
  (cT:∀(j:Nat) (W:World),i≤j→j≤l.length→Up w W→Calls Tryz.prog 200 #[v,.int .i64 (j:Int)] W (qN (appS B.long l N A j) W)) :
  Calls Tryz.prog 175 #[v,.int .i64 (i:Int)] w (qN (mulS B.long l N A i) w):=by
 have cK:∀(j:Nat) (x:ByteArray) (W:World),Up w W→Calls Tryz.prog 57 #[v,.int .i64 (j:Int),.string x] W (BoU (key (tks l) j x) W):=fun j x W u=>by rw[←jY];exact vG (tks l) j x W v (hv.up u).tkm
 have CK:=Lib.hid cK;have CT:=Lib.hid cT;have c0:=cT i w (Nat.le_refl _) hi (Up.refl w);obtain⟨T,hT0⟩:∃T,appS B.long l N A=T:=⟨_,rfl⟩;obtain⟨R,hR⟩:∃R,mulS B.long l N A i=R:=⟨_,rfl⟩;have hR':lopS T (sMul l) N i=R:=by rw[←hR,←hT0];rfl
 have HR:=Lib.hid hR';rw[hR];rw[hT0] at c0 aT CT;clear cK cT hR hR' hT0
 go_enter Tryz.func175,Tryz.ntmps175
 go_wp2_with fail;refine c0.mono ?_;rintro e w1 ⟨va,ja,ea,rfl,hV,u1⟩;have hst:LopSt l i T (sMul l) R w w1 (.int .i64 ja) va (.int .i64 ea):=by rw[←HR.out];exact LopSt.start hi hN (aT i hi) hV (Up.refl w)
 have HST:=Lib.hid hst;clear hst hV c0;go_wp2_with fail
 go_loopw [1,7,8,9,10,11] (fun jv va ev _ _ _ wr=>LopSt l i T (sMul l) R w wr jv va ev∧Up w wr) (fun jv _ ev _ _ _ _=>(if intOf ev=0 then 1 else 0)+(l.length-(intOf jv).toNat))
 case atStart=>exact⟨HST.out,u1⟩
 case round=>
  obtain⟨hst,hu⟩:=hrel
  rcases hst with ⟨a,j,f,hij,hRl,hf,hj,hT,rfl,rfl⟩ | ⟨p,er,hRl,hne,hp,rfl,rfl,A1,rfl⟩
  ·obtain⟨o1,p1,rfl⟩:=InT.ptr hT
   have HRL:=Lib.hid hRl;have HU:=Lib.hid hu;have cK:=CK.out j kStar wr hu
   cases hb:key (tks l) j kStar with
   | false=>
    rw[hb] at cK;have hs:sMul l j=none:=by unfold sMul;rw[hb];rfl
    have hRR:=zSo hRl hf hs;have HRR:=Lib.hid hRR;clear hRl hRR hs hb;go_wp2_with fail;refine cK.mono ?_;rintro e w2 ⟨rfl,u2⟩;go_wp2_with fail
    go_ret3
    rw[HRR.out];exact⟨_,_,_,rfl,⟨hT.up u2,rfl,rfl⟩,HU.out.trans u2⟩
   | true=>
    rw[hb] at cK;have hs:sMul l j=some (opN 3,1):=by unfold sMul;rw[hb];rfl
    have hj1:j+1≤l.length:=qK hb;have hw1:=qV j 1 (by omega) (by omega);have HS:=Lib.hid hs;clear hRl hs hb;go_wp2_with fail;refine cK.mono ?_;rintro e w2 ⟨rfl,u2⟩;have U2:Up w w2:=HU.out.trans u2;go_wp2_with fail;refine(CT.out (j+1) w2 (by omega) hj1 U2).mono ?_;rintro e w3 ⟨vb,q,er,rfl,hV,u3⟩;have U3:Up w w3:=U2.trans u3;obtain⟨pb,rfl⟩:=hV.ptr;have HVV:=Lib.hid hV;clear hV;go_wp2_with fail;refine(refOp 3 _ _ _).mono ?_;rintro e w4 ⟨rfl,rfl⟩;go_wp2_with fail;have hnx:LopSt l i T (sMul l) R w _ (.int .i64 q) (.pointer (some ⟨w3.heap.size+1,0,none⟩)) (.int .i64 er):=
     LopSt.next hij HRL.out hf HS.out hj1 (aT (j+1) hj1) HVV.out ⟨fun b hb=>hasOp U3.size (hT.up (u2.trans u3)) (hb.from U2 (Up.refl _)),_,rfl⟩
    have hls:=LopSt.less (T:=T) (d:=1) hj (aT (j+1) hj1) HVV.out;exact⟨⟨hnx,(U3.alloc _).alloc _⟩,hls⟩
  ·have HRL:=Lib.hid hRl
   clear hRl;go_wp2_with fail
   go_ret3
   rw[HRL.out];exact⟨_,_,_,rfl,⟨rfl,rfl,A1,rfl⟩,hu⟩
theorem yTl (l:List Te) (A:Nat→Rs Tr) (N i:Nat) (hi:i≤l.length) (hl:l.length≤1000000) (hN:l.length-i+1≤N) (aT:∀j,j≤l.length→In l.length j (mulS B.long l N A j)) (w:World) (v:Value) (hv:Tke w v l)
  (cT:∀(j:Nat) (W:World),i≤j→j≤l.length→Up w W→Calls Tryz.prog 175 #[v,.int .i64 (j:Int)] W (qN (mulS B.long l N A j) W)) :
  Calls Tryz.prog 128 #[v,.int .i64 (i:Int)] w (qN (addS B.long l N A i) w):=by
 have cK:∀(j:Nat) (x:ByteArray) (W:World),Up w W→Calls Tryz.prog 57 #[v,.int .i64 (j:Int),.string x] W (BoU (key (tks l) j x) W):=fun j x W u=>by rw[←jY];exact vG (tks l) j x W v (hv.up u).tkm
 have CK:=Lib.hid cK;have CT:=Lib.hid cT;have c0:=cT i w (Nat.le_refl _) hi (Up.refl w);obtain⟨T,hT0⟩:∃T,mulS B.long l N A=T:=⟨_,rfl⟩;obtain⟨R,hR⟩:∃R,addS B.long l N A i=R:=⟨_,rfl⟩;have hR':lopS T (sAdd l) N i=R:=by rw[←hR,←hT0];rfl
 have HR:=Lib.hid hR';rw[hR];rw[hT0] at c0 aT CT;clear cK cT hR hR' hT0
 go_enter Tryz.func128,Tryz.ntmps128
 go_wp2_with fail;refine c0.mono ?_;rintro e w1 ⟨va,ja,ea,rfl,hV,u1⟩;have hst:LopSt l i T (sAdd l) R w w1 (.int .i64 ja) va (.int .i64 ea):=by rw[←HR.out];exact LopSt.start hi hN (aT i hi) hV (Up.refl w)
 have HST:=Lib.hid hst;clear hst hV c0;go_wp2_with fail
 go_loopw [1,7,8,9,10,11,12] (fun jv va ev _ _ _ _ wr=>LopSt l i T (sAdd l) R w wr jv va ev∧Up w wr) (fun jv _ ev _ _ _ _ _=>(if intOf ev=0 then 1 else 0)+(l.length-(intOf jv).toNat))
 case atStart=>exact⟨HST.out,u1⟩
 case round=>
  obtain⟨hst,hu⟩:=hrel
  rcases hst with ⟨a,j,f,hij,hRl,hf,hj,hT,rfl,rfl⟩ | ⟨p,er,hRl,hne,hp,rfl,rfl,A1,rfl⟩
  ·obtain⟨o1,p1,rfl⟩:=InT.ptr hT
   have HRL:=Lib.hid hRl;have HU:=Lib.hid hu;have cP:=CK.out j kPlus wr hu;have cM:=CK.out j vU
   cases hb:key (tks l) j kPlus with
   | false=>
    rw[hb] at cP
    cases hb2:key (tks l) j vU with
    | false=>
     rw[hb2] at cM;have hs:sAdd l j=none:=by unfold sAdd;rw[hb,hb2];rfl
     have hRR:=zSo hRl hf hs;have HRR:=Lib.hid hRR;clear hRl hRR hs hb hb2;go_wp2_with fail;refine cP.mono ?_;rintro e w2 ⟨rfl,u2⟩;go_wp2_with fail;refine(cM w2 (HU.out.trans u2)).mono ?_;rintro e w3 ⟨rfl,u3⟩;go_wp2_with fail
     go_ret3
     rw[HRR.out];exact⟨_,_,_,rfl,⟨hT.up (u2.trans u3),rfl,rfl⟩,(HU.out.trans u2).trans u3⟩
    | true=>
     rw[hb2] at cM;have hs:sAdd l j=some (opN 2,1):=by unfold sAdd;rw[hb,hb2];rfl
     have hj1:j+1≤l.length:=qK hb2;have hw1:=qV j 1 (by omega) (by omega);have HS:=Lib.hid hs;clear hRl hs hb hb2;go_wp2_with fail;refine cP.mono ?_;rintro e w2 ⟨rfl,u2⟩;go_wp2_with fail;refine(cM w2 (HU.out.trans u2)).mono ?_;rintro e x2 ⟨rfl,z2⟩;go_wp2_with fail;refine(cM x2 ((HU.out.trans u2).trans z2)).mono ?_;rintro e x3 ⟨rfl,z3⟩;have U2:Up w x3:=((HU.out.trans u2).trans z2).trans z3;go_wp2_with fail;refine(CT.out (j+1) x3 (by omega) hj1 U2).mono ?_;rintro e w3 ⟨vb,q,er,rfl,hV,u3⟩;have U3:Up w w3:=U2.trans u3;obtain⟨pb,rfl⟩:=hV.ptr;have HVV:=Lib.hid hV;clear hV;go_wp2_with fail;refine(refOp 2 _ _ _).mono ?_;rintro e w4 ⟨rfl,rfl⟩;go_wp2_with fail;have hnx:LopSt l i T (sAdd l) R w _ (.int .i64 q) (.pointer (some ⟨w3.heap.size+1,0,none⟩)) (.int .i64 er):=
      LopSt.next hij HRL.out hf HS.out hj1 (aT (j+1) hj1) HVV.out ⟨fun b hb=>hasOp U3.size (hT.up (((u2.trans z2).trans z3).trans u3)) (hb.from U2 (Up.refl _)),_,rfl⟩
     have hls:=LopSt.less (T:=T) (d:=1) hj (aT (j+1) hj1) HVV.out;exact⟨⟨hnx,(U3.alloc _).alloc _⟩,hls⟩
   | true=>
    rw[hb] at cP;have hb2:=yF (y:=vU) hb (by decide);rw[hb2] at cM;have hs:sAdd l j=some (opN 1,1):=by unfold sAdd;rw[hb];rfl
    have hj1:j+1≤l.length:=qK hb;have hw1:=qV j 1 (by omega) (by omega);have HS:=Lib.hid hs;clear hRl hs hb hb2;go_wp2_with fail;refine cP.mono ?_;rintro e w2 ⟨rfl,u2⟩;go_wp2_with fail;refine(cM w2 (HU.out.trans u2)).mono ?_;rintro e x2 ⟨rfl,z2⟩;have U2:Up w x2:=(HU.out.trans u2).trans z2;go_wp2_with fail;refine(CT.out (j+1) x2 (by omega) hj1 U2).mono ?_;rintro e w3 ⟨vb,q,er,rfl,hV,u3⟩;have U3:Up w w3:=U2.trans u3;obtain⟨pb,rfl⟩:=hV.ptr;have HVV:=Lib.hid hV;clear hV;go_wp2_with fail;refine(refOp 1 _ _ _).mono ?_;rintro e w4 ⟨rfl,rfl⟩;go_wp2_with fail;have hnx:LopSt l i T (sAdd l) R w _ (.int .i64 q) (.pointer (some ⟨w3.heap.size+1,0,none⟩)) (.int .i64 er):=
     LopSt.next hij HRL.out hf HS.out hj1 (aT (j+1) hj1) HVV.out ⟨fun b hb=>hasOp U3.size (hT.up ((u2.trans z2).trans u3)) (hb.from U2 (Up.refl _)),_,rfl⟩
    have hls:=LopSt.less (T:=T) (d:=1) hj (aT (j+1) hj1) HVV.out;exact⟨⟨hnx,(U3.alloc _).alloc _⟩,hls⟩
  ·have HRL:=Lib.hid hRl
   clear hRl;go_wp2_with fail
   go_ret3
   rw[HRL.out];exact⟨_,_,_,rfl,⟨rfl,rfl,A1,rfl⟩,hu⟩
theorem yTm (l:List Te) (A:Nat→Rs Tr) (N i:Nat) (hi:i≤l.length) (hl:l.length≤1000000) (aT:∀j,j≤l.length→In l.length j (addS B.long l N A j)) (w:World) (v:Value) (hv:Tke w v l)
  (cT:∀(j:Nat) (W:World),i≤j→j≤l.length→Up w W→Calls Tryz.prog 128 #[v,.int .i64 (j:Int)] W (qN (addS B.long l N A j) W)) :
  Calls Tryz.prog 64 #[v,.int .i64 (i:Int)] w (qN (cmpS B.long l N A i) w):=by
 have cK:∀(j:Nat) (x:ByteArray) (W:World),Up w W→Calls Tryz.prog 57 #[v,.int .i64 (j:Int),.string x] W (BoU (key (tks l) j x) W):=fun j x W u=>by rw[←jY];exact vG (tks l) j x W v (hv.up u).tkm
 have CK:=Lib.hid cK;have CT:=Lib.hid cT;have c0:=cT i w (Nat.le_refl _) hi (Up.refl w);have a0:=aT i hi;obtain⟨T,hT0⟩:∃T,addS B.long l N A=T:=⟨_,rfl⟩;obtain⟨R,hR⟩:∃R,cmpS B.long l N A i=R:=⟨_,rfl⟩;have hR':(thn (T i) fun a j=>match sCmp l j with
  | none=>.inl (a,j)
  | some (x,d)=>thn (T (j+d)) fun b m=>.inl ((x,fr2 a b),m))=R:=by rw[←hR,←hT0];rfl
 have HR:=Lib.hid hR';rw[hR];rw[hT0] at c0 aT CT a0;clear cK cT hR hR' hT0;obtain⟨R1,hR1⟩:∃R1,T i=R1:=⟨_,rfl⟩;rw[hR1] at c0 a0;have HR1:=Lib.hid hR1;clear hR1
 go_enter Tryz.func64,Tryz.ntmps64
 go_wp2_with fail;refine c0.mono ?_;rintro e w1 ⟨va,ja,ea,rfl,hV,u1⟩
 cases R1 with
 | inr r=>
  obtain⟨p,er⟩:=r;obtain⟨rfl,rfl,A1,rfl⟩:=hV;have hne:=a0.ne rfl;go_wp2_with fail
  go_ret3
  rw[show R = .inr (p,ea) from by rw[←HR.out,HR1.out];rfl];exact⟨_,_,_,rfl,⟨rfl,rfl,none,rfl⟩,u1⟩
 | inl r=>
  obtain⟨a,j⟩:=r;obtain⟨hT,rfl,rfl⟩:=hV;obtain⟨o1,p1,rfl⟩:=InT.ptr hT;have hj:i<j∧j≤l.length:=a0;have cE:=CK.out j kEq;have cL:=CK.out j kLess
  cases hb:key (tks l) j kEq with
  | false=>
   rw[hb] at cE
   cases hb2:key (tks l) j kLess with
   | false=>
    rw[hb2] at cL;have hRR:R = .inl (a,j):=by
     rw[←HR.out,HR1.out]
     show(match sCmp l j with
      | none=>_
      | some (x,d)=>_)=_
     unfold sCmp;rw[hb,hb2]
     rfl
    have HRR:=Lib.hid hRR;clear hRR hb hb2 a0 c0;go_wp2_with fail;refine(cE _ u1).mono ?_;rintro e w2 ⟨rfl,u2⟩;go_wp2_with fail;refine(cL _ (u1.trans u2)).mono ?_;rintro e w3 ⟨rfl,u3⟩;go_wp2_with fail
    go_ret3
    rw[HRR.out];exact⟨_,_,_,rfl,⟨hT.up (u2.trans u3),rfl,rfl⟩,(u1.trans u2).trans u3⟩
   | true=>
    rw[hb2] at cL;have hj1:j+1≤l.length:=qK hb2;have hw1:=qV j 1 (by omega) (by omega);have hRR:R=thn (T (j+1)) fun b m=>.inl ((opN 5,fr2 a b),m):=by
     rw[←HR.out,HR1.out]
     show(match sCmp l j with
      | none=>_
      | some (x,d)=>_)=_
     unfold sCmp;rw[hb,hb2]
     rfl
    obtain⟨R2,hR2⟩:∃R2,T (j+1)=R2:=⟨_,rfl⟩;have cT2:=fun W u=>CT.out (j+1) W (by omega) hj1 u
    rw[hR2] at hRR cT2;have HRR:=Lib.hid hRR;clear hRR hb hb2 a0 c0 hR2;go_wp2_with fail;refine(cE _ u1).mono ?_;rintro e w2 ⟨rfl,u2⟩;go_wp2_with fail;refine(cL _ (u1.trans u2)).mono ?_;rintro e w3 ⟨rfl,u3⟩;have U3:=(u1.trans u2).trans u3;go_wp2_with fail;refine(cT2 _ U3).mono ?_;rintro e w4 ⟨vb,q,er,rfl,hV,u4⟩;have U4:=U3.trans u4;obtain⟨pb,rfl⟩:=hV.ptr;have HVV:=Lib.hid hV;clear hV;go_wp2_with fail;refine(refOp 5 _ _ _).mono ?_;rintro e w5 ⟨rfl,rfl⟩;go_wp2_with fail
    go_ret3
    rw[HRR.out];refine⟨_,_,_,rfl,?_,(U4.alloc _).alloc _⟩;have hV:=HVV.out
    cases R2 with
    | inr r=>exact⟨hV.1,hV.2.1,_,rfl⟩
    | inl r=>exact⟨hasOp U4.size (hT.up ((u2.trans u3).trans u4)) (hV.1.from U3 (Up.refl _)),hV.2.1,hV.2.2⟩
  | true=>
   rw[hb] at cE;have hb2:=yF (y:=kLess) hb (by decide);rw[hb2] at cL;have hj1:j+1≤l.length:=qK hb;have hw1:=qV j 1 (by omega) (by omega);have hRR:R=thn (T (j+1)) fun b m=>.inl ((opN 4,fr2 a b),m):=by
    rw[←HR.out,HR1.out]
    show(match sCmp l j with
     | none=>_
     | some (x,d)=>_)=_
    unfold sCmp;rw[hb]
    rfl
   obtain⟨R2,hR2⟩:∃R2,T (j+1)=R2:=⟨_,rfl⟩;have cT2:=fun W u=>CT.out (j+1) W (by omega) hj1 u
   rw[hR2] at hRR cT2;have HRR:=Lib.hid hRR;clear hRR hb hb2 a0 c0 hR2;go_wp2_with fail;refine(cE _ u1).mono ?_;rintro e w2 ⟨rfl,u2⟩;go_wp2_with fail;refine(cL _ (u1.trans u2)).mono ?_;rintro e w3 ⟨rfl,u3⟩;have U3:=(u1.trans u2).trans u3;go_wp2_with fail;refine(cT2 _ U3).mono ?_;rintro e w4 ⟨vb,q,er,rfl,hV,u4⟩;have U4:=U3.trans u4;obtain⟨pb,rfl⟩:=hV.ptr;have HVV:=Lib.hid hV;clear hV;go_wp2_with fail;refine(refOp 4 _ _ _).mono ?_;rintro e w5 ⟨rfl,rfl⟩;go_wp2_with fail
   go_ret3
   rw[HRR.out];refine⟨_,_,_,rfl,?_,(U4.alloc _).alloc _⟩;have hV:=HVV.out
   cases R2 with
   | inr r=>exact⟨hV.1,hV.2.1,_,rfl⟩
   | inl r=>exact⟨hasOp U4.size (hT.up ((u2.trans u3).trans u4)) (hV.1.from U3 (Up.refl _)),hV.2.1,hV.2.2⟩
theorem yY7 {lg:ByteArray→Bool} {l:List Te} {i:Nat} {t:Te} (ht:l[i]? = some t) {n:Int} (h:hdE lg l i = .num n):t.t.k=2∧t.n=n:=by
 rw[pZ ht] at h;unfold hdT at h
 by_cases h3:t.t.k=3
 ·rw[if_pos h3] at h
  repeat' split at h
  all_goals cases h
 ·rw[if_neg h3] at h
  by_cases h2:t.t.k=2
  ·rw[if_pos h2] at h
   split at h
   ·injection h with h;exact⟨h2,h⟩
   ·cases h
  ·rw[if_neg h2] at h
   repeat' split at h
   all_goals cases h
theorem yY8 {lg:ByteArray→Bool} {l:List Te} {i:Nat} {t:Te} (ht:l[i]? = some t) {s:ByteArray} (h:hdE lg l i = .var s):t.t.k=1∧t.t.s=s:=by
 rw[pZ ht] at h;unfold hdT at h
 by_cases h3:t.t.k=3
 ·rw[if_pos h3] at h
  repeat' split at h
  all_goals cases h
 ·rw[if_neg h3] at h
  by_cases h2:t.t.k=2
  ·rw[if_pos h2] at h
   split at h
   all_goals cases h
  ·rw[if_neg h2] at h
   by_cases h1:t.t.k=1
   ·rw[if_pos h1] at h
    split at h
    ·injection h with h;exact⟨h1,h⟩
    ·cases h
   ·rw[if_neg h1] at h
    cases h
theorem pY {lg:ByteArray→Bool} {l:List Te} {i:Nat} {t:Te} (ht:l[i]? = some t) {x:Hd} (h:hdE lg l i=x) (hx:x = .boo 1∨x = .boo 0∨x = .sel 27∨x = .sel 28∨x = .opn):t.t.k=3∧((x = .boo 1∧t.t.s=kTrue)∨(x = .boo 0∧t.t.s=yH)∨(x = .sel 27∧t.t.s=kOne)∨(x = .sel 28∧t.t.s=kTwo)∨(x = .opn∧t.t.s=kOpen)):=by
 rw[pZ ht] at h;unfold hdT at h
 by_cases h3:t.t.k=3
 ·refine⟨h3,?_⟩
  rw[if_pos h3] at h
  split at h
  ·exact .inl ⟨h.symm,‹_›⟩
  ·split at h
   ·exact .inr (.inl ⟨h.symm,‹_›⟩)
   ·split at h
    ·exact .inr (.inr (.inr (.inr ⟨h.symm,‹_›⟩)))
    ·split at h
     ·exact .inr (.inr (.inl ⟨h.symm,‹_›⟩))
     ·split at h
      ·exact .inr (.inr (.inr (.inl ⟨h.symm,‹_›⟩)))
      ·subst h
       rcases hx with h | h | h | h | h<;>cases h
 ·exfalso
  rw[if_neg h3] at h
  split at h
  ·split at h
   all_goals (subst h;rcases hx with h | h | h | h | h<;>cases h)
  ·split at h
   ·split at h
    all_goals (subst h;rcases hx with h | h | h | h | h<;>cases h)
   ·subst h
    rcases hx with h | h | h | h | h<;>cases h
theorem zVc {W w:World} {o:Obj} {k n:Int} {s:ByteArray} (hW:W.heap.size≤w.heap.size):NewT W ((w.alloc o).alloc (.cells #[.int .i64 k,.int .i64 n,.string s,.string ⟨#[]⟩,.slice none 0 0] 57)) (.pointer (some ⟨w.heap.size+1,0,none⟩)) (⟨k,n,s,nob⟩,.nil):=by
 have h:=mP (W:=W) (w:=w.alloc o) (k:=k) (n:=n) (s:=s) (by have:=((Up.refl w).alloc o).size;omega);rw[show(w.alloc o).heap.size=w.heap.size+1 from by simp] at h;exact h
theorem zDp (l:List Te) (A E:Nat→Rs Tr) (i:Nat) (hl:l.length≤1000000) (hz:∀t∈l,t.t.s.size≤1000000000) (w:World) (v:Value) (hv:Tke w v l) (x:Int) (h:hdE B.long l i = .num x) :
  Calls Tryz.prog 228 #[v,.int .i64 (i:Int)] w (qN (qL B.long l A E i) w):=by
 have hlt:i<l.length:=xO (lg:=B.long) (by rw[h];rfl);obtain⟨t,ht⟩:∃t,l[i]? = some t:=⟨_,List.getElem?_eq_getElem hlt⟩;have cS:=kR l i hz w v hv;rw[h] at cS;have HV:=Lib.hid hv;have hw1:=qV i 1 (by omega) (by omega);have hw2:=qV i 2 (by omega) (by omega);obtain⟨e1,e2⟩:=yY7 ht h;have hR:qL B.long l A E i = .inl ((⟨20,x,nob,nob⟩,.nil),i+1):=by unfold qL;rw[h]
 rw[hR];obtain⟨V,hVe⟩:∃V,v=V:=⟨_,rfl⟩;obtain⟨G,c,hsl,hc⟩:=hv;obtain⟨b,o,rfl,hb,c0,c1,c2,m,c3⟩:=hc i t ht;obtain⟨n,hn⟩:∃n,l.length=n:=⟨_,rfl⟩;rw[hn] at hsl;subst hsl;have hki:(i:Int)<(n:Int):=by omega
 rw[e1] at c0;rw[e2] at c2;clear e1 e2 h hR;clear hc ht hz hVe
 go_enter Tryz.func228,Tryz.ntmps228
 go_wp2_with fail;refine cS.mono ?_;rintro e w1 ⟨rfl,u1⟩;have d0:=(show Up w w1 from u1).cell c0;have d1:=(show Up w w1 from u1).cell c1;have d2:=(show Up w w1 from u1).cell c2;have d3:=(show Up w w1 from u1).cell c3;clear c0 c1 c2 c3 cS;go_wp2_with fail
 go_ret3
 exact⟨_,_,_,rfl,⟨by first | exact zVc u1.size | exact mP (by have:=u1.size;simp;omega),by first | rfl | omega,rfl⟩,by first | exact(u1.alloc _).alloc _⟩
theorem zDq (l:List Te) (A E:Nat→Rs Tr) (i:Nat) (hl:l.length≤1000000) (hz:∀t∈l,t.t.s.size≤1000000000) (w:World) (v:Value) (hv:Tke w v l) (x:ByteArray) (h:hdE B.long l i = .var x) :
  Calls Tryz.prog 228 #[v,.int .i64 (i:Int)] w (qN (qL B.long l A E i) w):=by
 have hlt:i<l.length:=xO (lg:=B.long) (by rw[h];rfl);obtain⟨t,ht⟩:∃t,l[i]? = some t:=⟨_,List.getElem?_eq_getElem hlt⟩;have cS:=kR l i hz w v hv;rw[h] at cS;have HV:=Lib.hid hv;have hw1:=qV i 1 (by omega) (by omega);have hw2:=qV i 2 (by omega) (by omega);obtain⟨e1,e2⟩:=yY8 ht h;have hR:qL B.long l A E i = .inl (nd 23 x .nil,i+1):=by unfold qL;rw[h]
 rw[hR];obtain⟨V,hVe⟩:∃V,v=V:=⟨_,rfl⟩;obtain⟨G,c,hsl,hc⟩:=hv;obtain⟨b,o,rfl,hb,c0,c1,c2,m,c3⟩:=hc i t ht;obtain⟨n,hn⟩:∃n,l.length=n:=⟨_,rfl⟩;rw[hn] at hsl;subst hsl;have hki:(i:Int)<(n:Int):=by omega
 rw[e1] at c0;rw[e2] at c1;clear e1 e2 h hR;clear hc ht hz hVe
 go_enter Tryz.func228,Tryz.ntmps228
 go_wp2_with fail;refine cS.mono ?_;rintro e w1 ⟨rfl,u1⟩;have d0:=(show Up w w1 from u1).cell c0;have d1:=(show Up w w1 from u1).cell c1;have d2:=(show Up w w1 from u1).cell c2;have d3:=(show Up w w1 from u1).cell c3;clear c0 c1 c2 c3 cS;go_wp2_with fail;refine(yE 23 x _ _ _ _).mono ?_;rintro e w2 ⟨rfl,rfl⟩;go_wp2_with fail
 go_ret3
 exact⟨_,_,_,rfl,⟨by first | exact zVc u1.size | exact mP (by have:=u1.size;simp;omega),by first | rfl | omega,rfl⟩,by first | exact(u1.alloc _).alloc _⟩
theorem zDr (l:List Te) (A E:Nat→Rs Tr) (i:Nat) (hl:l.length≤1000000) (hz:∀t∈l,t.t.s.size≤1000000000) (w:World) (v:Value) (hv:Tke w v l) (h:hdE B.long l i = .boo 1) :
  Calls Tryz.prog 228 #[v,.int .i64 (i:Int)] w (qN (qL B.long l A E i) w):=by
 have hlt:i<l.length:=xO (lg:=B.long) (by rw[h];rfl);obtain⟨t,ht⟩:∃t,l[i]? = some t:=⟨_,List.getElem?_eq_getElem hlt⟩;have cS:=kR l i hz w v hv;rw[h] at cS;have HV:=Lib.hid hv;have hw1:=qV i 1 (by omega) (by omega);have hw2:=qV i 2 (by omega) (by omega);obtain⟨e1,e2⟩:=pY ht h (by simp);have e2:t.t.s=kTrue:=by simpa using e2
 have hR:qL B.long l A E i = .inl ((⟨21,1,nob,nob⟩,.nil),i+1):=by unfold qL;rw[h]
 rw[hR];obtain⟨V,hVe⟩:∃V,v=V:=⟨_,rfl⟩;obtain⟨G,c,hsl,hc⟩:=hv;obtain⟨b,o,rfl,hb,c0,c1,c2,m,c3⟩:=hc i t ht;obtain⟨n,hn⟩:∃n,l.length=n:=⟨_,rfl⟩;rw[hn] at hsl;subst hsl;have hki:(i:Int)<(n:Int):=by omega
 rw[e1] at c0;obtain⟨s,hs⟩:∃s,t.t.s=s:=⟨_,rfl⟩;rw[hs] at c1;rw[e2] at hs;have hs:=hs.symm;have qkTrue:(s.toList==[116,114,117,101])=true:=(kX s kTrue).trans (by rw[hs];decide);have pkTrue:s.toList=[116,114,117,101]:=beq_iff_eq.1 qkTrue;clear e1 e2 h hR hs;clear hc ht hz hVe
 go_enter Tryz.func228,Tryz.ntmps228
 go_wp2_with fail;refine cS.mono ?_;rintro e w1 ⟨rfl,u1⟩;have d0:=(show Up w w1 from u1).cell c0;have d1:=(show Up w w1 from u1).cell c1;have d2:=(show Up w w1 from u1).cell c2;have d3:=(show Up w w1 from u1).cell c3;clear c0 c1 c2 c3 cS;go_wp2_with fail
 go_ret3
 exact⟨_,_,_,rfl,⟨by first | exact zVc u1.size | exact mP (by have:=u1.size;simp;omega),by first | rfl | omega,rfl⟩,by first | exact(u1.alloc _).alloc _⟩
theorem zDs (l:List Te) (A E:Nat→Rs Tr) (i:Nat) (hl:l.length≤1000000) (hz:∀t∈l,t.t.s.size≤1000000000) (w:World) (v:Value) (hv:Tke w v l) (h:hdE B.long l i = .boo 0) :
  Calls Tryz.prog 228 #[v,.int .i64 (i:Int)] w (qN (qL B.long l A E i) w):=by
 have hlt:i<l.length:=xO (lg:=B.long) (by rw[h];rfl);obtain⟨t,ht⟩:∃t,l[i]? = some t:=⟨_,List.getElem?_eq_getElem hlt⟩;have cS:=kR l i hz w v hv;rw[h] at cS;have HV:=Lib.hid hv;have hw1:=qV i 1 (by omega) (by omega);have hw2:=qV i 2 (by omega) (by omega);obtain⟨e1,e2⟩:=pY ht h (by simp);have e2:t.t.s=yH:=by simpa using e2
 have hR:qL B.long l A E i = .inl ((⟨21,0,nob,nob⟩,.nil),i+1):=by unfold qL;rw[h]
 rw[hR];obtain⟨V,hVe⟩:∃V,v=V:=⟨_,rfl⟩;obtain⟨G,c,hsl,hc⟩:=hv;obtain⟨b,o,rfl,hb,c0,c1,c2,m,c3⟩:=hc i t ht;obtain⟨n,hn⟩:∃n,l.length=n:=⟨_,rfl⟩;rw[hn] at hsl;subst hsl;have hki:(i:Int)<(n:Int):=by omega
 rw[e1] at c0;obtain⟨s,hs⟩:∃s,t.t.s=s:=⟨_,rfl⟩;rw[hs] at c1;rw[e2] at hs;have hs:=hs.symm;have qkTrue:(s.toList==[116,114,117,101])=false:=(kX s kTrue).trans (by rw[hs];decide);have pkTrue:¬s.toList=[116,114,117,101]:=beq_eq_false_iff_ne.1 qkTrue;have qkFalse:(s.toList==[102,97,108,115,101])=true:=(kX s yH).trans (by rw[hs];decide);have pkFalse:s.toList=[102,97,108,115,101]:=beq_iff_eq.1 qkFalse;clear e1 e2 h hR hs;clear hc ht hz hVe
 go_enter Tryz.func228,Tryz.ntmps228
 go_wp2_with fail;refine cS.mono ?_;rintro e w1 ⟨rfl,u1⟩;have d0:=(show Up w w1 from u1).cell c0;have d1:=(show Up w w1 from u1).cell c1;have d2:=(show Up w w1 from u1).cell c2;have d3:=(show Up w w1 from u1).cell c3;clear c0 c1 c2 c3 cS;go_wp2_with fail;refine(yE 21 nob _ _ _ _).mono ?_;rintro e w2 ⟨rfl,rfl⟩;go_wp2_with fail
 go_ret3
 exact⟨_,_,_,rfl,⟨by first | exact zVc u1.size | exact mP (by have:=u1.size;simp;omega),by first | rfl | omega,rfl⟩,by first | exact(u1.alloc _).alloc _⟩
theorem zDt (l:List Te) (A E:Nat→Rs Tr) (i:Nat) (hl:l.length≤1000000) (hz:∀t∈l,t.t.s.size≤1000000000) (w:World) (v:Value) (hv:Tke w v l) (cA:∀(j:Nat) (W:World),i<j→j≤l.length→Up w W→Calls Tryz.prog 228 #[v,.int .i64 (j:Int)] W (qN (A j) W)) (h:hdE B.long l i = .sel 27) :
  Calls Tryz.prog 228 #[v,.int .i64 (i:Int)] w (qN (qL B.long l A E i) w):=by
 have hlt:i<l.length:=xO (lg:=B.long) (by rw[h];rfl);obtain⟨t,ht⟩:∃t,l[i]? = some t:=⟨_,List.getElem?_eq_getElem hlt⟩;have cS:=kR l i hz w v hv;rw[h] at cS;have HV:=Lib.hid hv;have hw1:=qV i 1 (by omega) (by omega);have hw2:=qV i 2 (by omega) (by omega);obtain⟨e1,e2⟩:=pY ht h (by simp);have e2:t.t.s=kOne:=by simpa using e2
 have hR:qL B.long l A E i=thn (A (i+1)) fun a j=>.inl (nd 27 nob (fr1 a),j):=by unfold qL;rw[h]
 rw[hR];obtain⟨V,hVe⟩:∃V,v=V:=⟨_,rfl⟩;obtain⟨G,c,hsl,hc⟩:=hv;obtain⟨b,o,rfl,hb,c0,c1,c2,m,c3⟩:=hc i t ht;obtain⟨n,hn⟩:∃n,l.length=n:=⟨_,rfl⟩;rw[hn] at hsl;subst hsl;have hki:(i:Int)<(n:Int):=by omega
 have cA:=fun W u=>cA (i+1) W (Nat.lt_succ_self i) hlt u
 obtain⟨R1,hR1⟩:∃R1,A (i+1)=R1:=⟨_,rfl⟩;rw[hR1] at cA ⊢;rw[e1] at c0;obtain⟨s,hs⟩:∃s,t.t.s=s:=⟨_,rfl⟩;rw[hs] at c1;rw[e2] at hs;have hs:=hs.symm;have qkTrue:(s.toList==[116,114,117,101])=false:=(kX s kTrue).trans (by rw[hs];decide);have pkTrue:¬s.toList=[116,114,117,101]:=beq_eq_false_iff_ne.1 qkTrue;have qkFalse:(s.toList==[102,97,108,115,101])=false:=(kX s yH).trans (by rw[hs];decide);have pkFalse:¬s.toList=[102,97,108,115,101]:=beq_eq_false_iff_ne.1 qkFalse;have qkOne:(s.toList==[35,49])=true:=(kX s kOne).trans (by rw[hs];decide);have pkOne:s.toList=[35,49]:=beq_iff_eq.1 qkOne;have qkTwo:(s.toList==[35,50])=false:=(kX s kTwo).trans (by rw[hs];decide);have pkTwo:¬s.toList=[35,50]:=beq_eq_false_iff_ne.1 qkTwo;clear hR1 e1 e2 h hR hs;clear hc ht hz hVe
 go_enter Tryz.func228,Tryz.ntmps228
 go_wp2_with fail;refine cS.mono ?_;rintro e w1 ⟨rfl,u1⟩;have d0:=(show Up w w1 from u1).cell c0;have d1:=(show Up w w1 from u1).cell c1;have d2:=(show Up w w1 from u1).cell c2;have d3:=(show Up w w1 from u1).cell c3;clear c0 c1 c2 c3 cS;go_wp2_with fail;refine(cA _ (u1.alloc _)).mono ?_;rintro e w3 ⟨va,q,er,rfl,hV,u3⟩;have x1:w3.cell? ⟨w1.heap.size,1,none⟩=some (.string s):=u3.cell (sX rfl);have U3:Up w w3:=(u1.alloc _).trans u3;obtain⟨pa,rfl⟩:=hV.ptr;have HVV:=Lib.hid hV;clear hV;go_wp2_with fail;refine(yE 27 nob _ _ _ _).mono ?_;rintro e w4 ⟨rfl,rfl⟩;go_wp2_with fail
 go_ret3
 refine⟨_,_,_,rfl,?_,(U3.alloc _).alloc _⟩;have hV:=HVV.out
 cases R1 with
 | inr r=>exact⟨hV.1,hV.2.1,_,rfl⟩
 | inl r=>exact⟨has1 U3.size (hV.1.from (u1.alloc _) (Up.refl _)),hV.2.1,hV.2.2⟩
theorem zDu (l:List Te) (A E:Nat→Rs Tr) (i:Nat) (hl:l.length≤1000000) (hz:∀t∈l,t.t.s.size≤1000000000) (w:World) (v:Value) (hv:Tke w v l) (cA:∀(j:Nat) (W:World),i<j→j≤l.length→Up w W→Calls Tryz.prog 228 #[v,.int .i64 (j:Int)] W (qN (A j) W)) (h:hdE B.long l i = .sel 28) :
  Calls Tryz.prog 228 #[v,.int .i64 (i:Int)] w (qN (qL B.long l A E i) w):=by
 have hlt:i<l.length:=xO (lg:=B.long) (by rw[h];rfl);obtain⟨t,ht⟩:∃t,l[i]? = some t:=⟨_,List.getElem?_eq_getElem hlt⟩;have cS:=kR l i hz w v hv;rw[h] at cS;have HV:=Lib.hid hv;have hw1:=qV i 1 (by omega) (by omega);have hw2:=qV i 2 (by omega) (by omega);obtain⟨e1,e2⟩:=pY ht h (by simp);have e2:t.t.s=kTwo:=by simpa using e2
 have hR:qL B.long l A E i=thn (A (i+1)) fun a j=>.inl (nd 28 nob (fr1 a),j):=by unfold qL;rw[h]
 rw[hR];obtain⟨V,hVe⟩:∃V,v=V:=⟨_,rfl⟩;obtain⟨G,c,hsl,hc⟩:=hv;obtain⟨b,o,rfl,hb,c0,c1,c2,m,c3⟩:=hc i t ht;obtain⟨n,hn⟩:∃n,l.length=n:=⟨_,rfl⟩;rw[hn] at hsl;subst hsl;have hki:(i:Int)<(n:Int):=by omega
 have cA:=fun W u=>cA (i+1) W (Nat.lt_succ_self i) hlt u
 obtain⟨R1,hR1⟩:∃R1,A (i+1)=R1:=⟨_,rfl⟩;rw[hR1] at cA ⊢;rw[e1] at c0;obtain⟨s,hs⟩:∃s,t.t.s=s:=⟨_,rfl⟩;rw[hs] at c1;rw[e2] at hs;have hs:=hs.symm;have qkTrue:(s.toList==[116,114,117,101])=false:=(kX s kTrue).trans (by rw[hs];decide);have pkTrue:¬s.toList=[116,114,117,101]:=beq_eq_false_iff_ne.1 qkTrue;have qkFalse:(s.toList==[102,97,108,115,101])=false:=(kX s yH).trans (by rw[hs];decide);have pkFalse:¬s.toList=[102,97,108,115,101]:=beq_eq_false_iff_ne.1 qkFalse;have qkOne:(s.toList==[35,49])=false:=(kX s kOne).trans (by rw[hs];decide);have pkOne:¬s.toList=[35,49]:=beq_eq_false_iff_ne.1 qkOne;have qkTwo:(s.toList==[35,50])=true:=(kX s kTwo).trans (by rw[hs];decide);have pkTwo:s.toList=[35,50]:=beq_iff_eq.1 qkTwo;clear hR1 e1 e2 h hR hs;clear hc ht hz hVe
 go_enter Tryz.func228,Tryz.ntmps228
 go_wp2_with fail;refine cS.mono ?_;rintro e w1 ⟨rfl,u1⟩;have d0:=(show Up w w1 from u1).cell c0;have d1:=(show Up w w1 from u1).cell c1;have d2:=(show Up w w1 from u1).cell c2;have d3:=(show Up w w1 from u1).cell c3;clear c0 c1 c2 c3 cS;go_wp2_with fail;refine(cA _ (u1.alloc _)).mono ?_;rintro e w3 ⟨va,q,er,rfl,hV,u3⟩;have x1:w3.cell? ⟨w1.heap.size,1,none⟩=some (.string s):=u3.cell (sX rfl);have U3:Up w w3:=(u1.alloc _).trans u3;obtain⟨pa,rfl⟩:=hV.ptr;have HVV:=Lib.hid hV;clear hV;go_wp2_with fail;refine(yE 28 nob _ _ _ _).mono ?_;rintro e w4 ⟨rfl,rfl⟩;go_wp2_with fail
 go_ret3
 refine⟨_,_,_,rfl,?_,(U3.alloc _).alloc _⟩;have hV:=HVV.out
 cases R1 with
 | inr r=>exact⟨hV.1,hV.2.1,_,rfl⟩
 | inl r=>exact⟨has1 U3.size (hV.1.from (u1.alloc _) (Up.refl _)),hV.2.1,hV.2.2⟩
theorem zJ6 (l:List Te) (A E:Nat→Rs Tr) (i:Nat) (hl:l.length≤1000000) (hz:∀t∈l,t.t.s.size≤1000000000) (w:World) (v:Value) (hv:Tke w v l) (H:zVb l E i w v) (h:hdE B.long l i = .opn) (hk:key (tks l) (i+1) kShut=true) :
  Calls Tryz.prog 228 #[v,.int .i64 (i:Int)] w (qN (qL B.long l A E i) w):=by
 have hlt:i<l.length:=xO (lg:=B.long) (by rw[h];rfl);obtain⟨t,ht⟩:∃t,l[i]? = some t:=⟨_,List.getElem?_eq_getElem hlt⟩;have cS:=kR l i hz w v hv;rw[h] at cS;have HV:=Lib.hid hv;have hw1:=qV i 1 (by omega) (by omega);have hw2:=qV i 2 (by omega) (by omega);obtain⟨e1,e2⟩:=pY ht h (by simp);have e2:t.t.s=kOpen:=by simpa using e2
 have cK1:=H.key (i+1) kShut;rw[hk] at cK1;have hR:qL B.long l A E i = .inl (nd 22 nob .nil,i+2):=by unfold qL;rw[h];simp only;rw[if_pos hk]
 rw[hR];clear hR h;obtain⟨V,hVe⟩:∃V,v=V:=⟨_,rfl⟩;obtain⟨G,c,hsl,hc⟩:=hv;obtain⟨b,o,rfl,hb,c0,c1,c2,m,c3⟩:=hc i t ht;obtain⟨n,hn⟩:∃n,l.length=n:=⟨_,rfl⟩;rw[hn] at hsl;subst hsl;have hki:(i:Int)<(n:Int):=by omega
 rw[e1] at c0;obtain⟨s,hs⟩:∃s,t.t.s=s:=⟨_,rfl⟩;rw[hs] at c1;rw[e2] at hs;have hs:=hs.symm;have qkTrue:(s.toList==[116,114,117,101])=false:=(kX s kTrue).trans (by rw[hs];decide);have pkTrue:¬s.toList=[116,114,117,101]:=beq_eq_false_iff_ne.1 qkTrue;have qkFalse:(s.toList==[102,97,108,115,101])=false:=(kX s yH).trans (by rw[hs];decide);have pkFalse:¬s.toList=[102,97,108,115,101]:=beq_eq_false_iff_ne.1 qkFalse;have qkOne:(s.toList==[35,49])=false:=(kX s kOne).trans (by rw[hs];decide);have pkOne:¬s.toList=[35,49]:=beq_eq_false_iff_ne.1 qkOne;have qkTwo:(s.toList==[35,50])=false:=(kX s kTwo).trans (by rw[hs];decide);have pkTwo:¬s.toList=[35,50]:=beq_eq_false_iff_ne.1 qkTwo;clear e1 e2 hs;clear hc ht hz hVe
 go_enter Tryz.func228,Tryz.ntmps228
 go_wp2_with fail;refine cS.mono ?_;rintro e w1 ⟨rfl,u1⟩;have d0:=(show Up w w1 from u1).cell c0;have d1:=(show Up w w1 from u1).cell c1;have d2:=(show Up w w1 from u1).cell c2;have d3:=(show Up w w1 from u1).cell c3;clear c0 c1 c2 c3 cS;go_wp2_with fail;refine(cK1 _ (u1.alloc _)).mono ?_;rintro e w2 ⟨rfl,u2⟩;have U2:Up w w2:=(u1.alloc _).trans u2;go_wp2_with fail;refine(yE 22 nob _ _ _ _).mono ?_;rintro e w3 ⟨rfl,rfl⟩;go_wp2_with fail
 go_ret3
 exact⟨_,_,_,rfl,⟨mP U2.size,by first | rfl | omega,rfl⟩,U2.alloc _⟩
theorem zDv (l:List Te) (A E:Nat→Rs Tr) (i:Nat) (hl:l.length≤1000000) (hz:∀t∈l,t.t.s.size≤1000000000) (w:World) (v:Value) (hv:Tke w v l) (H:zVb l E i w v) (h:hdE B.long l i = .opn) (hk:key (tks l) (i+1) kShut=false) :
  Calls Tryz.prog 228 #[v,.int .i64 (i:Int)] w (qN (qL B.long l A E i) w):=by
 have hlt:i<l.length:=xO (lg:=B.long) (by rw[h];rfl);obtain⟨t,ht⟩:∃t,l[i]? = some t:=⟨_,List.getElem?_eq_getElem hlt⟩;have cS:=kR l i hz w v hv;rw[h] at cS;have HV:=Lib.hid hv;have hw1:=qV i 1 (by omega) (by omega);have hw2:=qV i 2 (by omega) (by omega);obtain⟨e1,e2⟩:=pY ht h (by simp);have e2:t.t.s=kOpen:=by simpa using e2
 have cK1:=H.key (i+1) kShut;rw[hk] at cK1;obtain⟨R,hRe⟩:∃R,qL B.long l A E i=R:=⟨_,rfl⟩;have hRR:R=thn (E (i+1)) fun a j=>(if key (tks l) j zN then thn (thenK (tks l) (E (j+1)) [kShut]) (fun b m=>.inl (nd 26 nob (fr2 a b),m)) else thn (keysL (tks l) j [kShut]) fun _ m=>.inl (a,m)):=by
  rw[←hRe];unfold qL;rw[h];simp only;rw[if_neg (by rw[hk];decide)]
 rw[hRe];have HR:=Lib.hid hRR;have cX:=fun W u=>H.expr (i+1) W (Nat.lt_succ_self i) hlt u
 have aX:=H.inE (i+1) hlt;obtain⟨R1,hR1⟩:∃R1,E (i+1)=R1:=⟨_,rfl⟩;rw[hR1] at cX aX;have HR1:=Lib.hid hR1;clear hR1 hRe hRR h;obtain⟨V,hVe⟩:∃V,v=V:=⟨_,rfl⟩;obtain⟨G,c,hsl,hc⟩:=hv;obtain⟨b,o,rfl,hb,c0,c1,c2,m,c3⟩:=hc i t ht;obtain⟨n,hn⟩:∃n,l.length=n:=⟨_,rfl⟩;rw[hn] at hsl;subst hsl;have hki:(i:Int)<(n:Int):=by omega
 rw[e1] at c0;obtain⟨s,hs⟩:∃s,t.t.s=s:=⟨_,rfl⟩;rw[hs] at c1;rw[e2] at hs;have hs:=hs.symm;have qkTrue:(s.toList==[116,114,117,101])=false:=(kX s kTrue).trans (by rw[hs];decide);have pkTrue:¬s.toList=[116,114,117,101]:=beq_eq_false_iff_ne.1 qkTrue;have qkFalse:(s.toList==[102,97,108,115,101])=false:=(kX s yH).trans (by rw[hs];decide);have pkFalse:¬s.toList=[102,97,108,115,101]:=beq_eq_false_iff_ne.1 qkFalse;have qkOne:(s.toList==[35,49])=false:=(kX s kOne).trans (by rw[hs];decide);have pkOne:¬s.toList=[35,49]:=beq_eq_false_iff_ne.1 qkOne;have qkTwo:(s.toList==[35,50])=false:=(kX s kTwo).trans (by rw[hs];decide);have pkTwo:¬s.toList=[35,50]:=beq_eq_false_iff_ne.1 qkTwo;clear e1 e2 hs;clear hc ht hz hVe
 go_enter Tryz.func228,Tryz.ntmps228
 go_wp2_with fail;refine cS.mono ?_;rintro e w1 ⟨rfl,u1⟩;have d0:=(show Up w w1 from u1).cell c0;have d1:=(show Up w w1 from u1).cell c1;have d2:=(show Up w w1 from u1).cell c2;have d3:=(show Up w w1 from u1).cell c3;clear c0 c1 c2 c3 cS;go_wp2_with fail;refine(cK1 _ (u1.alloc _)).mono ?_;rintro e w2 ⟨rfl,u2⟩;have U2:Up w w2:=(u1.alloc _).trans u2;go_wp2_with fail;refine(cX _ U2).mono ?_;rintro e w3 ⟨va,ja,ea,rfl,hV,u3⟩;have U3:Up w w3:=U2.trans u3
 cases R1 with
 | inr r=>
  obtain⟨p,er⟩:=r;obtain⟨rfl,rfl,A1,rfl⟩:=hV;have hne:=aX.ne rfl;go_wp2_with fail
  go_ret3
  rw[show R = .inr (p,ea) from by rw[HR.out,HR1.out];rfl];exact⟨_,_,_,rfl,⟨rfl,rfl,none,rfl⟩,U3⟩
 | inl r=>
  obtain⟨a,j⟩:=r;obtain⟨hT,rfl,rfl⟩:=hV;obtain⟨o1,p1,rfl⟩:=InT.ptr hT;have hj:i+1<j∧j≤l.length:=aX;have cC:=H.key j zN
  cases hb:key (tks l) j zN with
  | true=>
   rw[hb] at cC;have hj1:j+1≤l.length:=qK hb;have hw3:=qV j 1 (by omega) (by omega);have cB:=fun W vk u h=>H.sub (j+1) [kShut] W vk (by omega) hj1 u h
   obtain⟨R3,hR3⟩:∃R3,thenK (tks l) (E (j+1)) [kShut]=R3:=⟨_,rfl⟩;rw[hR3] at cB;have hRR:R=thn R3 fun b m=>.inl (nd 26 nob (fr2 a b),m):=by rw[HR.out,HR1.out];show(if key (tks l) j zN=true then _ else _)=_;rw[hb,if_pos rfl,hR3]
   have HRR:=Lib.hid hRR;clear hRR hb hR3 cX aX;go_wp2_with fail;refine(cC _ U3).mono ?_;rintro e w4 ⟨rfl,u4⟩;have U4:Up w w4:=U3.trans u4;go_wp2_with fail;refine(cB _ _ (U4.alloc _) (TxS.row1 w4 kShut _)).mono ?_;rintro e w5 ⟨vb,q,er,rfl,hV,u5⟩;have U5:Up w w5:=(U4.alloc _).trans u5;obtain⟨pb,rfl⟩:=hV.ptr;have HVV:=Lib.hid hV;clear hV;go_wp2_with fail;refine(yE 26 nob _ _ _ _).mono ?_;rintro e w6 ⟨rfl,rfl⟩;go_wp2_with fail
   go_ret3
   rw[HRR.out];refine⟨_,_,_,rfl,?_,(U5.alloc _).alloc _⟩;have hV:=HVV.out
   cases R3 with
   | inr r=>exact⟨hV.1,hV.2.1,_,rfl⟩
   | inl r=>exact⟨oQ U5.size (hT.from U2 (u4.trans (((Up.refl _).alloc _).trans u5))) (hV.1.from (U4.alloc _) (Up.refl _)),hV.2.1,hV.2.2⟩
  | false=>
   rw[hb] at cC;have cB:=fun W vk u h=>H.keys j [kShut] W vk hj.2 u h
   obtain⟨R3,hR3⟩:∃R3,keysL (tks l) j [kShut]=R3:=⟨_,rfl⟩;rw[hR3] at cB;have hRR:R=thn R3 fun _ m=>.inl (a,m):=by rw[HR.out,HR1.out];show(if key (tks l) j zN=true then _ else _)=_;rw[hb,if_neg (by decide),hR3]
   have HRR:=Lib.hid hRR;clear hRR hb hR3 cX aX;go_wp2_with fail;refine(cC _ U3).mono ?_;rintro e w4 ⟨rfl,u4⟩;have U4:Up w w4:=U3.trans u4;go_wp2_with fail;refine(cB _ _ (U4.alloc _) (TxS.row1 w4 kShut _)).mono ?_;rintro e w5 ⟨q,er,rfl,hV,u5⟩;have U5:Up w w5:=(U4.alloc _).trans u5;have HVV:=Lib.hid hV;clear hV;go_wp2_with fail
   go_ret3
   rw[HRR.out];refine⟨_,_,_,rfl,?_,U5⟩;have hV:=HVV.out
   cases R3 with
   | inr r=>exact⟨hV.1,hV.2,_,rfl⟩
   | inl r=>exact⟨hT.from U2 (u4.trans (((Up.refl _).alloc _).trans u5)),hV.1,hV.2⟩
theorem yY9 (l:List Te) (A E:Nat→Rs Tr) (i:Nat) (hz:∀t∈l,t.t.s.size≤1000000000) (w:World) (v:Value) (hv:Tke w v l) (h:hdE B.long l i = .no) :
  Calls Tryz.prog 228 #[v,.int .i64 (i:Int)] w (qN (qL B.long l A E i) w):=by
 have cS:=kR l i hz w v hv;rw[h] at cS;have hR:qL B.long l A E i = .inr (i,6):=by unfold qL;rw[h]
 rw[hR];clear h hR hv hz
 go_enter Tryz.func228,Tryz.ntmps228
 go_wp2_with fail;refine cS.mono ?_;rintro e w1 ⟨rfl,u1⟩;go_wp2_with fail
 go_ret3
 exact⟨_,_,_,rfl,⟨rfl,rfl,none,rfl⟩,u1⟩
theorem yYa {W w:World} {vt:Value} {t:Tr} {c x:ByteArray} (hW:W.heap.size≤w.heap.size) (ht:NewT W w vt t) :
  NewT W ((w.alloc (.cells #[vt] 24)).alloc (.cells #[.int .i64 34,.int .i64 0,.string c,.string x,.slice (some ⟨w.heap.size,0,none⟩) 1 1] 57)) (.pointer (some ⟨w.heap.size+1,0,none⟩)) (⟨34,0,c,x⟩,fr1 t):=by
 have e1:(w.alloc (.cells #[vt] 24)).heap.size=w.heap.size+1:=by simp
 rw[←e1];obtain⟨W1,hW1⟩:∃W1,w.alloc (.cells #[vt] 24)=W1:=⟨_,rfl⟩;have s1:W1.heap[w.heap.size]? = some (.cells #[vt] 24 (0,0)):=by rw[←hW1];exact heap_alloc_new w _
 have u1:Up w W1:=by rw[←hW1];exact(Up.refl w).alloc _
 have z1:=u1.size;rw[hW1];obtain⟨W2,hW2⟩:∃W2,W1.alloc (.cells #[.int .i64 34,.int .i64 0,.string c,.string x,.slice (some ⟨w.heap.size,0,none⟩) 1 1] 57)=W2:=⟨_,rfl⟩;have s2:W2.heap[W1.heap.size]? = some (.cells #[.int .i64 34,.int .i64 0,.string c,.string x,.slice (some ⟨w.heap.size,0,none⟩) 1 1] 57 (0,0)):=by rw[←hW2];exact heap_alloc_new W1 _
 have u2:Up W1 W2:=by rw[←hW2];exact(Up.refl W1).alloc _
 have s3:W2.heap[w.heap.size]? = some (.cells #[vt] 24 (0,0)):=u2.row s1;rw[hW2];exact yU (x:=⟨34,0,c,x⟩) (f:=fr1 t) s2 rfl (Nat.le_refl _) ⟨by omega,qC s2⟩ ⟨hW,qC s3⟩ ⟨⟨_,cell_of_row W2 w.heap.size 0 _ _ _ s3,ht.up (u1.trans u2)⟩,trivial⟩
def armW (w4:World) (vt:Value) (c x:ByteArray):World:=((w4.alloc (.cells #[vt] 24)).alloc (.cells #[.int .i64 34,.int .i64 0,.string c,.string x,.slice (some ⟨w4.heap.size,0,none⟩) 1 1] 57)).alloc (.cells #[.pointer (some ⟨w4.heap.size+1,0,none⟩)] 24)
theorem zM0 (w4:World) (vt:Value) (c x:ByteArray):Up w4 (armW w4 vt c x):=(((Up.refl w4).alloc _).alloc _).alloc _
theorem zJ7 (w4:World) (vt:Value) (c x:ByteArray):(armW w4 vt c x).heap.size=w4.heap.size+3:=by unfold armW;simp
theorem zDw {wr w4:World} {vt:Value} {c x:ByteArray} {t:Tr} (h:NewT wr w4 vt t) (hw:wr.heap.size≤w4.heap.size):NewT wr (armW w4 vt c x) (.pointer (some ⟨w4.heap.size+1,0,none⟩)) (⟨34,0,c,x⟩,fr1 t):=
 (yYa hw h).up ((Up.refl _).alloc _)
theorem zJ8 (w4:World) (vt:Value) (c x:ByteArray):∀j u,[Value.pointer (some ⟨w4.heap.size+1,0,none⟩)][j]? = some u→(armW w4 vt c x).cell? ((⟨w4.heap.size+2,0,none⟩:Addr).add j)=some u:=by
 intro j u hj;have e:((w4.alloc (.cells #[vt] 24)).alloc (.cells #[.int .i64 34,.int .i64 0,.string c,.string x,.slice (some ⟨w4.heap.size,0,none⟩) 1 1] 57)).heap.size=w4.heap.size+2:=by simp
 have h:=cell_one_new ((w4.alloc (.cells #[vt] 24)).alloc (.cells #[.int .i64 34,.int .i64 0,.string c,.string x,.slice (some ⟨w4.heap.size,0,none⟩) 1 1] 57)) (.pointer (some ⟨w4.heap.size+1,0,none⟩)) 24 j u hj;rw[e] at h;exact h
theorem KidsV.nil (W w:World):KidsV W w (.slice none 0 0) .nil:=⟨[],none,0,rfl,Nat.zero_le _,trivial,fun _=>⟨rfl,rfl⟩,fun h=>absurd h (Nat.lt_irrefl _)⟩
theorem CoSt.kidsV {W wr:World} {vo:Value} {acc:Fr} {ps:List Value} (h:CoSt W wr vo acc ps) (h0:0<acc.len) (hl:acc.len≤1000000):KidsV W wr vo acc:=by
 obtain⟨A,c,hv,hc,hlt,hcell⟩:=h.form;exact⟨ps,A,c,hv,hl,PtF.keep (fun _ hq=>hq.1) (fun _ _=>rfl) h.kids,fun h=>by omega,hcell⟩
theorem yYb (l:List Te) (n0 i:Nat) (hn0:2*(l.length-i)+1≤n0) (hi:i≤l.length) (hl:l.length≤1000000) (hz:∀t∈l,t.t.s.size≤1000000000) (w:World) (v:Value) (hv:Tke w v l)
  (cE:∀(m j:Nat) (W:World),m<n0→2*(l.length-j)+2≤m→j≤l.length→Up w W→Calls Tryz.prog 27 #[v,.int .i64 (j:Int)] W (qN (exprF B.nck B.long l m j) W)) :
  Calls Tryz.prog 62 #[v,.int .i64 (i:Int)] w (zDo (armsF B.nck B.long l n0 i .nil) w):=by
 have CE:=Lib.hid cE;have CN:Hid (∀(j:Nat) (ks:List ByteArray) (W:World) (vk:Value),Up w W→TxS W vk ks→Calls Tryz.prog 59 #[v,.int .i64 (j:Int),vk] W (NmR (nameQ B.nck (tks l) j ks) W)):=Lib.hid fun j ks W vk u h=>zDm l j hl hz ks W v vk (hv.up u) h
 have CK:Hid (∀(j:Nat) (x:ByteArray) (W:World),Up w W→Calls Tryz.prog 57 #[v,.int .i64 (j:Int),.string x] W (BoU (key (tks l) j x) W)):=Lib.hid fun j x W u=>by rw[←jY];exact vG (tks l) j x W v (hv.up u).tkm
 have CKS:Hid (∀(j:Nat) (ks:List ByteArray) (W:World) (vk:Value),j≤l.length→Up w W→TxS W vk ks→Calls Tryz.prog 125 #[v,.int .i64 (j:Int),vk] W (KeP (keysL (tks l) j ks) W)):=Lib.hid fun j ks W vk hj u h=>rK l j hj hl ks W v vk (hv.up u) h
 obtain⟨R,hR⟩:∃R,armsF B.nck B.long l n0 i .nil=R:=⟨_,rfl⟩;have HR:=Lib.hid hR;have HN0:=Lib.hid hn0;rw[hR];clear cE hR hz hv hn0
 go_enter Tryz.func62,Tryz.ntmps62
 go_wp2_with fail
 go_loopw [1,7,8,9,10,11,12] (fun iv vo _ _ _ _ _ wr=>∃(k f:Nat) (acc:Fr) (ps:List Value),iv = .int .i64 (k:Int)∧i≤k∧k≤l.length∧f≤n0∧2*(l.length-k)+1≤f∧R=armsF B.nck B.long l f k acc∧acc.len≤k∧CoSt w wr vo acc ps∧Up w wr) (fun iv _ _ _ _ _ _ _=>l.length-(intOf iv).toNat)
 case atStart=>exact⟨i,n0,.nil,[],rfl,Nat.le_refl _,hi,Nat.le_refl _,HN0.out,HR.out.symm,Nat.zero_le _,CoSt.start _ _,Up.refl _⟩
 case round=>
  obtain⟨k,f,acc,ps,rfl,hik,hkl,hfn,hfk,hE,hak,hst,hu⟩:=hrel;obtain⟨f,rfl⟩:∃g,f=g+1:=⟨f-1,by omega⟩;rw[tW] at hE;obtain⟨A,c,rfl,hc,hlt,hcell⟩:=hst.form;have HST:=Lib.hid hst;have HE:=Lib.hid hE;have HC:=Lib.hid hcell;have HLT:=Lib.hid hlt;obtain⟨n,hn⟩:∃n,acc.len=n:=⟨_,rfl⟩;rw[hn] at hc hak ⊢;have HN:=Lib.hid hn;have cN1:=CN.out k [];have aN1:=yJ (p:=B.nck) (ks:=[]) hkl;obtain⟨R1,hR1⟩:∃R1,nameQ B.nck (tks l) k []=R1:=⟨_,rfl⟩;rw[hR1] at cN1 aN1;have HR1:=Lib.hid hR1;clear hst hE hcell hlt hn hR1;go_wp2_with fail;refine(cN1 _ _ hu (TxS.nil _)).mono ?_;rintro e w1 ⟨s1,j1,e1,rfl,hV,u1⟩;have U1:Up w w1:=Up.trans hu u1
  cases R1 with
  | inr r=>
   obtain⟨p,er⟩:=r;obtain⟨rfl,rfl⟩:=hV;have hne:=aN1.ne rfl;go_wp2_with fail
   go_ret3
   rw[show R = .inr (p,e1) from by rw[HE.out];unfold armsS;rw[HR1.out];rfl];exact⟨_,.nil,_,_,rfl,KidsV.nil _ _,⟨rfl,rfl⟩,U1⟩
  | inl r=>
   obtain⟨c1,q1⟩:=r;obtain⟨rfl,rfl,rfl⟩:=hV;have hq1:k<q1∧q1≤l.length:=aN1;have cN2:=CN.out q1 [kFat];have aN2:=yJ (p:=B.nck) (ks:=[kFat]) hq1.2;obtain⟨R2,hR2⟩:∃R2,nameQ B.nck (tks l) q1 [kFat]=R2:=⟨_,rfl⟩;rw[hR2] at cN2 aN2;have HR2:=Lib.hid hR2;clear hR2 cN1 aN1;go_wp2_with fail;refine(cN2 _ _ (U1.alloc _) (TxS.row1 w1 kFat _)).mono ?_;rintro e w2 ⟨s2,j2,e2,rfl,hV,u2⟩;have U2:Up w w2:=(U1.alloc _).trans u2
   cases R2 with
   | inr r=>
    obtain⟨p,er⟩:=r;obtain⟨rfl,rfl⟩:=hV;have hne:=aN2.ne rfl;go_wp2_with fail
    go_ret3
    rw[show R = .inr (p,e2) from by rw[HE.out];unfold armsS;rw[HR1.out];show thn (nameQ B.nck (tks l) q1 [kFat]) _=_;rw[HR2.out];rfl];exact⟨_,.nil,_,_,rfl,KidsV.nil _ _,⟨rfl,rfl⟩,U2⟩
   | inl r=>
    obtain⟨x1,q2⟩:=r;obtain⟨rfl,rfl,rfl⟩:=hV;have hq2:q1<q2∧q2≤l.length:=aN2;have cE3:=fun W u=>CE.out f q2 W (by omega) (by omega) hq2.2 u
    have aE3:=vN (nk:=B.nck) (lg:=B.long) (l:=l) (n:=f) hq2.2;obtain⟨R3,hR3⟩:∃R3,exprF B.nck B.long l f q2=R3:=⟨_,rfl⟩;rw[hR3] at cE3 aE3;have HR3:=Lib.hid hR3;clear hR3 cN2 aN2;go_wp2_with fail;refine(cE3 _ U2).mono ?_;rintro e w3 ⟨vb,j3,e3,rfl,hV,u3⟩;have U3:Up w w3:=U2.trans u3
    cases R3 with
    | inr r=>
     obtain⟨p,er⟩:=r;obtain⟨rfl,rfl,A1,rfl⟩:=hV;have hne:=aE3.ne rfl;go_wp2_with fail
     go_ret3
     rw[show R = .inr (p,e3) from by rw[HE.out];unfold armsS;rw[HR1.out];show thn (nameQ B.nck (tks l) q1 [kFat]) _=_;rw[HR2.out];show thn (exprF B.nck B.long l f q2) _=_;rw[HR3.out];rfl];exact⟨_,.nil,_,_,rfl,KidsV.nil _ _,⟨rfl,rfl⟩,U3⟩
    | inl r=>
     obtain⟨b,q3⟩:=r;obtain⟨h3,rfl,rfl⟩:=hV;obtain⟨o1,p1,rfl⟩:=InT.ptr h3;have hq3:q2<q3∧q3≤l.length:=aE3;have HS:Hid (R=if key (tks l) q3 kBar then armsF B.nck B.long l f (q3+1) (acc.app (fr1 (⟨34,0,s1,s2⟩,fr1 b))) else thn (keysL (tks l) q3 [kEnd]) fun _ m=>.inl (acc.app (fr1 (⟨34,0,s1,s2⟩,fr1 b)),m)):=Lib.hid (by rw[HE.out];unfold armsS;rw[HR1.out];show thn (nameQ B.nck (tks l) q1 [kFat]) _=_;rw[HR2.out];show thn (exprF B.nck B.long l f q2) _=_;rw[HR3.out];rfl);have kb:=CK.out q3 kBar;obtain⟨i0,hi0,hz0,hz1,hz2⟩:=info_parts gZ;have hst5:=HST.out.up ((((Up.refl _).trans u1).trans (((Up.refl _).alloc _).trans u2)).trans (u3.trans (zM0 w3 (.pointer (some ⟨o1,p1,none⟩)) s1 s2)));have ho5:=hst5.own;rw[HN.out] at ho5;have hc5:=zJ8 w3 (.pointer (some ⟨o1,p1,none⟩)) s1 s2;have hz5:=zJ7 w3 (.pointer (some ⟨o1,p1,none⟩)) s1 s2;have HO5:=Lib.hid ho5;have HC5:=Lib.hid hc5;have HW5:Hid (w.heap.size≤(armW w3 (.pointer (some ⟨o1,p1,none⟩)) s1 s2).heap.size):=Lib.hid (by have h1:=U3.size;omega);clear ho5 hc5 hst5 cE3 aE3
     go_wp2_with (at_builtin;refine wpList_append_lies _ rfl _ _ 55 rfl w.heap.size 24 i0 _ 1 8 Tryz.underlying55 hi0 hz0 hz1 hz2 rfl (by omega) (.slice A n c) n ps rfl HO5.out ⟨w3.heap.size+2,0,none⟩ 1 1 [.pointer (some ⟨w3.heap.size+1,0,none⟩)] rfl rfl HC5.out (by intro u hu;rw[List.mem_singleton.1 hu];rfl) (by omega) (by unfold maxLen;omega) (by omega) HW5.out (w3.heap.size+3) hz5 ?_;intro g6 cap6 w6 ho6 hg6 hat6 hlt6)
     have hst2:=HST.out;rw[HN.out] at hst2;have hlt2:∀g,(Value.slice A n c).ownBlock=some g→w.heap.size≤g∧g<wr.heap.size:=World.ownsRow.lt hst2.own;have hu3:Up wr w3:=(Up.trans u1 (((Up.refl _).alloc _).trans u2)).trans u3;have hu5:Up wr (armW w3 (.pointer (some ⟨o1,p1,none⟩)) s1 s2):=hu3.trans (zM0 w3 (.pointer (some ⟨o1,p1,none⟩)) s1 s2);have hWr:w.heap.size≤wr.heap.size:=(Up.trans hu (Up.refl _)).size;have hst6:=hst2.more hu5 HN.out hlt2 hWr (zDw (h3.base (Up.trans u1 (((Up.refl _).alloc _).trans u2)).size) hu3.size) rfl ho6 hg6 (by rw[hz5];exact hat6);have U6:Up w w6:=(Up.trans hu hu5).grown hg6 HW5.out fun g hg=>(hlt2 g hg).1
     have hln:(acc.app (fr1 (⟨34,0,s1,s2⟩,fr1 b))).len=n+1:=by rw[Fr.len_app,HN.out];rfl
     have HST6:=Lib.hid hst6;have HLN:=Lib.hid hln;have kb6:=kb w6 U6;clear hst2 hlt2 hst6 hln ho6 hg6 hat6 kb
     cases hB:key (tks l) q3 kBar with
     | false=>
      rw[hB] at kb6;have cE7:=fun W vk u h=>CKS.out q3 [kEnd] W vk hq3.2 u h
      obtain⟨R7,hR7⟩:∃R7,keysL (tks l) q3 [kEnd]=R7:=⟨_,rfl⟩;rw[hR7] at cE7;have HRR:Hid (R=thn R7 fun _ m=>.inl (acc.app (fr1 (⟨34,0,s1,s2⟩,fr1 b)),m)):=Lib.hid (by rw[HS.out,hB,←hR7];rfl);clear hB hR7;go_wp2_with fail;refine kb6.mono ?_;rintro e w7 ⟨rfl,u7⟩;have U7:=U6.trans u7;go_wp2_with fail;refine(cE7 _ _ (U7.alloc _) (TxS.row1 w7 kEnd _)).mono ?_;rintro e w8 ⟨q,er,rfl,hV,u8⟩;have U8:Up w w8:=(U7.alloc _).trans u8;have HVV:=Lib.hid hV;clear hV;go_wp2_with fail
      go_ret3
      rw[HRR.out];have hks:=(HST6.out.up (u7.trans (((Up.refl _).alloc _).trans u8))).kidsV (by rw[HLN.out];omega) (by rw[HLN.out];omega);have hV:=HVV.out;refine⟨_,_,_,_,rfl,hks,?_,U8⟩
      cases R7 with
      | inr r=>exact hV
      | inl r=>exact⟨rfl,hV.1,hV.2⟩
     | true=>
      rw[hB] at kb6;have hq4:q3+1≤l.length:=qK hB;have hw4:=qV q3 1 (by omega) (by omega);have HRR:Hid (R=armsF B.nck B.long l f (q3+1) (acc.app (fr1 (⟨34,0,s1,s2⟩,fr1 b)))):=Lib.hid (by rw[HS.out,hB];rfl);clear hB;go_wp2_with fail;refine kb6.mono ?_;rintro e w7 ⟨rfl,u7⟩;go_wp2_with fail;exact⟨⟨q3+1,f,_,_,zV (by omega),by omega,by omega,by omega,by omega,HRR.out,by rw[HLN.out];omega,HST6.out.up u7,U6.trans u7⟩,by simp[intOf];omega⟩
end Go.Proofs.YtbpijnalmakfaaaGreatDoor
