/-
  The document's term, sum: loops; cmp.
-/
import Derived.Test.YtgeghilbikljcaaGreatDoorGs22
import Derived.Test.YtgeghilbikljcaaGreatDoorGs34
set_option maxHeartbeats 40000000
set_option maxRecDepth 100000
namespace Go.Proofs.YtgeghilbikljcaaGreatDoor
open Go.RowKit
theorem zYu {T:Nat->Rs Tr} {s:Nat->Option (Nod×Nat)} {R:Rs Tr} {a:Tr} {j f n:Nat} (hR:R=lop T s f a j) (hf:n-j+1<=f) (hs:s j=none):R = .inl (a,j):=by
 rw[hR]
 cases f with
 | zero=>omega
 | succ f=>unfold lop;rw[hs]
theorem zF2 (l:List Te) (A:Nat->Rs Tr) (N i:Nat) (hi:i<=l.length) (hl:l.length<=1000000) (hN:l.length-i+1<=N) (aT:∀j,j<=l.length->In l.length j (appS B.long l N A j)) (w:World) (v:Value) (hv:Tke w v l)
  (cT:∀(j:Nat) (W:World),i<=j->j<=l.length->Up w W->Calls Tryz.prog 247 #[v,.int .i64 (j:Int)] W (qJ (appS B.long l N A j) W)) :
  Calls Tryz.prog 232 #[v,.int .i64 (i:Int)] w (qJ (mulS B.long l N A i) w):=by
 have cK:∀(j:Nat) (x:ByteArray) (W:World),Up w W->Calls Tryz.prog 41 #[v,.int .i64 (j:Int),.string x] W (BoU (key (tks l) j x) W):=fun j x W u=>by rw[<- yN];exact kZ (tks l) j x W v (hv.up u).tkm
 have CK:=Lib.hid cK;have CT:=Lib.hid cT;have c0:=cT i w (Nat.le_refl _) hi (Up.refl w);obtain⟨T,hT0⟩:∃T,appS B.long l N A=T:=⟨_,rfl⟩;obtain⟨R,hR⟩:∃R,mulS B.long l N A i=R:=⟨_,rfl⟩;have hR':lopS T (sMul l) N i=R:=by rw[<- hR,<- hT0];rfl
 have HR:=Lib.hid hR';rw[hR];rw[hT0] at c0 aT CT;clear cK cT hR hR' hT0
 go_enter Tryz.func232,Tryz.ntmps232
 go_wp2_with fail;refine c0.mono ?_;rintro e w1 ⟨va,ja,ea,rfl,hV,u1⟩;have hst:LopSt l i T (sMul l) R w w1 (.int .i64 ja) va (.int .i64 ea):=by rw[<- HR.out];exact LopSt.start hi hN (aT i hi) hV (Up.refl w)
 have HST:=Lib.hid hst;clear hst hV c0;go_wp2_with fail
 go_loopw [1,7,8,9,10,11] (fun jv va ev _ _ _ wr=>LopSt l i T (sMul l) R w wr jv va ev/\Up w wr) (fun jv _ ev _ _ _ _=>(if intOf ev=0 then 1 else 0)+(l.length-(intOf jv).toNat))
 case atStart=>exact⟨HST.out,u1⟩
 case round=>
  obtain⟨hst,hu⟩:=hrel
  rcases hst with ⟨a,j,f,hij,hRl,hf,hj,hT,rfl,rfl⟩ | ⟨p,er,hRl,hne,hp,rfl,rfl,A1,rfl⟩
  ·obtain⟨o1,p1,rfl⟩:=InT.ptr hT
   have HRL:=Lib.hid hRl;have HU:=Lib.hid hu;have cK:=CK.out j kStar wr hu
   cases hb:key (tks l) j kStar with
   | false=>
    rw[hb] at cK;have hs:sMul l j=none:=by unfold sMul;rw[hb];rfl
    have hRR:=zYu hRl hf hs;have HRR:=Lib.hid hRR;clear hRl hRR hs hb;go_wp2_with fail;refine cK.mono ?_;rintro e w2 ⟨rfl,u2⟩;go_wp2_with fail
    go_ret3
    rw[HRR.out];exact⟨_,_,_,rfl,⟨hT.up u2,rfl,rfl⟩,HU.out.trans u2⟩
   | true=>
    rw[hb] at cK;have hs:sMul l j=some (opN 3,1):=by unfold sMul;rw[hb];rfl
    have hj1:j+1<=l.length:=qG hb;have hw1:=qR j 1 (by omega) (by omega);have HS:=Lib.hid hs;clear hRl hs hb;go_wp2_with fail;refine cK.mono ?_;rintro e w2 ⟨rfl,u2⟩;have U2:Up w w2:=HU.out.trans u2;go_wp2_with fail;refine(CT.out (j+1) w2 (by omega) hj1 U2).mono ?_;rintro e w3 ⟨vb,q,er,rfl,hV,u3⟩;have U3:Up w w3:=U2.trans u3;obtain⟨pb,rfl⟩:=hV.ptr;have HVV:=Lib.hid hV;clear hV;go_wp2_with fail;refine(refOp 3 _ _ _).mono ?_;rintro e w4 ⟨rfl,rfl⟩;go_wp2_with fail;have hnx:LopSt l i T (sMul l) R w _ (.int .i64 q) (.pointer (some ⟨w3.heap.size+1,0,none⟩)) (.int .i64 er):=
     LopSt.next hij HRL.out hf HS.out hj1 (aT (j+1) hj1) HVV.out ⟨fun b hb=>hasOp U3.size (hT.up (u2.trans u3)) (hb.from U2 (Up.refl _)),_,rfl⟩
    have hls:=LopSt.less (T:=T) (d:=1) hj (aT (j+1) hj1) HVV.out;exact⟨⟨hnx,(U3.alloc _).alloc _⟩,hls⟩
  ·have HRL:=Lib.hid hRl
   clear hRl;go_wp2_with fail
   go_ret3
   rw[HRL.out];exact⟨_,_,_,rfl,⟨rfl,rfl,A1,rfl⟩,hu⟩
theorem zB4 (l:List Te) (A:Nat->Rs Tr) (N i:Nat) (hi:i<=l.length) (hl:l.length<=1000000) (hN:l.length-i+1<=N) (aT:∀j,j<=l.length->In l.length j (mulS B.long l N A j)) (w:World) (v:Value) (hv:Tke w v l)
  (cT:∀(j:Nat) (W:World),i<=j->j<=l.length->Up w W->Calls Tryz.prog 232 #[v,.int .i64 (j:Int)] W (qJ (mulS B.long l N A j) W)) :
  Calls Tryz.prog 213 #[v,.int .i64 (i:Int)] w (qJ (addS B.long l N A i) w):=by
 have cK:∀(j:Nat) (x:ByteArray) (W:World),Up w W->Calls Tryz.prog 41 #[v,.int .i64 (j:Int),.string x] W (BoU (key (tks l) j x) W):=fun j x W u=>by rw[<- yN];exact kZ (tks l) j x W v (hv.up u).tkm
 have CK:=Lib.hid cK;have CT:=Lib.hid cT;have c0:=cT i w (Nat.le_refl _) hi (Up.refl w);obtain⟨T,hT0⟩:∃T,mulS B.long l N A=T:=⟨_,rfl⟩;obtain⟨R,hR⟩:∃R,addS B.long l N A i=R:=⟨_,rfl⟩;have hR':lopS T (sAdd l) N i=R:=by rw[<- hR,<- hT0];rfl
 have HR:=Lib.hid hR';rw[hR];rw[hT0] at c0 aT CT;clear cK cT hR hR' hT0
 go_enter Tryz.func213,Tryz.ntmps213
 go_wp2_with fail;refine c0.mono ?_;rintro e w1 ⟨va,ja,ea,rfl,hV,u1⟩;have hst:LopSt l i T (sAdd l) R w w1 (.int .i64 ja) va (.int .i64 ea):=by rw[<- HR.out];exact LopSt.start hi hN (aT i hi) hV (Up.refl w)
 have HST:=Lib.hid hst;clear hst hV c0;go_wp2_with fail
 go_loopw [1,7,8,9,10,11,12] (fun jv va ev _ _ _ _ wr=>LopSt l i T (sAdd l) R w wr jv va ev/\Up w wr) (fun jv _ ev _ _ _ _ _=>(if intOf ev=0 then 1 else 0)+(l.length-(intOf jv).toNat))
 case atStart=>exact⟨HST.out,u1⟩
 case round=>
  obtain⟨hst,hu⟩:=hrel
  rcases hst with ⟨a,j,f,hij,hRl,hf,hj,hT,rfl,rfl⟩ | ⟨p,er,hRl,hne,hp,rfl,rfl,A1,rfl⟩
  ·obtain⟨o1,p1,rfl⟩:=InT.ptr hT
   have HRL:=Lib.hid hRl;have HU:=Lib.hid hu;have cP:=CK.out j kPlus wr hu;have cM:=CK.out j wZ
   cases hb:key (tks l) j kPlus with
   | false=>
    rw[hb] at cP
    cases hb2:key (tks l) j wZ with
    | false=>
     rw[hb2] at cM;have hs:sAdd l j=none:=by unfold sAdd;rw[hb,hb2];rfl
     have hRR:=zYu hRl hf hs;have HRR:=Lib.hid hRR;clear hRl hRR hs hb hb2;go_wp2_with fail;refine cP.mono ?_;rintro e w2 ⟨rfl,u2⟩;go_wp2_with fail;refine(cM w2 (HU.out.trans u2)).mono ?_;rintro e w3 ⟨rfl,u3⟩;go_wp2_with fail
     go_ret3
     rw[HRR.out];exact⟨_,_,_,rfl,⟨hT.up (u2.trans u3),rfl,rfl⟩,(HU.out.trans u2).trans u3⟩
    | true=>
     rw[hb2] at cM;have hs:sAdd l j=some (opN 2,1):=by unfold sAdd;rw[hb,hb2];rfl
     have hj1:j+1<=l.length:=qG hb2;have hw1:=qR j 1 (by omega) (by omega);have HS:=Lib.hid hs;clear hRl hs hb hb2;go_wp2_with fail;refine cP.mono ?_;rintro e w2 ⟨rfl,u2⟩;go_wp2_with fail;refine(cM w2 (HU.out.trans u2)).mono ?_;rintro e x2 ⟨rfl,z2⟩;go_wp2_with fail;refine(cM x2 ((HU.out.trans u2).trans z2)).mono ?_;rintro e x3 ⟨rfl,z3⟩;have U2:Up w x3:=((HU.out.trans u2).trans z2).trans z3;go_wp2_with fail;refine(CT.out (j+1) x3 (by omega) hj1 U2).mono ?_;rintro e w3 ⟨vb,q,er,rfl,hV,u3⟩;have U3:Up w w3:=U2.trans u3;obtain⟨pb,rfl⟩:=hV.ptr;have HVV:=Lib.hid hV;clear hV;go_wp2_with fail;refine(refOp 2 _ _ _).mono ?_;rintro e w4 ⟨rfl,rfl⟩;go_wp2_with fail;have hnx:LopSt l i T (sAdd l) R w _ (.int .i64 q) (.pointer (some ⟨w3.heap.size+1,0,none⟩)) (.int .i64 er):=
      LopSt.next hij HRL.out hf HS.out hj1 (aT (j+1) hj1) HVV.out ⟨fun b hb=>hasOp U3.size (hT.up (((u2.trans z2).trans z3).trans u3)) (hb.from U2 (Up.refl _)),_,rfl⟩
     have hls:=LopSt.less (T:=T) (d:=1) hj (aT (j+1) hj1) HVV.out;exact⟨⟨hnx,(U3.alloc _).alloc _⟩,hls⟩
   | true=>
    rw[hb] at cP;have hb2:=zX (y:=wZ) hb (by decide);rw[hb2] at cM;have hs:sAdd l j=some (opN 1,1):=by unfold sAdd;rw[hb];rfl
    have hj1:j+1<=l.length:=qG hb;have hw1:=qR j 1 (by omega) (by omega);have HS:=Lib.hid hs;clear hRl hs hb hb2;go_wp2_with fail;refine cP.mono ?_;rintro e w2 ⟨rfl,u2⟩;go_wp2_with fail;refine(cM w2 (HU.out.trans u2)).mono ?_;rintro e x2 ⟨rfl,z2⟩;have U2:Up w x2:=(HU.out.trans u2).trans z2;go_wp2_with fail;refine(CT.out (j+1) x2 (by omega) hj1 U2).mono ?_;rintro e w3 ⟨vb,q,er,rfl,hV,u3⟩;have U3:Up w w3:=U2.trans u3;obtain⟨pb,rfl⟩:=hV.ptr;have HVV:=Lib.hid hV;clear hV;go_wp2_with fail;refine(refOp 1 _ _ _).mono ?_;rintro e w4 ⟨rfl,rfl⟩;go_wp2_with fail;have hnx:LopSt l i T (sAdd l) R w _ (.int .i64 q) (.pointer (some ⟨w3.heap.size+1,0,none⟩)) (.int .i64 er):=
     LopSt.next hij HRL.out hf HS.out hj1 (aT (j+1) hj1) HVV.out ⟨fun b hb=>hasOp U3.size (hT.up ((u2.trans z2).trans u3)) (hb.from U2 (Up.refl _)),_,rfl⟩
    have hls:=LopSt.less (T:=T) (d:=1) hj (aT (j+1) hj1) HVV.out;exact⟨⟨hnx,(U3.alloc _).alloc _⟩,hls⟩
  ·have HRL:=Lib.hid hRl
   clear hRl;go_wp2_with fail
   go_ret3
   rw[HRL.out];exact⟨_,_,_,rfl,⟨rfl,rfl,A1,rfl⟩,hu⟩
theorem zB5 (l:List Te) (A:Nat->Rs Tr) (N i:Nat) (hi:i<=l.length) (hl:l.length<=1000000) (aT:∀j,j<=l.length->In l.length j (addS B.long l N A j)) (w:World) (v:Value) (hv:Tke w v l)
  (cT:∀(j:Nat) (W:World),i<=j->j<=l.length->Up w W->Calls Tryz.prog 213 #[v,.int .i64 (j:Int)] W (qJ (addS B.long l N A j) W)) :
  Calls Tryz.prog 189 #[v,.int .i64 (i:Int)] w (qJ (cmpS B.long l N A i) w):=by
 have cK:∀(j:Nat) (x:ByteArray) (W:World),Up w W->Calls Tryz.prog 41 #[v,.int .i64 (j:Int),.string x] W (BoU (key (tks l) j x) W):=fun j x W u=>by rw[<- yN];exact kZ (tks l) j x W v (hv.up u).tkm
 have CK:=Lib.hid cK;have CT:=Lib.hid cT;have c0:=cT i w (Nat.le_refl _) hi (Up.refl w);have a0:=aT i hi;obtain⟨T,hT0⟩:∃T,addS B.long l N A=T:=⟨_,rfl⟩;obtain⟨R,hR⟩:∃R,cmpS B.long l N A i=R:=⟨_,rfl⟩;have hR':(thn (T i) fun a j=>match sCmp l j with
  | none=>.inl (a,j)
  | some (x,d)=>thn (T (j+d)) fun b m=>.inl ((x,fr2 a b),m))=R:=by rw[<- hR,<- hT0];rfl
 have HR:=Lib.hid hR';rw[hR];rw[hT0] at c0 aT CT a0;clear cK cT hR hR' hT0;obtain⟨R1,hR1⟩:∃R1,T i=R1:=⟨_,rfl⟩;rw[hR1] at c0 a0;have HR1:=Lib.hid hR1;clear hR1
 go_enter Tryz.func189,Tryz.ntmps189
 go_wp2_with fail;refine c0.mono ?_;rintro e w1 ⟨va,ja,ea,rfl,hV,u1⟩
 cases R1 with
 | inr r=>
  obtain⟨p,er⟩:=r;obtain⟨rfl,rfl,A1,rfl⟩:=hV;have hne:=a0.ne rfl;go_wp2_with fail
  go_ret3
  rw[show R = .inr (p,ea) from by rw[<- HR.out,HR1.out];rfl];exact⟨_,_,_,rfl,⟨rfl,rfl,none,rfl⟩,u1⟩
 | inl r=>
  obtain⟨a,j⟩:=r;obtain⟨hT,rfl,rfl⟩:=hV;obtain⟨o1,p1,rfl⟩:=InT.ptr hT;have hj:i<j/\j<=l.length:=a0;have cE:=CK.out j kEq;have cL:=CK.out j kLess
  cases hb:key (tks l) j kEq with
  | false=>
   rw[hb] at cE
   cases hb2:key (tks l) j kLess with
   | false=>
    rw[hb2] at cL;have hRR:R = .inl (a,j):=by
     rw[<- HR.out,HR1.out]
     show(match sCmp l j with
      | none=>_
      | some (x,d)=>_)=_
     unfold sCmp;rw[hb,hb2]
     rfl
    have HRR:=Lib.hid hRR;clear hRR hb hb2 a0 c0;go_wp2_with fail;refine(cE _ u1).mono ?_;rintro e w2 ⟨rfl,u2⟩;go_wp2_with fail;refine(cL _ (u1.trans u2)).mono ?_;rintro e w3 ⟨rfl,u3⟩;go_wp2_with fail
    go_ret3
    rw[HRR.out];exact⟨_,_,_,rfl,⟨hT.up (u2.trans u3),rfl,rfl⟩,(u1.trans u2).trans u3⟩
   | true=>
    rw[hb2] at cL;have hj1:j+1<=l.length:=qG hb2;have hw1:=qR j 1 (by omega) (by omega);have hRR:R=thn (T (j+1)) fun b m=>.inl ((opN 5,fr2 a b),m):=by
     rw[<- HR.out,HR1.out]
     show(match sCmp l j with
      | none=>_
      | some (x,d)=>_)=_
     unfold sCmp;rw[hb,hb2]
     rfl
    obtain⟨R2,hR2⟩:∃R2,T (j+1)=R2:=⟨_,rfl⟩;have cT2:=fun W u=>CT.out (j+1) W (by omega) hj1 u
    rw[hR2] at hRR cT2;have HRR:=Lib.hid hRR;clear hRR hb hb2 a0 c0 hR2;go_wp2_with fail;refine(cE _ u1).mono ?_;rintro e w2 ⟨rfl,u2⟩;go_wp2_with fail;refine(cL _ (u1.trans u2)).mono ?_;rintro e w3 ⟨rfl,u3⟩;have U3:=(u1.trans u2).trans u3;go_wp2_with fail;refine(cT2 _ U3).mono ?_;rintro e w4 ⟨vb,q,er,rfl,hV,u4⟩;have U4:=U3.trans u4;obtain⟨pb,rfl⟩:=hV.ptr;have HVV:=Lib.hid hV;clear hV;go_wp2_with fail;refine(refOp 5 _ _ _).mono ?_;rintro e w5 ⟨rfl,rfl⟩;go_wp2_with fail
    go_ret3
    rw[HRR.out];refine⟨_,_,_,rfl,?_,(U4.alloc _).alloc _⟩;have hV:=HVV.out
    cases R2 with
    | inr r=>exact⟨hV.1,hV.2.1,_,rfl⟩
    | inl r=>exact⟨hasOp U4.size (hT.up ((u2.trans u3).trans u4)) (hV.1.from U3 (Up.refl _)),hV.2.1,hV.2.2⟩
  | true=>
   rw[hb] at cE;have hb2:=zX (y:=kLess) hb (by decide);rw[hb2] at cL;have hj1:j+1<=l.length:=qG hb;have hw1:=qR j 1 (by omega) (by omega);have hRR:R=thn (T (j+1)) fun b m=>.inl ((opN 4,fr2 a b),m):=by
    rw[<- HR.out,HR1.out]
    show(match sCmp l j with
     | none=>_
     | some (x,d)=>_)=_
    unfold sCmp;rw[hb]
    rfl
   obtain⟨R2,hR2⟩:∃R2,T (j+1)=R2:=⟨_,rfl⟩;have cT2:=fun W u=>CT.out (j+1) W (by omega) hj1 u
   rw[hR2] at hRR cT2;have HRR:=Lib.hid hRR;clear hRR hb hb2 a0 c0 hR2;go_wp2_with fail;refine(cE _ u1).mono ?_;rintro e w2 ⟨rfl,u2⟩;go_wp2_with fail;refine(cL _ (u1.trans u2)).mono ?_;rintro e w3 ⟨rfl,u3⟩;have U3:=(u1.trans u2).trans u3;go_wp2_with fail;refine(cT2 _ U3).mono ?_;rintro e w4 ⟨vb,q,er,rfl,hV,u4⟩;have U4:=U3.trans u4;obtain⟨pb,rfl⟩:=hV.ptr;have HVV:=Lib.hid hV;clear hV;go_wp2_with fail;refine(refOp 4 _ _ _).mono ?_;rintro e w5 ⟨rfl,rfl⟩;go_wp2_with fail
   go_ret3
   rw[HRR.out];refine⟨_,_,_,rfl,?_,(U4.alloc _).alloc _⟩;have hV:=HVV.out
   cases R2 with
   | inr r=>exact⟨hV.1,hV.2.1,_,rfl⟩
   | inl r=>exact⟨hasOp U4.size (hT.up ((u2.trans u3).trans u4)) (hV.1.from U3 (Up.refl _)),hV.2.1,hV.2.2⟩
end Go.Proofs.YtgeghilbikljcaaGreatDoor
namespace Go.Proofs.YtgeghilbikljcaaGreatDoor
section
variable (nb:Int->ByteArray)
end
def AtE (l:List Te) (i:Nat) (ts:List Te):Prop:=∃r,l.drop i=ts++r
section
variable {nk lg:ByteArray->Bool} {l:List Te}
structure Fol (lg:ByteArray->Bool) (r:Nat) (l:List Te) (j:Nat):Prop where
 hd:r<=4->(hdE lg l j).any=false
 st:r<=3->key (tks l) j kStar=false
 pm:r<=2->key (tks l) j kPlus=false/\key (tks l) j wZ=false
 cm:r<=1->key (tks l) j kEq=false/\key (tks l) j kLess=false
theorem Fol.up {r s j:Nat} (h:Fol lg r l j) (hrs:r<=s):Fol lg s l j:=⟨fun h1=>h.hd (by omega),fun h1=>h.st (by omega),fun h1=>h.pm (by omega),fun h1=>h.cm (by omega)⟩
def Reach (l:List Te) (T:Nat->Rs Tr) (s:Nat->Option (Nod×Nat)) (N:Nat) (t:Tr) (i e:Nat):Prop:=∃f,l.length-e+1<=f/\lopS T s N i=lop T s f t e
theorem Reach.done {T:Nat->Rs Tr} {s:Nat->Option (Nod×Nat)} {N i e:Nat} {t:Tr} (h:Reach l T s N t i e) (hs:s e=none):lopS T s N i = .inl (t,e):=by
 obtain⟨f,hf,h⟩:=h;rw[h]
 cases f with
 | zero=>omega
 | succ f=>unfold lop;rw[hs]
def Pr (nk lg:ByteArray->Bool) (r:Nat) (ts:List Te) (t:Tr):Prop:=∀(l:List Te) (i n N:Nat),2*(l.length-i)+1<=n->l.length-i+1<=N->AtE l i ts->
 match r with
 | 0=>Fol lg 1 l (i+ts.length)->exprF nk lg l (n+1) i = .inl (t,i+ts.length)
 | 1=>Fol lg 1 l (i+ts.length)->cmpS lg l N (qW nk lg l n) i = .inl (t,i+ts.length)
 | 2=>Fol lg 3 l (i+ts.length)->Reach l (mulS lg l N (qW nk lg l n)) (sAdd l) N t i (i+ts.length)
 | 3=>Fol lg 4 l (i+ts.length)->Reach l (appS lg l N (qW nk lg l n)) (sMul l) N t i (i+ts.length)
 | 4=>Reach l (qW nk lg l n) (sApp lg l) N t i (i+ts.length)
 | _=>qW nk lg l n i = .inl (t,i+ts.length)
theorem zF3 {j:Nat} (h:Fol lg 4 l j):sApp lg l j=none:=by unfold sApp;rw[h.hd (Nat.le_refl _)];rfl
theorem zF4 {j:Nat} (h:Fol lg 2 l j):sAdd l j=none:=by unfold sAdd;rw[(h.pm (Nat.le_refl _)).1,(h.pm (Nat.le_refl _)).2];rfl
theorem Pr.app {ts:List Te} {t:Tr} (h:Pr nk lg 4 ts t) {l:List Te} {i n N:Nat} (hn:2*(l.length-i)+1<=n) (hN:l.length-i+1<=N) (ha:AtE l i ts) (hf:Fol lg 4 l (i+ts.length)):appS lg l N (qW nk lg l n) i = .inl (t,i+ts.length):=
 (h l i n N hn hN ha).done (zF3 hf)
theorem Pr.add {ts:List Te} {t:Tr} (h:Pr nk lg 2 ts t) {l:List Te} {i n N:Nat} (hn:2*(l.length-i)+1<=n) (hN:l.length-i+1<=N) (ha:AtE l i ts) (hf:Fol lg 2 l (i+ts.length)):addS lg l N (qW nk lg l n) i = .inl (t,i+ts.length):=
 (h l i n N hn hN ha (hf.up (by omega))).done (zF4 hf)
end
section
variable {nk lg:ByteArray->Bool} {nb:Int->ByteArray}
theorem zUm {l:List Te} {i:Nat} {t:Te} (h:l[i]? = some t):hdE lg l i=hdT lg t:=by unfold hdE;rw[h]
end
end Go.Proofs.YtgeghilbikljcaaGreatDoor
namespace Go.Proofs.YtgeghilbikljcaaGreatDoor
open Go.RowKit
theorem zF5 {lg:ByteArray->Bool} {l:List Te} {i:Nat} {t:Te} (ht:l[i]? = some t) {n:Int} (h:hdE lg l i = .num n):t.t.k=2/\t.n=n:=by
 rw[zUm ht] at h;unfold hdT at h
 by_cases h3:t.t.k=3
 ·rw[if_pos h3] at h
  repeat' split at h
  all_goals cases h
 ·rw[if_neg h3] at h
  by_cases h2:t.t.k=2
  ·rw[if_pos h2] at h
   split at h
   ·injection h with h;exact⟨h2,h⟩
   ·cases h
  ·rw[if_neg h2] at h
   repeat' split at h
   all_goals cases h
theorem zF6 {lg:ByteArray->Bool} {l:List Te} {i:Nat} {t:Te} (ht:l[i]? = some t) {s:ByteArray} (h:hdE lg l i = .var s):t.t.k=1/\t.t.s=s:=by
 rw[zUm ht] at h;unfold hdT at h
 by_cases h3:t.t.k=3
 ·rw[if_pos h3] at h
  repeat' split at h
  all_goals cases h
 ·rw[if_neg h3] at h
  by_cases h2:t.t.k=2
  ·rw[if_pos h2] at h
   split at h
   all_goals cases h
  ·rw[if_neg h2] at h
   by_cases h1:t.t.k=1
   ·rw[if_pos h1] at h
    split at h
    ·injection h with h;exact⟨h1,h⟩
    ·cases h
   ·rw[if_neg h1] at h
    cases h
theorem hU {lg:ByteArray->Bool} {l:List Te} {i:Nat} {t:Te} (ht:l[i]? = some t) {x:Hd} (h:hdE lg l i=x) (hx:x = .boo 1\/x = .boo 0\/x = .sel 27\/x = .sel 28\/x = .opn):t.t.k=3/\((x = .boo 1/\t.t.s=kTrue)\/(x = .boo 0/\t.t.s=kB)\/(x = .sel 27/\t.t.s=kOne)\/(x = .sel 28/\t.t.s=kTwo)\/(x = .opn/\t.t.s=kOpen)):=by
 rw[zUm ht] at h;unfold hdT at h
 by_cases h3:t.t.k=3
 ·refine⟨h3,?_⟩
  rw[if_pos h3] at h
  split at h
  ·exact .inl ⟨h.symm,‹_›⟩
  ·split at h
   ·exact .inr (.inl ⟨h.symm,‹_›⟩)
   ·split at h
    ·exact .inr (.inr (.inr (.inr ⟨h.symm,‹_›⟩)))
    ·split at h
     ·exact .inr (.inr (.inl ⟨h.symm,‹_›⟩))
     ·split at h
      ·exact .inr (.inr (.inr (.inl ⟨h.symm,‹_›⟩)))
      ·subst h
       rcases hx with h | h | h | h | h<;>cases h
 ·exfalso
  rw[if_neg h3] at h
  split at h
  ·split at h
   all_goals (subst h;rcases hx with h | h | h | h | h<;>cases h)
  ·split at h
   ·split at h
    all_goals (subst h;rcases hx with h | h | h | h | h<;>cases h)
   ·subst h
    rcases hx with h | h | h | h | h<;>cases h
theorem iA {W w:World} {k n:Int} {s:ByteArray} (hW:W.heap.size<=w.heap.size):NewT W (w.alloc (.cells #[.int .i64 k,.int .i64 n,.string s,.string ⟨#[]⟩,.slice none 0 0] 44)) (.pointer (some ⟨w.heap.size,0,none⟩)) (⟨k,n,s,nob⟩,.nil):=
 kU (x:=⟨k,n,s,nob⟩) (heap_alloc_new w _) ⟨hW,qC (heap_alloc_new w _)⟩
theorem uR {W w:World} {o:Obj} {k n:Int} {s:ByteArray} (hW:W.heap.size<=w.heap.size):NewT W ((w.alloc o).alloc (.cells #[.int .i64 k,.int .i64 n,.string s,.string ⟨#[]⟩,.slice none 0 0] 44)) (.pointer (some ⟨w.heap.size+1,0,none⟩)) (⟨k,n,s,nob⟩,.nil):=by
 have h:=iA (W:=W) (w:=w.alloc o) (k:=k) (n:=n) (s:=s) (by have:=((Up.refl w).alloc o).size;omega);rw[show(w.alloc o).heap.size=w.heap.size+1 from by simp] at h;exact h
theorem zKe (l:List Te) (A E:Nat->Rs Tr) (i:Nat) (hl:l.length<=1000000) (hz:∀t∈l,t.t.s.size<=1000000000) (w:World) (v:Value) (hv:Tke w v l) (x:Int) (h:hdE B.long l i = .num x) :
  Calls Tryz.prog 255 #[v,.int .i64 (i:Int)] w (qJ (qO B.long l A E i) w):=by
 have hlt:i<l.length:=jW (lg:=B.long) (by rw[h];rfl);obtain⟨t,ht⟩:∃t,l[i]? = some t:=⟨_,List.getElem?_eq_getElem hlt⟩;have cS:=kH l i hz w v hv;rw[h] at cS;have HV:=Lib.hid hv;have hw1:=qR i 1 (by omega) (by omega);have hw2:=qR i 2 (by omega) (by omega);obtain⟨e1,e2⟩:=zF5 ht h;have hR:qO B.long l A E i = .inl ((⟨20,x,nob,nob⟩,.nil),i+1):=by unfold qO;rw[h]
 rw[hR];obtain⟨V,hVe⟩:∃V,v=V:=⟨_,rfl⟩;obtain⟨G,c,hsl,hc⟩:=hv;obtain⟨b,o,rfl,hb,c0,c1,c2,m,c3⟩:=hc i t ht;obtain⟨n,hn⟩:∃n,l.length=n:=⟨_,rfl⟩;rw[hn] at hsl;subst hsl;have hki:(i:Int)<(n:Int):=by omega
 rw[e1] at c0;rw[e2] at c2;clear e1 e2 h hR;clear hc ht hz hVe
 go_enter Tryz.func255,Tryz.ntmps255
 go_wp2_with fail;refine cS.mono ?_;rintro e w1 ⟨rfl,u1⟩;have d0:=(show Up w w1 from u1).cell c0;have d1:=(show Up w w1 from u1).cell c1;have d2:=(show Up w w1 from u1).cell c2;have d3:=(show Up w w1 from u1).cell c3;clear c0 c1 c2 c3 cS;go_wp2_with fail
 go_ret3
 exact⟨_,_,_,rfl,⟨by first | exact uR u1.size | exact iA (by have:=u1.size;simp;omega),by first | rfl | omega,rfl⟩,by first | exact(u1.alloc _).alloc _⟩
theorem zKf (l:List Te) (A E:Nat->Rs Tr) (i:Nat) (hl:l.length<=1000000) (hz:∀t∈l,t.t.s.size<=1000000000) (w:World) (v:Value) (hv:Tke w v l) (x:ByteArray) (h:hdE B.long l i = .var x) :
  Calls Tryz.prog 255 #[v,.int .i64 (i:Int)] w (qJ (qO B.long l A E i) w):=by
 have hlt:i<l.length:=jW (lg:=B.long) (by rw[h];rfl);obtain⟨t,ht⟩:∃t,l[i]? = some t:=⟨_,List.getElem?_eq_getElem hlt⟩;have cS:=kH l i hz w v hv;rw[h] at cS;have HV:=Lib.hid hv;have hw1:=qR i 1 (by omega) (by omega);have hw2:=qR i 2 (by omega) (by omega);obtain⟨e1,e2⟩:=zF6 ht h;have hR:qO B.long l A E i = .inl (nd 23 x .nil,i+1):=by unfold qO;rw[h]
 rw[hR];obtain⟨V,hVe⟩:∃V,v=V:=⟨_,rfl⟩;obtain⟨G,c,hsl,hc⟩:=hv;obtain⟨b,o,rfl,hb,c0,c1,c2,m,c3⟩:=hc i t ht;obtain⟨n,hn⟩:∃n,l.length=n:=⟨_,rfl⟩;rw[hn] at hsl;subst hsl;have hki:(i:Int)<(n:Int):=by omega
 rw[e1] at c0;rw[e2] at c1;clear e1 e2 h hR;clear hc ht hz hVe
 go_enter Tryz.func255,Tryz.ntmps255
 go_wp2_with fail;refine cS.mono ?_;rintro e w1 ⟨rfl,u1⟩;have d0:=(show Up w w1 from u1).cell c0;have d1:=(show Up w w1 from u1).cell c1;have d2:=(show Up w w1 from u1).cell c2;have d3:=(show Up w w1 from u1).cell c3;clear c0 c1 c2 c3 cS;go_wp2_with fail;refine(zC 23 x _ _ _ _).mono ?_;rintro e w2 ⟨rfl,rfl⟩;go_wp2_with fail
 go_ret3
 exact⟨_,_,_,rfl,⟨by first | exact uR u1.size | exact iA (by have:=u1.size;simp;omega),by first | rfl | omega,rfl⟩,by first | exact(u1.alloc _).alloc _⟩
theorem zKg (l:List Te) (A E:Nat->Rs Tr) (i:Nat) (hl:l.length<=1000000) (hz:∀t∈l,t.t.s.size<=1000000000) (w:World) (v:Value) (hv:Tke w v l) (h:hdE B.long l i = .boo 1) :
  Calls Tryz.prog 255 #[v,.int .i64 (i:Int)] w (qJ (qO B.long l A E i) w):=by
 have hlt:i<l.length:=jW (lg:=B.long) (by rw[h];rfl);obtain⟨t,ht⟩:∃t,l[i]? = some t:=⟨_,List.getElem?_eq_getElem hlt⟩;have cS:=kH l i hz w v hv;rw[h] at cS;have HV:=Lib.hid hv;have hw1:=qR i 1 (by omega) (by omega);have hw2:=qR i 2 (by omega) (by omega);obtain⟨e1,e2⟩:=hU ht h (by simp);have e2:t.t.s=kTrue:=by simpa using e2
 have hR:qO B.long l A E i = .inl ((⟨21,1,nob,nob⟩,.nil),i+1):=by unfold qO;rw[h]
 rw[hR];obtain⟨V,hVe⟩:∃V,v=V:=⟨_,rfl⟩;obtain⟨G,c,hsl,hc⟩:=hv;obtain⟨b,o,rfl,hb,c0,c1,c2,m,c3⟩:=hc i t ht;obtain⟨n,hn⟩:∃n,l.length=n:=⟨_,rfl⟩;rw[hn] at hsl;subst hsl;have hki:(i:Int)<(n:Int):=by omega
 rw[e1] at c0;obtain⟨s,hs⟩:∃s,t.t.s=s:=⟨_,rfl⟩;rw[hs] at c1;rw[e2] at hs;have hs:=hs.symm;have qkTrue:(s.toList==[116,114,117,101])=true:=(kL s kTrue).trans (by rw[hs];decide);have pkTrue:s.toList=[116,114,117,101]:=beq_iff_eq.1 qkTrue;clear e1 e2 h hR hs;clear hc ht hz hVe
 go_enter Tryz.func255,Tryz.ntmps255
 go_wp2_with fail;refine cS.mono ?_;rintro e w1 ⟨rfl,u1⟩;have d0:=(show Up w w1 from u1).cell c0;have d1:=(show Up w w1 from u1).cell c1;have d2:=(show Up w w1 from u1).cell c2;have d3:=(show Up w w1 from u1).cell c3;clear c0 c1 c2 c3 cS;go_wp2_with fail
 go_ret3
 exact⟨_,_,_,rfl,⟨by first | exact uR u1.size | exact iA (by have:=u1.size;simp;omega),by first | rfl | omega,rfl⟩,by first | exact(u1.alloc _).alloc _⟩
theorem zKh (l:List Te) (A E:Nat->Rs Tr) (i:Nat) (hl:l.length<=1000000) (hz:∀t∈l,t.t.s.size<=1000000000) (w:World) (v:Value) (hv:Tke w v l) (h:hdE B.long l i = .boo 0) :
  Calls Tryz.prog 255 #[v,.int .i64 (i:Int)] w (qJ (qO B.long l A E i) w):=by
 have hlt:i<l.length:=jW (lg:=B.long) (by rw[h];rfl);obtain⟨t,ht⟩:∃t,l[i]? = some t:=⟨_,List.getElem?_eq_getElem hlt⟩;have cS:=kH l i hz w v hv;rw[h] at cS;have HV:=Lib.hid hv;have hw1:=qR i 1 (by omega) (by omega);have hw2:=qR i 2 (by omega) (by omega);obtain⟨e1,e2⟩:=hU ht h (by simp);have e2:t.t.s=kB:=by simpa using e2
 have hR:qO B.long l A E i = .inl ((⟨21,0,nob,nob⟩,.nil),i+1):=by unfold qO;rw[h]
 rw[hR];obtain⟨V,hVe⟩:∃V,v=V:=⟨_,rfl⟩;obtain⟨G,c,hsl,hc⟩:=hv;obtain⟨b,o,rfl,hb,c0,c1,c2,m,c3⟩:=hc i t ht;obtain⟨n,hn⟩:∃n,l.length=n:=⟨_,rfl⟩;rw[hn] at hsl;subst hsl;have hki:(i:Int)<(n:Int):=by omega
 rw[e1] at c0;obtain⟨s,hs⟩:∃s,t.t.s=s:=⟨_,rfl⟩;rw[hs] at c1;rw[e2] at hs;have hs:=hs.symm;have qkTrue:(s.toList==[116,114,117,101])=false:=(kL s kTrue).trans (by rw[hs];decide);have pkTrue:¬s.toList=[116,114,117,101]:=beq_eq_false_iff_ne.1 qkTrue;have qkFalse:(s.toList==[102,97,108,115,101])=true:=(kL s kB).trans (by rw[hs];decide);have pkFalse:s.toList=[102,97,108,115,101]:=beq_iff_eq.1 qkFalse;clear e1 e2 h hR hs;clear hc ht hz hVe
 go_enter Tryz.func255,Tryz.ntmps255
 go_wp2_with fail;refine cS.mono ?_;rintro e w1 ⟨rfl,u1⟩;have d0:=(show Up w w1 from u1).cell c0;have d1:=(show Up w w1 from u1).cell c1;have d2:=(show Up w w1 from u1).cell c2;have d3:=(show Up w w1 from u1).cell c3;clear c0 c1 c2 c3 cS;go_wp2_with fail;refine(zC 21 nob _ _ _ _).mono ?_;rintro e w2 ⟨rfl,rfl⟩;go_wp2_with fail
 go_ret3
 exact⟨_,_,_,rfl,⟨by first | exact uR u1.size | exact iA (by have:=u1.size;simp;omega),by first | rfl | omega,rfl⟩,by first | exact(u1.alloc _).alloc _⟩
theorem zKi (l:List Te) (A E:Nat->Rs Tr) (i:Nat) (hl:l.length<=1000000) (hz:∀t∈l,t.t.s.size<=1000000000) (w:World) (v:Value) (hv:Tke w v l) (cA:∀(j:Nat) (W:World),i<j->j<=l.length->Up w W->Calls Tryz.prog 255 #[v,.int .i64 (j:Int)] W (qJ (A j) W)) (h:hdE B.long l i = .sel 27) :
  Calls Tryz.prog 255 #[v,.int .i64 (i:Int)] w (qJ (qO B.long l A E i) w):=by
 have hlt:i<l.length:=jW (lg:=B.long) (by rw[h];rfl);obtain⟨t,ht⟩:∃t,l[i]? = some t:=⟨_,List.getElem?_eq_getElem hlt⟩;have cS:=kH l i hz w v hv;rw[h] at cS;have HV:=Lib.hid hv;have hw1:=qR i 1 (by omega) (by omega);have hw2:=qR i 2 (by omega) (by omega);obtain⟨e1,e2⟩:=hU ht h (by simp);have e2:t.t.s=kOne:=by simpa using e2
 have hR:qO B.long l A E i=thn (A (i+1)) fun a j=>.inl (nd 27 nob (fr1 a),j):=by unfold qO;rw[h]
 rw[hR];obtain⟨V,hVe⟩:∃V,v=V:=⟨_,rfl⟩;obtain⟨G,c,hsl,hc⟩:=hv;obtain⟨b,o,rfl,hb,c0,c1,c2,m,c3⟩:=hc i t ht;obtain⟨n,hn⟩:∃n,l.length=n:=⟨_,rfl⟩;rw[hn] at hsl;subst hsl;have hki:(i:Int)<(n:Int):=by omega
 have cA:=fun W u=>cA (i+1) W (Nat.lt_succ_self i) hlt u
 obtain⟨R1,hR1⟩:∃R1,A (i+1)=R1:=⟨_,rfl⟩;rw[hR1] at cA ⊢;rw[e1] at c0;obtain⟨s,hs⟩:∃s,t.t.s=s:=⟨_,rfl⟩;rw[hs] at c1;rw[e2] at hs;have hs:=hs.symm;have qkTrue:(s.toList==[116,114,117,101])=false:=(kL s kTrue).trans (by rw[hs];decide);have pkTrue:¬s.toList=[116,114,117,101]:=beq_eq_false_iff_ne.1 qkTrue;have qkFalse:(s.toList==[102,97,108,115,101])=false:=(kL s kB).trans (by rw[hs];decide);have pkFalse:¬s.toList=[102,97,108,115,101]:=beq_eq_false_iff_ne.1 qkFalse;have qkOne:(s.toList==[35,49])=true:=(kL s kOne).trans (by rw[hs];decide);have pkOne:s.toList=[35,49]:=beq_iff_eq.1 qkOne;have qkTwo:(s.toList==[35,50])=false:=(kL s kTwo).trans (by rw[hs];decide);have pkTwo:¬s.toList=[35,50]:=beq_eq_false_iff_ne.1 qkTwo;clear hR1 e1 e2 h hR hs;clear hc ht hz hVe
 go_enter Tryz.func255,Tryz.ntmps255
 go_wp2_with fail;refine cS.mono ?_;rintro e w1 ⟨rfl,u1⟩;have d0:=(show Up w w1 from u1).cell c0;have d1:=(show Up w w1 from u1).cell c1;have d2:=(show Up w w1 from u1).cell c2;have d3:=(show Up w w1 from u1).cell c3;clear c0 c1 c2 c3 cS;go_wp2_with fail;refine(cA _ (u1.alloc _)).mono ?_;rintro e w3 ⟨va,q,er,rfl,hV,u3⟩;have x1:w3.cell? ⟨w1.heap.size,1,none⟩=some (.string s):=u3.cell (bW rfl);have U3:Up w w3:=(u1.alloc _).trans u3;obtain⟨pa,rfl⟩:=hV.ptr;have HVV:=Lib.hid hV;clear hV;go_wp2_with fail;refine(zC 27 nob _ _ _ _).mono ?_;rintro e w4 ⟨rfl,rfl⟩;go_wp2_with fail
 go_ret3
 refine⟨_,_,_,rfl,?_,(U3.alloc _).alloc _⟩;have hV:=HVV.out
 cases R1 with
 | inr r=>exact⟨hV.1,hV.2.1,_,rfl⟩
 | inl r=>exact⟨has1 U3.size (hV.1.from (u1.alloc _) (Up.refl _)),hV.2.1,hV.2.2⟩
theorem zKj (l:List Te) (A E:Nat->Rs Tr) (i:Nat) (hl:l.length<=1000000) (hz:∀t∈l,t.t.s.size<=1000000000) (w:World) (v:Value) (hv:Tke w v l) (cA:∀(j:Nat) (W:World),i<j->j<=l.length->Up w W->Calls Tryz.prog 255 #[v,.int .i64 (j:Int)] W (qJ (A j) W)) (h:hdE B.long l i = .sel 28) :
  Calls Tryz.prog 255 #[v,.int .i64 (i:Int)] w (qJ (qO B.long l A E i) w):=by
 have hlt:i<l.length:=jW (lg:=B.long) (by rw[h];rfl);obtain⟨t,ht⟩:∃t,l[i]? = some t:=⟨_,List.getElem?_eq_getElem hlt⟩;have cS:=kH l i hz w v hv;rw[h] at cS;have HV:=Lib.hid hv;have hw1:=qR i 1 (by omega) (by omega);have hw2:=qR i 2 (by omega) (by omega);obtain⟨e1,e2⟩:=hU ht h (by simp);have e2:t.t.s=kTwo:=by simpa using e2
 have hR:qO B.long l A E i=thn (A (i+1)) fun a j=>.inl (nd 28 nob (fr1 a),j):=by unfold qO;rw[h]
 rw[hR];obtain⟨V,hVe⟩:∃V,v=V:=⟨_,rfl⟩;obtain⟨G,c,hsl,hc⟩:=hv;obtain⟨b,o,rfl,hb,c0,c1,c2,m,c3⟩:=hc i t ht;obtain⟨n,hn⟩:∃n,l.length=n:=⟨_,rfl⟩;rw[hn] at hsl;subst hsl;have hki:(i:Int)<(n:Int):=by omega
 have cA:=fun W u=>cA (i+1) W (Nat.lt_succ_self i) hlt u
 obtain⟨R1,hR1⟩:∃R1,A (i+1)=R1:=⟨_,rfl⟩;rw[hR1] at cA ⊢;rw[e1] at c0;obtain⟨s,hs⟩:∃s,t.t.s=s:=⟨_,rfl⟩;rw[hs] at c1;rw[e2] at hs;have hs:=hs.symm;have qkTrue:(s.toList==[116,114,117,101])=false:=(kL s kTrue).trans (by rw[hs];decide);have pkTrue:¬s.toList=[116,114,117,101]:=beq_eq_false_iff_ne.1 qkTrue;have qkFalse:(s.toList==[102,97,108,115,101])=false:=(kL s kB).trans (by rw[hs];decide);have pkFalse:¬s.toList=[102,97,108,115,101]:=beq_eq_false_iff_ne.1 qkFalse;have qkOne:(s.toList==[35,49])=false:=(kL s kOne).trans (by rw[hs];decide);have pkOne:¬s.toList=[35,49]:=beq_eq_false_iff_ne.1 qkOne;have qkTwo:(s.toList==[35,50])=true:=(kL s kTwo).trans (by rw[hs];decide);have pkTwo:s.toList=[35,50]:=beq_iff_eq.1 qkTwo;clear hR1 e1 e2 h hR hs;clear hc ht hz hVe
 go_enter Tryz.func255,Tryz.ntmps255
 go_wp2_with fail;refine cS.mono ?_;rintro e w1 ⟨rfl,u1⟩;have d0:=(show Up w w1 from u1).cell c0;have d1:=(show Up w w1 from u1).cell c1;have d2:=(show Up w w1 from u1).cell c2;have d3:=(show Up w w1 from u1).cell c3;clear c0 c1 c2 c3 cS;go_wp2_with fail;refine(cA _ (u1.alloc _)).mono ?_;rintro e w3 ⟨va,q,er,rfl,hV,u3⟩;have x1:w3.cell? ⟨w1.heap.size,1,none⟩=some (.string s):=u3.cell (bW rfl);have U3:Up w w3:=(u1.alloc _).trans u3;obtain⟨pa,rfl⟩:=hV.ptr;have HVV:=Lib.hid hV;clear hV;go_wp2_with fail;refine(zC 28 nob _ _ _ _).mono ?_;rintro e w4 ⟨rfl,rfl⟩;go_wp2_with fail
 go_ret3
 refine⟨_,_,_,rfl,?_,(U3.alloc _).alloc _⟩;have hV:=HVV.out
 cases R1 with
 | inr r=>exact⟨hV.1,hV.2.1,_,rfl⟩
 | inl r=>exact⟨has1 U3.size (hV.1.from (u1.alloc _) (Up.refl _)),hV.2.1,hV.2.2⟩
theorem zQc (l:List Te) (A E:Nat->Rs Tr) (i:Nat) (hl:l.length<=1000000) (hz:∀t∈l,t.t.s.size<=1000000000) (w:World) (v:Value) (hv:Tke w v l) (H:uQ l E i w v) (h:hdE B.long l i = .opn) (hk:key (tks l) (i+1) kShut=true) :
  Calls Tryz.prog 255 #[v,.int .i64 (i:Int)] w (qJ (qO B.long l A E i) w):=by
 have hlt:i<l.length:=jW (lg:=B.long) (by rw[h];rfl);obtain⟨t,ht⟩:∃t,l[i]? = some t:=⟨_,List.getElem?_eq_getElem hlt⟩;have cS:=kH l i hz w v hv;rw[h] at cS;have HV:=Lib.hid hv;have hw1:=qR i 1 (by omega) (by omega);have hw2:=qR i 2 (by omega) (by omega);obtain⟨e1,e2⟩:=hU ht h (by simp);have e2:t.t.s=kOpen:=by simpa using e2
 have cK1:=H.key (i+1) kShut;rw[hk] at cK1;have hR:qO B.long l A E i = .inl (nd 22 nob .nil,i+2):=by unfold qO;rw[h];simp only;rw[if_pos hk]
 rw[hR];clear hR h;obtain⟨V,hVe⟩:∃V,v=V:=⟨_,rfl⟩;obtain⟨G,c,hsl,hc⟩:=hv;obtain⟨b,o,rfl,hb,c0,c1,c2,m,c3⟩:=hc i t ht;obtain⟨n,hn⟩:∃n,l.length=n:=⟨_,rfl⟩;rw[hn] at hsl;subst hsl;have hki:(i:Int)<(n:Int):=by omega
 rw[e1] at c0;obtain⟨s,hs⟩:∃s,t.t.s=s:=⟨_,rfl⟩;rw[hs] at c1;rw[e2] at hs;have hs:=hs.symm;have qkTrue:(s.toList==[116,114,117,101])=false:=(kL s kTrue).trans (by rw[hs];decide);have pkTrue:¬s.toList=[116,114,117,101]:=beq_eq_false_iff_ne.1 qkTrue;have qkFalse:(s.toList==[102,97,108,115,101])=false:=(kL s kB).trans (by rw[hs];decide);have pkFalse:¬s.toList=[102,97,108,115,101]:=beq_eq_false_iff_ne.1 qkFalse;have qkOne:(s.toList==[35,49])=false:=(kL s kOne).trans (by rw[hs];decide);have pkOne:¬s.toList=[35,49]:=beq_eq_false_iff_ne.1 qkOne;have qkTwo:(s.toList==[35,50])=false:=(kL s kTwo).trans (by rw[hs];decide);have pkTwo:¬s.toList=[35,50]:=beq_eq_false_iff_ne.1 qkTwo;clear e1 e2 hs;clear hc ht hz hVe
 go_enter Tryz.func255,Tryz.ntmps255
 go_wp2_with fail;refine cS.mono ?_;rintro e w1 ⟨rfl,u1⟩;have d0:=(show Up w w1 from u1).cell c0;have d1:=(show Up w w1 from u1).cell c1;have d2:=(show Up w w1 from u1).cell c2;have d3:=(show Up w w1 from u1).cell c3;clear c0 c1 c2 c3 cS;go_wp2_with fail;refine(cK1 _ (u1.alloc _)).mono ?_;rintro e w2 ⟨rfl,u2⟩;have U2:Up w w2:=(u1.alloc _).trans u2;go_wp2_with fail;refine(zC 22 nob _ _ _ _).mono ?_;rintro e w3 ⟨rfl,rfl⟩;go_wp2_with fail
 go_ret3
 exact⟨_,_,_,rfl,⟨iA U2.size,by first | rfl | omega,rfl⟩,U2.alloc _⟩
theorem zKk (l:List Te) (A E:Nat->Rs Tr) (i:Nat) (hl:l.length<=1000000) (hz:∀t∈l,t.t.s.size<=1000000000) (w:World) (v:Value) (hv:Tke w v l) (H:uQ l E i w v) (h:hdE B.long l i = .opn) (hk:key (tks l) (i+1) kShut=false) :
  Calls Tryz.prog 255 #[v,.int .i64 (i:Int)] w (qJ (qO B.long l A E i) w):=by
 have hlt:i<l.length:=jW (lg:=B.long) (by rw[h];rfl);obtain⟨t,ht⟩:∃t,l[i]? = some t:=⟨_,List.getElem?_eq_getElem hlt⟩;have cS:=kH l i hz w v hv;rw[h] at cS;have HV:=Lib.hid hv;have hw1:=qR i 1 (by omega) (by omega);have hw2:=qR i 2 (by omega) (by omega);obtain⟨e1,e2⟩:=hU ht h (by simp);have e2:t.t.s=kOpen:=by simpa using e2
 have cK1:=H.key (i+1) kShut;rw[hk] at cK1;obtain⟨R,hRe⟩:∃R,qO B.long l A E i=R:=⟨_,rfl⟩;have hRR:R=thn (E (i+1)) fun a j=>(if key (tks l) j yH then thn (thenK (tks l) (E (j+1)) [kShut]) (fun b m=>.inl (nd 26 nob (fr2 a b),m)) else thn (keysL (tks l) j [kShut]) fun _ m=>.inl (a,m)):=by
  rw[<- hRe];unfold qO;rw[h];simp only;rw[if_neg (by rw[hk];decide)]
 rw[hRe];have HR:=Lib.hid hRR;have cX:=fun W u=>H.expr (i+1) W (Nat.lt_succ_self i) hlt u
 have aX:=H.inE (i+1) hlt;obtain⟨R1,hR1⟩:∃R1,E (i+1)=R1:=⟨_,rfl⟩;rw[hR1] at cX aX;have HR1:=Lib.hid hR1;clear hR1 hRe hRR h;obtain⟨V,hVe⟩:∃V,v=V:=⟨_,rfl⟩;obtain⟨G,c,hsl,hc⟩:=hv;obtain⟨b,o,rfl,hb,c0,c1,c2,m,c3⟩:=hc i t ht;obtain⟨n,hn⟩:∃n,l.length=n:=⟨_,rfl⟩;rw[hn] at hsl;subst hsl;have hki:(i:Int)<(n:Int):=by omega
 rw[e1] at c0;obtain⟨s,hs⟩:∃s,t.t.s=s:=⟨_,rfl⟩;rw[hs] at c1;rw[e2] at hs;have hs:=hs.symm;have qkTrue:(s.toList==[116,114,117,101])=false:=(kL s kTrue).trans (by rw[hs];decide);have pkTrue:¬s.toList=[116,114,117,101]:=beq_eq_false_iff_ne.1 qkTrue;have qkFalse:(s.toList==[102,97,108,115,101])=false:=(kL s kB).trans (by rw[hs];decide);have pkFalse:¬s.toList=[102,97,108,115,101]:=beq_eq_false_iff_ne.1 qkFalse;have qkOne:(s.toList==[35,49])=false:=(kL s kOne).trans (by rw[hs];decide);have pkOne:¬s.toList=[35,49]:=beq_eq_false_iff_ne.1 qkOne;have qkTwo:(s.toList==[35,50])=false:=(kL s kTwo).trans (by rw[hs];decide);have pkTwo:¬s.toList=[35,50]:=beq_eq_false_iff_ne.1 qkTwo;clear e1 e2 hs;clear hc ht hz hVe
 go_enter Tryz.func255,Tryz.ntmps255
 go_wp2_with fail;refine cS.mono ?_;rintro e w1 ⟨rfl,u1⟩;have d0:=(show Up w w1 from u1).cell c0;have d1:=(show Up w w1 from u1).cell c1;have d2:=(show Up w w1 from u1).cell c2;have d3:=(show Up w w1 from u1).cell c3;clear c0 c1 c2 c3 cS;go_wp2_with fail;refine(cK1 _ (u1.alloc _)).mono ?_;rintro e w2 ⟨rfl,u2⟩;have U2:Up w w2:=(u1.alloc _).trans u2;go_wp2_with fail;refine(cX _ U2).mono ?_;rintro e w3 ⟨va,ja,ea,rfl,hV,u3⟩;have U3:Up w w3:=U2.trans u3
 cases R1 with
 | inr r=>
  obtain⟨p,er⟩:=r;obtain⟨rfl,rfl,A1,rfl⟩:=hV;have hne:=aX.ne rfl;go_wp2_with fail
  go_ret3
  rw[show R = .inr (p,ea) from by rw[HR.out,HR1.out];rfl];exact⟨_,_,_,rfl,⟨rfl,rfl,none,rfl⟩,U3⟩
 | inl r=>
  obtain⟨a,j⟩:=r;obtain⟨hT,rfl,rfl⟩:=hV;obtain⟨o1,p1,rfl⟩:=InT.ptr hT;have hj:i+1<j/\j<=l.length:=aX;have cC:=H.key j yH
  cases hb:key (tks l) j yH with
  | true=>
   rw[hb] at cC;have hj1:j+1<=l.length:=qG hb;have hw3:=qR j 1 (by omega) (by omega);have cB:=fun W vk u h=>H.sub (j+1) [kShut] W vk (by omega) hj1 u h
   obtain⟨R3,hR3⟩:∃R3,thenK (tks l) (E (j+1)) [kShut]=R3:=⟨_,rfl⟩;rw[hR3] at cB;have hRR:R=thn R3 fun b m=>.inl (nd 26 nob (fr2 a b),m):=by rw[HR.out,HR1.out];show(if key (tks l) j yH=true then _ else _)=_;rw[hb,if_pos rfl,hR3]
   have HRR:=Lib.hid hRR;clear hRR hb hR3 cX aX;go_wp2_with fail;refine(cC _ U3).mono ?_;rintro e w4 ⟨rfl,u4⟩;have U4:Up w w4:=U3.trans u4;go_wp2_with fail;refine(cB _ _ (U4.alloc _) (TxS.row1 w4 kShut _)).mono ?_;rintro e w5 ⟨vb,q,er,rfl,hV,u5⟩;have U5:Up w w5:=(U4.alloc _).trans u5;obtain⟨pb,rfl⟩:=hV.ptr;have HVV:=Lib.hid hV;clear hV;go_wp2_with fail;refine(zC 26 nob _ _ _ _).mono ?_;rintro e w6 ⟨rfl,rfl⟩;go_wp2_with fail
   go_ret3
   rw[HRR.out];refine⟨_,_,_,rfl,?_,(U5.alloc _).alloc _⟩;have hV:=HVV.out
   cases R3 with
   | inr r=>exact⟨hV.1,hV.2.1,_,rfl⟩
   | inl r=>exact⟨zWw U5.size (hT.from U2 (u4.trans (((Up.refl _).alloc _).trans u5))) (hV.1.from (U4.alloc _) (Up.refl _)),hV.2.1,hV.2.2⟩
  | false=>
   rw[hb] at cC;have cB:=fun W vk u h=>H.keys j [kShut] W vk hj.2 u h
   obtain⟨R3,hR3⟩:∃R3,keysL (tks l) j [kShut]=R3:=⟨_,rfl⟩;rw[hR3] at cB;have hRR:R=thn R3 fun _ m=>.inl (a,m):=by rw[HR.out,HR1.out];show(if key (tks l) j yH=true then _ else _)=_;rw[hb,if_neg (by decide),hR3]
   have HRR:=Lib.hid hRR;clear hRR hb hR3 cX aX;go_wp2_with fail;refine(cC _ U3).mono ?_;rintro e w4 ⟨rfl,u4⟩;have U4:Up w w4:=U3.trans u4;go_wp2_with fail;refine(cB _ _ (U4.alloc _) (TxS.row1 w4 kShut _)).mono ?_;rintro e w5 ⟨q,er,rfl,hV,u5⟩;have U5:Up w w5:=(U4.alloc _).trans u5;have HVV:=Lib.hid hV;clear hV;go_wp2_with fail
   go_ret3
   rw[HRR.out];refine⟨_,_,_,rfl,?_,U5⟩;have hV:=HVV.out
   cases R3 with
   | inr r=>exact⟨hV.1,hV.2,_,rfl⟩
   | inl r=>exact⟨hT.from U2 (u4.trans (((Up.refl _).alloc _).trans u5)),hV.1,hV.2⟩
theorem zF7 (l:List Te) (A E:Nat->Rs Tr) (i:Nat) (hz:∀t∈l,t.t.s.size<=1000000000) (w:World) (v:Value) (hv:Tke w v l) (h:hdE B.long l i = .no) :
  Calls Tryz.prog 255 #[v,.int .i64 (i:Int)] w (qJ (qO B.long l A E i) w):=by
 have cS:=kH l i hz w v hv;rw[h] at cS;have hR:qO B.long l A E i = .inr (i,6):=by unfold qO;rw[h]
 rw[hR];clear h hR hv hz
 go_enter Tryz.func255,Tryz.ntmps255
 go_wp2_with fail;refine cS.mono ?_;rintro e w1 ⟨rfl,u1⟩;go_wp2_with fail
 go_ret3
 exact⟨_,_,_,rfl,⟨rfl,rfl,none,rfl⟩,u1⟩
end Go.Proofs.YtgeghilbikljcaaGreatDoor
