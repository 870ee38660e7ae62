/-
  The document's atom: one step (written by gty.py).
-/
import Derived.Test.YtgeghilbikljcaaGreatDoorGs14
import Derived.Test.YtgeghilbikljcaaGreatDoorGs32
set_option maxHeartbeats 40000000
set_option maxRecDepth 100000
namespace Go.Proofs.YtgeghilbikljcaaGreatDoor
open Go.RowKit
theorem vD (k:Int) (s:ByteArray) {W w:World} (h:W.heap.size<=w.heap.size):NewT W (w.alloc (.cells #[.int .i64 k,.int .i64 0,.string s,.string ⟨#[]⟩,.slice none 0 0] 44)) (.pointer (some ⟨w.heap.size,0,none⟩)) (nd k s .nil):=
 kU (x:=⟨k,0,s,nob⟩) (heap_alloc_new w _) ⟨h,qC (heap_alloc_new w _)⟩
theorem zTq {W a w:World} {f:Fr} {g:Nat} (h:W.heap.size<=a.heap.size) {b:World} (u:Up b w) (hg:NewS a b g) (hf:InF b (NewS a b) f g 0):NewS W w g/\InF w (NewS W w) f g 0:=
 ⟨⟨Nat.le_trans h hg.1,Nat.lt_of_lt_of_le hg.2 u.size⟩,InF.keep (fun _ hq=>⟨Nat.le_trans h hq.1,Nat.lt_of_lt_of_le hq.2 u.size⟩) (fun q hq=>Below.block u q hq.2) hg hf⟩
theorem zCx {s:ByteArray} {W w:World} {f:Fr} {g n c:Nat} (hW:W.heap.size<=w.heap.size) (h1:f.len=n) (h2:n<=c) (hg:NewS W w g/\InF w (NewS W w) f g 0) :
  NewT W (w.alloc (.cells #[.int .i64 7,.int .i64 0,.string s,.string ⟨#[]⟩,.slice (some ⟨g,0,none⟩) n c] 44)) (.pointer (some ⟨w.heap.size,0,none⟩)) (nd 7 s f):=by
 have u:Up w (w.alloc (.cells #[.int .i64 7,.int .i64 0,.string s,.string ⟨#[]⟩,.slice (some ⟨g,0,none⟩) n c] 44)):=(Up.refl w).alloc _;obtain⟨h3,h4⟩:=zTq (Nat.le_refl _) u hg.1 hg.2;exact zR (x:=⟨7,0,s,nob⟩) (heap_alloc_new w _) h1 h2 ⟨hW,qC (heap_alloc_new w _)⟩ h3 h4
theorem yN (l:List Tk) (i:Nat) (x:ByteArray):keyZ l (i:Int) x=key l i x:=by unfold keyZ;rw[decide_eq_true (by omega),Int.toNat_natCast,Bool.true_and]
theorem zK7 (l:List Tk) (i:Nat) (x:ByteArray):keyZ l ((i:Int)+2) x=key l (i+2) x:=by rw[show(i:Int)+2=((i+2:Nat):Int) by omega,yN]
theorem bV (p:ByteArray->Bool) (l:List Tk) (i:Nat):namZ p l (i:Int)=nam p l i:=by unfold namZ;rw[if_pos (by omega),Int.toNat_natCast]
theorem zK8 (p:ByteArray->Bool) (l:List Tk) (i:Nat):namZ p l ((i:Int)+1)=nam p l (i+1):=by rw[show(i:Int)+1=((i+1:Nat):Int) by omega,bV]
theorem zYq (l:List Tk) (i:Nat) (hi:i<=l.length) (hl:l.length<=1000000) (hz:∀t∈l,t.s.size<=1000000000) (w:World) (v:Value) (hv:Tkm w v l)
  (cT:∀j,i<j->j<=l.length->∀w',Up w w'->Calls Tryz.prog 160 #[v,.int .i64 (j:Int)] w' (qJ (typL B.nck B.long l j) w'))
  (cC:∀j,i<j->j<=l.length->∀w',Up w w'->Calls Tryz.prog 125 #[v,.int .i64 (j:Int)] w' (fR (consL B.nck B.long l j .nil) w')) :
  Calls Tryz.prog 212 #[v,.int .i64 (i:Int)] w (qJ (atomL B.nck B.long l i) w):=by
 have HV:=Lib.hid hv;have HT:=Lib.hid cT;have HCC:=Lib.hid cC;have cL:∀W,Up w W->Calls Tryz.prog 72 #[v,.int .i64 (i:Int)] W (NaP (nam B.long l i) W):=fun W u=>by rw[<- bV];exact pO l i W v (hv.up u) hz
 have cN:∀W,Up w W->Calls Tryz.prog 71 #[v,.int .i64 ((i:Int)+1)] W (NaP (nam B.nck l (i+1)) W):=fun W u=>by rw[<- zK8];exact vF l _ W v (hv.up u) hz
 have cK:∀(x:ByteArray) W,Up w W->Calls Tryz.prog 41 #[v,.int .i64 (i:Int),.string x] W (BoU (key l i x) W):=fun x W u=>by rw[<- yN];exact kZ l i x W v (hv.up u)
 have k2:∀W,Up w W->Calls Tryz.prog 41 #[v,.int .i64 ((i:Int)+2),.string kLeft] W (BoU (key l (i+2) kLeft) W):=fun W u=>by rw[<- zK7];exact kZ l _ _ W v (hv.up u)
 have cQ:∀(q:Nat) (x:ByteArray) W,Up w W->Calls Tryz.prog 41 #[v,.int .i64 (q:Int),.string x] W (BoU (key l q x) W):=fun q x W u=>by rw[<- yN];exact kZ l q x W v (hv.up u)
 have kint:=cK kInt;have kbool:=cK kBool;have kunit:=cK kUnit;have kopen:=cK kOpen;have kmu:=cK kMu;have HQ:=Lib.hid cQ;clear hv cT cC cK cQ hz
 cases hL:nam B.long l i with
 | some s=>
  rw[hL] at cL;have HE:Hid (atomL B.nck B.long l i = .inl (nd 4 s .nil,i+1)):=Lib.hid (by rw[yK];unfold atomS;rw[hL]);rw[HE.out];clear HE hL cN k2 kint kbool kunit kopen kmu HQ
  go_enter Tryz.func212,Tryz.ntmps212
  go_wp2_with fail;refine(cL w (Up.refl w)).mono ?_;rintro e w1 ⟨rfl,u1⟩;have U1:Up w w1:=u1;go_wp2_with fail;refine(zC 4 s _ _ _ _).mono ?_;rintro e w9 ⟨rfl,rfl⟩;go_wp2_with fail
  go_ret3
  exact⟨_,_,_,rfl,⟨vD 4 s U1.size,by omega,rfl⟩,U1.alloc _⟩
 | none=>
  rw[hL] at cL
  cases hint:key l i kInt with
  | true=>
   rw[hint] at kint;have HE:Hid (atomL B.nck B.long l i = .inl (nd 1 nob .nil,i+1)):=Lib.hid (by rw[yK];unfold atomS;rw[hL];simp only[hint,if_true]);rw[HE.out];clear HE;clear hL hint cN k2 HQ HT HCC
   go_enter Tryz.func212,Tryz.ntmps212
   go_wp2_with fail;refine(cL w (Up.refl w)).mono ?_;rintro e w1 ⟨rfl,u1⟩;have U1:Up w w1:=u1;go_wp2_with fail;refine(kint w1 U1).mono ?_;rintro e w2 ⟨rfl,u2⟩;have U2:Up w w2:=Up.trans U1 u2;go_wp2_with fail;refine(zC 1 nob _ _ _ _).mono ?_;rintro e w9 ⟨rfl,rfl⟩;go_wp2_with fail
   go_ret3
   exact⟨_,_,_,rfl,⟨vD 1 nob U2.size,by omega,rfl⟩,U2.alloc _⟩
  | false=>
   rw[hint] at kint
   cases hbool:key l i kBool with
   | true=>
    rw[hbool] at kbool;have HE:Hid (atomL B.nck B.long l i = .inl (nd 2 nob .nil,i+1)):=Lib.hid (by rw[yK];unfold atomS;rw[hL];simp only[hint,hbool,if_true,if_false,Bool.false_eq_true]);rw[HE.out];clear HE;clear hL hint hbool cN k2 HQ HT HCC
    go_enter Tryz.func212,Tryz.ntmps212
    go_wp2_with fail;refine(cL w (Up.refl w)).mono ?_;rintro e w1 ⟨rfl,u1⟩;have U1:Up w w1:=u1;go_wp2_with fail;refine(kint w1 U1).mono ?_;rintro e w2 ⟨rfl,u2⟩;have U2:Up w w2:=Up.trans U1 u2;go_wp2_with fail;refine(kbool w2 U2).mono ?_;rintro e w3 ⟨rfl,u3⟩;have U3:Up w w3:=Up.trans U2 u3;go_wp2_with fail;refine(zC 2 nob _ _ _ _).mono ?_;rintro e w9 ⟨rfl,rfl⟩;go_wp2_with fail
    go_ret3
    exact⟨_,_,_,rfl,⟨vD 2 nob U3.size,by omega,rfl⟩,U3.alloc _⟩
   | false=>
    rw[hbool] at kbool
    cases hunit:key l i kUnit with
    | true=>
     rw[hunit] at kunit;have HE:Hid (atomL B.nck B.long l i = .inl (nd 3 nob .nil,i+1)):=Lib.hid (by rw[yK];unfold atomS;rw[hL];simp only[hint,hbool,hunit,if_true,if_false,Bool.false_eq_true]);rw[HE.out];clear HE;clear hL hint hbool hunit cN k2 HQ HT HCC
     go_enter Tryz.func212,Tryz.ntmps212
     go_wp2_with fail;refine(cL w (Up.refl w)).mono ?_;rintro e w1 ⟨rfl,u1⟩;have U1:Up w w1:=u1;go_wp2_with fail;refine(kint w1 U1).mono ?_;rintro e w2 ⟨rfl,u2⟩;have U2:Up w w2:=Up.trans U1 u2;go_wp2_with fail;refine(kbool w2 U2).mono ?_;rintro e w3 ⟨rfl,u3⟩;have U3:Up w w3:=Up.trans U2 u3;go_wp2_with fail;refine(kunit w3 U3).mono ?_;rintro e w4 ⟨rfl,u4⟩;have U4:Up w w4:=Up.trans U3 u4;go_wp2_with fail;refine(zC 3 nob _ _ _ _).mono ?_;rintro e w9 ⟨rfl,rfl⟩;go_wp2_with fail
     go_ret3
     exact⟨_,_,_,rfl,⟨vD 3 nob U4.size,by omega,rfl⟩,U4.alloc _⟩
    | false=>
     rw[hunit] at kunit
     cases hopen:key l i kOpen with
     | true=>
      rw[hopen] at kopen;have hlt:=zU hopen;have cT1:=HT.out (i+1) (by omega) (by omega)
      cases hT:typL B.nck B.long l (i+1) with
      | inr e=>
       obtain⟨p,er⟩:=e;have hle:=wU (nk:=B.nck) (lg:=B.long) l (i+1) (by omega);rw[hT] at hle cT1;have hne:¬er=0:=hle.2 p er rfl;have hpl:p<=l.length:=hle.1;have HE:Hid (atomL B.nck B.long l i = .inr (p,er)):=Lib.hid (by rw[yK];unfold atomS;rw[hL];simp only[hint,hbool,hunit,hopen,hT,if_true,if_false,Bool.false_eq_true]);rw[HE.out];clear HE;clear hL hint hbool hunit hopen hT cN k2 HQ HT HCC hle
       go_enter Tryz.func212,Tryz.ntmps212
       go_wp2_with fail;refine(cL w (Up.refl w)).mono ?_;rintro e w1 ⟨rfl,u1⟩;have U1:Up w w1:=u1;go_wp2_with fail;refine(kint w1 U1).mono ?_;rintro e w2 ⟨rfl,u2⟩;have U2:Up w w2:=Up.trans U1 u2;go_wp2_with fail;refine(kbool w2 U2).mono ?_;rintro e w3 ⟨rfl,u3⟩;have U3:Up w w3:=Up.trans U2 u3;go_wp2_with fail;refine(kunit w3 U3).mono ?_;rintro e w4 ⟨rfl,u4⟩;have U4:Up w w4:=Up.trans U3 u4;go_wp2_with fail;refine(kopen w4 U4).mono ?_;rintro e w5 ⟨rfl,u5⟩;have U5:Up w w5:=Up.trans U4 u5;go_wp2_with fail;refine(cT1 w5 U5).mono ?_;rintro e w6 ⟨va,ja,ea,rfl,⟨rfl,rfl,A1,rfl⟩,u6⟩;have U6:Up w w6:=Up.trans U5 u6;go_wp2_with fail
       go_ret3
       exact⟨_,_,_,rfl,⟨by omega,rfl,_,rfl⟩,U6⟩
      | inl r=>
       obtain⟨t,q⟩:=r;have hle:=wU (nk:=B.nck) (lg:=B.long) l (i+1) (by omega);rw[hT] at hle cT1;have hql:q<=l.length:=hle.1;have kshut:=HQ.out q kShut
       cases hs:key l q kShut with
       | false=>
        rw[hs] at kshut;have HE:Hid (atomL B.nck B.long l i = .inr (q,6)):=Lib.hid (by rw[yK];unfold atomS;rw[hL];simp only[hint,hbool,hunit,hopen,hT,hs,if_true,if_false,Bool.false_eq_true]);rw[HE.out];clear HE;clear hL hint hbool hunit hopen hT hs cN k2 HQ HT HCC hle
        go_enter Tryz.func212,Tryz.ntmps212
        go_wp2_with fail;refine(cL w (Up.refl w)).mono ?_;rintro e w1 ⟨rfl,u1⟩;have U1:Up w w1:=u1;go_wp2_with fail;refine(kint w1 U1).mono ?_;rintro e w2 ⟨rfl,u2⟩;have U2:Up w w2:=Up.trans U1 u2;go_wp2_with fail;refine(kbool w2 U2).mono ?_;rintro e w3 ⟨rfl,u3⟩;have U3:Up w w3:=Up.trans U2 u3;go_wp2_with fail;refine(kunit w3 U3).mono ?_;rintro e w4 ⟨rfl,u4⟩;have U4:Up w w4:=Up.trans U3 u4;go_wp2_with fail;refine(kopen w4 U4).mono ?_;rintro e w5 ⟨rfl,u5⟩;have U5:Up w w5:=Up.trans U4 u5;go_wp2_with fail;refine(cT1 w5 U5).mono ?_;rintro e w6 ⟨va,ja,ea,rfl,⟨ht,rfl,rfl⟩,u6⟩;have U6:Up w w6:=Up.trans U5 u6;go_wp2_with fail;refine(kshut w6 U6).mono ?_;rintro e w7 ⟨rfl,u7⟩;have U7:Up w w7:=Up.trans U6 u7;go_wp2_with fail
        go_ret3
        exact⟨_,_,_,rfl,⟨by omega,rfl,_,rfl⟩,U7⟩
       | true=>
        rw[hs] at kshut;have HE:Hid (atomL B.nck B.long l i = .inl (t,q+1)):=Lib.hid (by rw[yK];unfold atomS;rw[hL];simp only[hint,hbool,hunit,hopen,hT,hs,if_true,if_false,Bool.false_eq_true]);rw[HE.out];clear HE;clear hL hint hbool hunit hopen hT hs cN k2 HQ HT HCC hle
        go_enter Tryz.func212,Tryz.ntmps212
        go_wp2_with fail;refine(cL w (Up.refl w)).mono ?_;rintro e w1 ⟨rfl,u1⟩;have U1:Up w w1:=u1;go_wp2_with fail;refine(kint w1 U1).mono ?_;rintro e w2 ⟨rfl,u2⟩;have U2:Up w w2:=Up.trans U1 u2;go_wp2_with fail;refine(kbool w2 U2).mono ?_;rintro e w3 ⟨rfl,u3⟩;have U3:Up w w3:=Up.trans U2 u3;go_wp2_with fail;refine(kunit w3 U3).mono ?_;rintro e w4 ⟨rfl,u4⟩;have U4:Up w w4:=Up.trans U3 u4;go_wp2_with fail;refine(kopen w4 U4).mono ?_;rintro e w5 ⟨rfl,u5⟩;have U5:Up w w5:=Up.trans U4 u5;go_wp2_with fail;refine(cT1 w5 U5).mono ?_;rintro e w6 ⟨va,ja,ea,rfl,⟨ht,rfl,rfl⟩,u6⟩;have U6:Up w w6:=Up.trans U5 u6;go_wp2_with fail;refine(kshut w6 U6).mono ?_;rintro e w7 ⟨rfl,u7⟩;have U7:Up w w7:=Up.trans U6 u7;go_wp2_with fail
        go_ret3
        exact⟨_,_,_,rfl,⟨(ht.base U5.size).up u7,by omega,rfl⟩,U7⟩
     | false=>
      rw[hopen] at kopen
      cases hmu:key l i kMu with
      | true=>
       rw[hmu] at kmu;have hlt:=zU hmu
       cases hN:nam B.nck l (i+1) with
       | none=>
        rw[hN] at cN;have HE:Hid (atomL B.nck B.long l i = .inr (i+1,6)):=Lib.hid (by rw[yK];unfold atomS;rw[hL];simp only[hint,hbool,hunit,hopen,hmu,hN,if_true,if_false,Bool.false_eq_true]);rw[HE.out];clear HE;clear hL hint hbool hunit hopen hmu hN k2 HQ HT HCC
        go_enter Tryz.func212,Tryz.ntmps212
        go_wp2_with fail;refine(cL w (Up.refl w)).mono ?_;rintro e w1 ⟨rfl,u1⟩;have U1:Up w w1:=u1;go_wp2_with fail;refine(kint w1 U1).mono ?_;rintro e w2 ⟨rfl,u2⟩;have U2:Up w w2:=Up.trans U1 u2;go_wp2_with fail;refine(kbool w2 U2).mono ?_;rintro e w3 ⟨rfl,u3⟩;have U3:Up w w3:=Up.trans U2 u3;go_wp2_with fail;refine(kunit w3 U3).mono ?_;rintro e w4 ⟨rfl,u4⟩;have U4:Up w w4:=Up.trans U3 u4;go_wp2_with fail;refine(kopen w4 U4).mono ?_;rintro e w5 ⟨rfl,u5⟩;have U5:Up w w5:=Up.trans U4 u5;go_wp2_with fail;refine(kmu w5 U5).mono ?_;rintro e w6 ⟨rfl,u6⟩;have U6:Up w w6:=Up.trans U5 u6;go_wp2_with fail;refine(cN w6 U6).mono ?_;rintro e w7 ⟨rfl,u7⟩;have U7:Up w w7:=Up.trans U6 u7;go_wp2_with fail
        go_ret3
        exact⟨_,_,_,rfl,⟨by omega,rfl,_,rfl⟩,U7⟩
       | some s=>
        rw[hN] at cN
        cases hF:key l (i+2) kLeft with
        | false=>
         rw[hF] at k2;have HE:Hid (atomL B.nck B.long l i = .inr (i+2,6)):=Lib.hid (by rw[yK];unfold atomS;rw[hL];simp only[hint,hbool,hunit,hopen,hmu,hN,hF,if_true,if_false,Bool.false_eq_true]);rw[HE.out];clear HE;clear hL hint hbool hunit hopen hmu hN hF HQ HT HCC
         go_enter Tryz.func212,Tryz.ntmps212
         go_wp2_with fail;refine(cL w (Up.refl w)).mono ?_;rintro e w1 ⟨rfl,u1⟩;have U1:Up w w1:=u1;go_wp2_with fail;refine(kint w1 U1).mono ?_;rintro e w2 ⟨rfl,u2⟩;have U2:Up w w2:=Up.trans U1 u2;go_wp2_with fail;refine(kbool w2 U2).mono ?_;rintro e w3 ⟨rfl,u3⟩;have U3:Up w w3:=Up.trans U2 u3;go_wp2_with fail;refine(kunit w3 U3).mono ?_;rintro e w4 ⟨rfl,u4⟩;have U4:Up w w4:=Up.trans U3 u4;go_wp2_with fail;refine(kopen w4 U4).mono ?_;rintro e w5 ⟨rfl,u5⟩;have U5:Up w w5:=Up.trans U4 u5;go_wp2_with fail;refine(kmu w5 U5).mono ?_;rintro e w6 ⟨rfl,u6⟩;have U6:Up w w6:=Up.trans U5 u6;go_wp2_with fail;refine(cN w6 U6).mono ?_;rintro e w7 ⟨rfl,u7⟩;have U7:Up w w7:=Up.trans U6 u7;go_wp2_with fail;refine(k2 w7 U7).mono ?_;rintro e w8 ⟨rfl,u8⟩;have U8:Up w w8:=Up.trans U7 u8;go_wp2_with fail
         go_ret3
         exact⟨_,_,_,rfl,⟨by omega,rfl,_,rfl⟩,U8⟩
        | true=>
         rw[hF] at k2;have hlt2:=zU hF;have cC1:=HCC.out (i+3) (by omega) (by omega);have hle:=dH (nk:=B.nck) (lg:=B.long) l (i+3) .nil (by omega)
         cases hC:consL B.nck B.long l (i+3) .nil with
         | inr e=>
          obtain⟨p,er⟩:=e;rw[hC] at hle cC1;have hne:¬er=0:=hle.2 p er rfl;have hpl:p<=l.length:=hle.1;have HE:Hid (atomL B.nck B.long l i = .inr (p,er)):=Lib.hid (by rw[yK];unfold atomS;rw[hL];simp only[hint,hbool,hunit,hopen,hmu,hN,hF,hC,if_true,if_false,Bool.false_eq_true]);rw[HE.out];clear HE;clear hL hint hbool hunit hopen hmu hN hF hC HQ HT HCC hle
          go_enter Tryz.func212,Tryz.ntmps212
          go_wp2_with fail;refine(cL w (Up.refl w)).mono ?_;rintro e w1 ⟨rfl,u1⟩;have U1:Up w w1:=u1;go_wp2_with fail;refine(kint w1 U1).mono ?_;rintro e w2 ⟨rfl,u2⟩;have U2:Up w w2:=Up.trans U1 u2;go_wp2_with fail;refine(kbool w2 U2).mono ?_;rintro e w3 ⟨rfl,u3⟩;have U3:Up w w3:=Up.trans U2 u3;go_wp2_with fail;refine(kunit w3 U3).mono ?_;rintro e w4 ⟨rfl,u4⟩;have U4:Up w w4:=Up.trans U3 u4;go_wp2_with fail;refine(kopen w4 U4).mono ?_;rintro e w5 ⟨rfl,u5⟩;have U5:Up w w5:=Up.trans U4 u5;go_wp2_with fail;refine(kmu w5 U5).mono ?_;rintro e w6 ⟨rfl,u6⟩;have U6:Up w w6:=Up.trans U5 u6;go_wp2_with fail;refine(cN w6 U6).mono ?_;rintro e w7 ⟨rfl,u7⟩;have U7:Up w w7:=Up.trans U6 u7;go_wp2_with fail;refine(k2 w7 U7).mono ?_;rintro e w8 ⟨rfl,u8⟩;have U8:Up w w8:=Up.trans U7 u8;go_wp2_with fail;refine(cC1 w8 U8).mono ?_;rintro e w9 ⟨va,ja,ea,rfl,⟨rfl,rfl,rfl⟩,u9⟩;have U9:Up w w9:=Up.trans U8 u9;go_wp2_with fail
          go_ret3
          exact⟨_,_,_,rfl,⟨by omega,rfl,_,rfl⟩,U9⟩
         | inl r=>
          obtain⟨cs,q⟩:=r;rw[hC] at hle cC1;have hql:q<=l.length:=hle.1;have kright:=HQ.out q xO
          cases hr:key l q xO with
          | false=>
           rw[hr] at kright;have HE:Hid (atomL B.nck B.long l i = .inr (q,6)):=Lib.hid (by rw[yK];unfold atomS;rw[hL];simp only[hint,hbool,hunit,hopen,hmu,hN,hF,hC,hr,if_true,if_false,Bool.false_eq_true]);rw[HE.out];clear HE;clear hL hint hbool hunit hopen hmu hN hF hC hr HQ HT HCC hle
           go_enter Tryz.func212,Tryz.ntmps212
           go_wp2_with fail;refine(cL w (Up.refl w)).mono ?_;rintro e w1 ⟨rfl,u1⟩;have U1:Up w w1:=u1;go_wp2_with fail;refine(kint w1 U1).mono ?_;rintro e w2 ⟨rfl,u2⟩;have U2:Up w w2:=Up.trans U1 u2;go_wp2_with fail;refine(kbool w2 U2).mono ?_;rintro e w3 ⟨rfl,u3⟩;have U3:Up w w3:=Up.trans U2 u3;go_wp2_with fail;refine(kunit w3 U3).mono ?_;rintro e w4 ⟨rfl,u4⟩;have U4:Up w w4:=Up.trans U3 u4;go_wp2_with fail;refine(kopen w4 U4).mono ?_;rintro e w5 ⟨rfl,u5⟩;have U5:Up w w5:=Up.trans U4 u5;go_wp2_with fail;refine(kmu w5 U5).mono ?_;rintro e w6 ⟨rfl,u6⟩;have U6:Up w w6:=Up.trans U5 u6;go_wp2_with fail;refine(cN w6 U6).mono ?_;rintro e w7 ⟨rfl,u7⟩;have U7:Up w w7:=Up.trans U6 u7;go_wp2_with fail;refine(k2 w7 U7).mono ?_;rintro e w8 ⟨rfl,u8⟩;have U8:Up w w8:=Up.trans U7 u8;go_wp2_with fail;refine(cC1 w8 U8).mono ?_;rintro e w9 ⟨va,ja,ea,rfl,⟨⟨g,c,rfl,hcl,hgl,h0,hcs⟩,rfl,rfl⟩,u9⟩;have U9:Up w w9:=Up.trans U8 u9;go_wp2_with fail;refine(kright w9 U9).mono ?_;rintro e w10 ⟨rfl,u10⟩;have U10:Up w w10:=Up.trans U9 u10;go_wp2_with fail
           go_ret3
           exact⟨_,_,_,rfl,⟨by omega,rfl,_,rfl⟩,U10⟩
          | true=>
           rw[hr] at kright;have HE:Hid (atomL B.nck B.long l i = .inl (nd 7 s cs,q+1)):=Lib.hid (by rw[yK];unfold atomS;rw[hL];simp only[hint,hbool,hunit,hopen,hmu,hN,hF,hC,hr,if_true,if_false,Bool.false_eq_true]);rw[HE.out];clear HE;clear hL hint hbool hunit hopen hmu hN hF hC hr HQ HT HCC hle
           go_enter Tryz.func212,Tryz.ntmps212
           go_wp2_with fail;refine(cL w (Up.refl w)).mono ?_;rintro e w1 ⟨rfl,u1⟩;have U1:Up w w1:=u1;go_wp2_with fail;refine(kint w1 U1).mono ?_;rintro e w2 ⟨rfl,u2⟩;have U2:Up w w2:=Up.trans U1 u2;go_wp2_with fail;refine(kbool w2 U2).mono ?_;rintro e w3 ⟨rfl,u3⟩;have U3:Up w w3:=Up.trans U2 u3;go_wp2_with fail;refine(kunit w3 U3).mono ?_;rintro e w4 ⟨rfl,u4⟩;have U4:Up w w4:=Up.trans U3 u4;go_wp2_with fail;refine(kopen w4 U4).mono ?_;rintro e w5 ⟨rfl,u5⟩;have U5:Up w w5:=Up.trans U4 u5;go_wp2_with fail;refine(kmu w5 U5).mono ?_;rintro e w6 ⟨rfl,u6⟩;have U6:Up w w6:=Up.trans U5 u6;go_wp2_with fail;refine(cN w6 U6).mono ?_;rintro e w7 ⟨rfl,u7⟩;have U7:Up w w7:=Up.trans U6 u7;go_wp2_with fail;refine(k2 w7 U7).mono ?_;rintro e w8 ⟨rfl,u8⟩;have U8:Up w w8:=Up.trans U7 u8;go_wp2_with fail;refine(cC1 w8 U8).mono ?_;rintro e w9 ⟨va,ja,ea,rfl,⟨⟨g,c,rfl,hcl,hgl,h0,hcs⟩,rfl,rfl⟩,u9⟩;have U9:Up w w9:=Up.trans U8 u9;go_wp2_with fail;refine(kright w9 U9).mono ?_;rintro e w10 ⟨rfl,u10⟩;have U10:Up w w10:=Up.trans U9 u10;go_wp2_with fail;have hcs2:=zTq U8.size u10 hgl hcs;refine(zC 7 s _ _ _ _).mono ?_;rintro e w9 ⟨rfl,rfl⟩;go_wp2_with fail
           go_ret3
           exact⟨_,_,_,rfl,⟨zCx U10.size rfl hcl hcs2,by omega,rfl⟩,U10.alloc _⟩
      | false=>
       rw[hmu] at kmu;have HE:Hid (atomL B.nck B.long l i = .inr (i,6)):=Lib.hid (by rw[yK];unfold atomS;rw[hL];simp only[hint,hbool,hunit,hopen,hmu,if_false,Bool.false_eq_true]);rw[HE.out];clear HE;clear hL hint hbool hunit hopen hmu cN k2 HQ HT HCC
       go_enter Tryz.func212,Tryz.ntmps212
       go_wp2_with fail;refine(cL w (Up.refl w)).mono ?_;rintro e w1 ⟨rfl,u1⟩;have U1:Up w w1:=u1;go_wp2_with fail;refine(kint w1 U1).mono ?_;rintro e w2 ⟨rfl,u2⟩;have U2:Up w w2:=Up.trans U1 u2;go_wp2_with fail;refine(kbool w2 U2).mono ?_;rintro e w3 ⟨rfl,u3⟩;have U3:Up w w3:=Up.trans U2 u3;go_wp2_with fail;refine(kunit w3 U3).mono ?_;rintro e w4 ⟨rfl,u4⟩;have U4:Up w w4:=Up.trans U3 u4;go_wp2_with fail;refine(kopen w4 U4).mono ?_;rintro e w5 ⟨rfl,u5⟩;have U5:Up w w5:=Up.trans U4 u5;go_wp2_with fail;refine(kmu w5 U5).mono ?_;rintro e w6 ⟨rfl,u6⟩;have U6:Up w w6:=Up.trans U5 u6;go_wp2_with fail
       go_ret3
       exact⟨_,_,_,rfl,⟨by omega,rfl,_,rfl⟩,U6⟩
theorem zYr:∀{f:Fr} {j:Nat} {t:Tr} {s:ByteArray},f.get j=some t->t.1.a=s->hasN f s=true
 | .nil,j,t,s,h,_=>by cases j<;>cases h
 | .cons x k r,0,t,s,h,e=>by injection h with h;subst h;unfold hasN;rw[decide_eq_true e];rfl
 | .cons x k r,j+1,t,s,h,e=>by
  have h:r.get j=some t:=h;unfold hasN;rw[zYr h e,Bool.or_true]
theorem zYs:∀{f:Fr} {s:ByteArray},(∀(j:Nat) (t:Tr),f.get j=some t->¬t.1.a=s)->hasN f s=false
 | .nil,_,_=>rfl
 | .cons x k r,s,h=>by
  unfold hasN;rw[decide_eq_false (h 0 (x,k) rfl),zYs fun j t hj=>h (j+1) t hj]
  rfl
theorem CoSt.up {W a b:World} {vo:Value} {acc:Fr} {ps:List Value} (h:CoSt W a vo acc ps) (u:Up a b):CoSt W b vo acc ps:=
 ⟨zWl h.own u,PtF.keep (fun _ hq=>⟨⟨hq.1.1,Nat.lt_of_lt_of_le hq.1.2 u.size⟩,hq.2⟩) (fun q hq=>Below.block u q hq.1.2) h.kids⟩
theorem CoSt.start (W wr:World):CoSt W wr (.slice none 0 0) .nil []:=⟨World.ownsRow_nil _ _ _ _,trivial⟩
theorem zGy {W w:World} {vt:Value} {t:Tr} {s:ByteArray} (hW:W.heap.size<=w.heap.size) (ht:NewT W w vt t) :
  NewT W ((w.alloc (.cells #[vt] 24)).alloc (.cells #[.int .i64 8,.int .i64 0,.string s,.string ⟨#[]⟩,.slice (some ⟨w.heap.size,0,none⟩) 1 1] 44)) (.pointer (some ⟨w.heap.size+1,0,none⟩)) (nd 8 s (fr1 t)):=by
 have e1:(w.alloc (.cells #[vt] 24)).heap.size=w.heap.size+1:=by simp
 rw[<- e1];obtain⟨W1,hW1⟩:∃W1,w.alloc (.cells #[vt] 24)=W1:=⟨_,rfl⟩;have s1:W1.heap[w.heap.size]? = some (.cells #[vt] 24 (0,0)):=by rw[<- hW1];exact heap_alloc_new w _
 have u1:Up w W1:=by rw[<- hW1];exact(Up.refl w).alloc _
 have z1:=u1.size;rw[hW1];obtain⟨W2,hW2⟩:∃W2,W1.alloc (.cells #[.int .i64 8,.int .i64 0,.string s,.string ⟨#[]⟩,.slice (some ⟨w.heap.size,0,none⟩) 1 1] 44)=W2:=⟨_,rfl⟩;have s2:W2.heap[W1.heap.size]? = some (.cells #[.int .i64 8,.int .i64 0,.string s,.string ⟨#[]⟩,.slice (some ⟨w.heap.size,0,none⟩) 1 1] 44 (0,0)):=by rw[<- hW2];exact heap_alloc_new W1 _
 have u2:Up W1 W2:=by rw[<- hW2];exact(Up.refl W1).alloc _
 have s3:W2.heap[w.heap.size]? = some (.cells #[vt] 24 (0,0)):=u2.row s1;rw[hW2];exact zR (x:=⟨8,0,s,nob⟩) (f:=fr1 t) s2 rfl (Nat.le_refl _) ⟨by omega,qC s2⟩ ⟨hW,qC s3⟩ ⟨⟨_,cell_of_row W2 w.heap.size 0 _ _ _ s3,ht.up (u1.trans u2)⟩,trivial⟩
theorem CoSt.more {W wr w5 w6:World} {vo v6 vc:Value} {acc:Fr} {ps:List Value} {t:Tr} {g cap n:Nat} (h:CoSt W wr vo acc ps) (u:Up wr w5) (hn:acc.len=n) (hlt:∀g,vo.ownBlock=some g->W.heap.size<=g/\g<wr.heap.size) (hW:W.heap.size<=wr.heap.size)
  (ht:NewT wr w5 vc t) (hv:v6 = .slice (some ⟨g,0,none⟩) (n+1) cap) (ho:w6.ownsRow W.heap.size 24 1 v6 (n+1) (ps++[vc])) (hg:w5.grownBy w6 vo.ownBlock) (hat:vo.ownBlock=some g\/g=w5.heap.size) :
  CoSt W w6 v6 (acc.app (fr1 t)) (ps++[vc]):=by
 have hz:=hg.size;have hu:=u.size;have hob:v6.ownBlock=some g:=by rw[hv];rfl
 have hgn:∀q,q<w5.heap.size->vo.ownBlock≠some q->v6.ownBlock≠some q:=fun q hq hne e=>by
  rw[hob] at e;injection e with e
  rcases hat with h1 | h1
  ·rw[e] at h1;exact hne h1
  ·omega
 have kp:∀q,q<w5.heap.size->vo.ownBlock≠some q->w6.heap[q]? = w5.heap[q]?:=fun q hq hne=>hg.block q hq fun e=>hne e.symm
 refine⟨?_,?_⟩
 ·rw[Fr.len_app]
  show w6.ownsRow _ _ 1 v6 (acc.len+1) _
  rw[hn];exact ho
 ·refine PtF.snoc (t:=t) ?_ (PtF.keep (fun q hq=>⟨⟨hq.1.1,by have:=hq.1.2;omega⟩,hgn q (by have:=hq.1.2;omega) hq.2⟩) (fun q hq=>(kp q (by have:=hq.1.2;omega) hq.2).trans (Below.block u q hq.1.2)) h.kids)
  have hne:∀q,NewS wr w5 q->vo.ownBlock≠some q:=fun q hq e=>by have:=(hlt q e).2;have:=hq.1;omega
  exact InT.keep ht (fun q hq=>⟨⟨by have:=hq.1;omega,by have:=hq.2;omega⟩,hgn q hq.2 (hne q hq)⟩) fun q hq=>kp q hq.2 (hne q hq)
theorem CoSt.done {W wr:World} {vo:Value} {acc:Fr} {ps:List Value} (h:CoSt W wr vo acc ps) (h0:0<acc.len):∃g c,vo = .slice (some ⟨g,0,none⟩) acc.len c/\acc.len<=c/\NewS W wr g/\0<acc.len/\InF wr (NewS W wr) acc g 0:=by
 obtain⟨A,c,hv,hc,hlt,hcell⟩:=h.form;obtain⟨g,rfl,hcs⟩:=hcell h0;refine⟨g,c,hv,hc,hlt g (by rw[hv];rfl),h0,?_⟩;exact PtF.row (PtF.keep (fun _ hq=>hq.1) (fun _ _=>rfl) h.kids) hcs
theorem PtF.kidC {w:World} {S:Nat->Prop}:∀{vs:List Value} {f:Fr} {m:Nat} {t:Tr},PtF w S vs f->f.get m=some t->∃v,vs[m]? = some v/\InT w S v t
 | [],.nil,m,_,_,hg=>by cases m<;>cases hg
 | v::_,.cons _ _ _,0,_,h,hg=>by injection hg with hg;subst hg;exact⟨v,rfl,h.1⟩
 | _::vs,.cons _ _ r,m+1,_,h,hg=>PtF.kidC (vs:=vs) (f:=r) (m:=m) h.2 hg
def conW (w4:World) (vt:Value) (s:ByteArray):World:=((w4.alloc (.cells #[vt] 24)).alloc (.cells #[.int .i64 8,.int .i64 0,.string s,.string ⟨#[]⟩,.slice (some ⟨w4.heap.size,0,none⟩) 1 1] 44)).alloc (.cells #[.pointer (some ⟨w4.heap.size+1,0,none⟩)] 24)
theorem zTr (w4:World) (vt:Value) (s:ByteArray):Up w4 (conW w4 vt s):=(((Up.refl w4).alloc _).alloc _).alloc _
theorem zQ9 (w4:World) (vt:Value) (s:ByteArray):(conW w4 vt s).heap.size=w4.heap.size+3:=by unfold conW;simp
theorem zK9 {wr w4:World} {vt:Value} {s:ByteArray} {t:Tr} (h:NewT wr w4 vt t) (hw:wr.heap.size<=w4.heap.size):NewT wr (conW w4 vt s) (.pointer (some ⟨w4.heap.size+1,0,none⟩)) (nd 8 s (fr1 t)):=
 (zGy hw h).up ((Up.refl _).alloc _)
theorem zQa (w4:World) (vt:Value) (s:ByteArray):∀j u,[Value.pointer (some ⟨w4.heap.size+1,0,none⟩)][j]? = some u->(conW w4 vt s).cell? ((⟨w4.heap.size+2,0,none⟩:Addr).add j)=some u:=by
 intro j u hj;have e:((w4.alloc (.cells #[vt] 24)).alloc (.cells #[.int .i64 8,.int .i64 0,.string s,.string ⟨#[]⟩,.slice (some ⟨w4.heap.size,0,none⟩) 1 1] 44)).heap.size=w4.heap.size+2:=by simp
 have h:=cell_one_new ((w4.alloc (.cells #[vt] 24)).alloc (.cells #[.int .i64 8,.int .i64 0,.string s,.string ⟨#[]⟩,.slice (some ⟨w4.heap.size,0,none⟩) 1 1] 44)) (.pointer (some ⟨w4.heap.size+1,0,none⟩)) 24 j u hj;rw[e] at h;exact h
theorem zKa (l:List Tk) (i:Nat) (hi:i<=l.length) (hl:l.length<=1000000) (hz:∀t∈l,t.s.size<=1000000000) (w:World) (v:Value) (hv:Tkm w v l)
  (cT:∀j,i<j->j<=l.length->∀w',Up w w'->Calls Tryz.prog 160 #[v,.int .i64 (j:Int)] w' (qJ (typL B.nck B.long l j) w')) :
  Calls Tryz.prog 125 #[v,.int .i64 (i:Int)] w (fR (consL B.nck B.long l i .nil) w):=by
 have HV:=Lib.hid hv;have HT:=Lib.hid cT;have cN:∀(k:Nat) W,Up w W->Calls Tryz.prog 71 #[v,.int .i64 (k:Int)] W (NaP (nam B.nck l k) W):=fun k W u=>by rw[<- bV];exact vF l k W v (hv.up u) hz
 have cK:∀(k:Nat) (x:ByteArray) W,Up w W->Calls Tryz.prog 41 #[v,.int .i64 (k:Int),.string x] W (BoU (key l k x) W):=fun k x W u=>by rw[<- yN];exact kZ l k x W v (hv.up u)
 have CN:=Lib.hid cN;have CK:=Lib.hid cK;clear hv cT hz cN cK
 go_enter Tryz.func125,Tryz.ntmps125
 go_wp2_with fail
 go_loopw [1,7,8,9,10,11,12,13] (fun iv vo _ _ _ _ _ _ wr=>∃(k:Nat) (acc:Fr) (ps:List Value),iv = .int .i64 (k:Int)/\i<=k/\k<=l.length/\consL B.nck B.long l i .nil=consL B.nck B.long l k acc/\acc.len<=k/\CoSt w wr vo acc ps/\Up w wr) (fun iv _ _ _ _ _ _ _ _=>l.length-(intOf iv).toNat)
 case atStart=>exact⟨i,.nil,[],rfl,Nat.le_refl _,hi,rfl,Nat.zero_le _,CoSt.start _ _,Up.refl _⟩
 case round=>
  obtain⟨k,acc,ps,rfl,hik,hkl,hE,hak,hst,hu⟩:=hrel;obtain⟨A,c,rfl,hc,hlt,hcell⟩:=hst.form;have cN1:=CN.out k;have HST:=Lib.hid hst;have HU:=Lib.hid hu;have HE:=Lib.hid hE;have HC:=Lib.hid hcell;have HLT:=Lib.hid hlt;obtain⟨n,hn⟩:∃n,acc.len=n:=⟨_,rfl⟩;rw[hn] at hc hak ⊢;have HN:=Lib.hid hn;clear hst hE hcell hlt hn
  cases hN:nam B.nck l k with
  | none=>
   rw[hN] at cN1;have HR:Hid (consL B.nck B.long l i .nil = .inr (k,6)):=Lib.hid (by rw[HE.out,vZ];unfold consS;rw[hN]);clear hN;go_wp2_with fail;refine(cN1 _ hu).mono ?_;rintro e w2 ⟨rfl,u2⟩;go_wp2_with fail
   go_ret3
   rw[HR.out];exact⟨_,_,_,rfl,⟨rfl,rfl,rfl⟩,Up.trans hu u2⟩
  | some s=>
   rw[hN] at cN1;have HNM:=Lib.hid hN;clear hN;go_wp2_with fail;refine(cN1 _ hu).mono ?_;rintro e w2 ⟨rfl,u2⟩;have U2:Up w w2:=Up.trans hu u2;have HST2:=Lib.hid (HST.out.up u2);have HU12:=Lib.hid u2;clear cN1 hu u2;go_wp2_with fail
   go_loopw [10] (fun kv w3=>∃j:Nat,j<=n/\kv = .int .i64 (j:Int)/\w3=w2/\∀(j':Nat) (t:Tr),j'<j->acc.get j'=some t->¬t.1.a=s) (fun kv _=>n-(intOf kv).toNat)
   case atStart=>exact⟨0,Nat.zero_le _,rfl,rfl,fun j' t hj=>absurd hj (Nat.not_lt_zero _)⟩
   case round=>
    obtain⟨j,hj,rfl,rfl,hall⟩:=hrel;have HALL:=Lib.hid hall;clear hall
    by_cases hjn:j<n
    ·obtain⟨⟨x,f⟩,ht⟩:=Fr.get_some (f:=acc) (i:=j) (by rw[HN.out];exact hjn)
     obtain⟨g,rfl,hcs⟩:=HC.out (by rw[HN.out];omega);obtain⟨pv,hpv,hint⟩:=PtF.kidC HST2.out.kids ht;obtain⟨q,p,A',c',rfl,hq,c0,c1,c2,c3,c4,hcc,hkid⟩:=InT.open hint;have hck:=HU12.out.cell (hcs j _ hpv);rw[Nat.zero_add] at hck;have hjz:(j:Int)<(n:Int):=by omega
     clear hint hkid hcs hpv c0 c1 c3 c4 hcc hq
     by_cases e:x.a=s
     ·have hb:(x.a.toList==s.toList)=true:=by rw[dG,decide_eq_true e]
      have HR:Hid (consL B.nck B.long l i .nil = .inr (k,9)):=Lib.hid (by rw[HE.out,vZ];unfold consS;rw[HNM.out];simp only[zYr ht e,if_true]);clear ht;go_wp2_with fail
      go_ret3
      rw[HR.out];exact⟨_,_,_,rfl,⟨rfl,rfl,rfl⟩,U2⟩
     ·have hb:(x.a.toList==s.toList)=false:=by rw[dG,decide_eq_false e]
      have HX:Hid (acc.get j=some (x,f)):=Lib.hid ht;clear ht;go_wp2_with fail
      go_roundw
      case rel=>exact⟨j+1,by omega,by go_num,by trivial,fun j' t hj' ht'=>by
       rcases Nat.lt_succ_iff_lt_or_eq.1 hj' with h | h
       ·exact HALL.out j' t h ht'
       ·rw[h,HX.out] at ht'
        injection ht' with ht';rw[<- ht'];exact e⟩
      case measure=>simp[intOf];omega
    ·have hjn:j=n:=by omega
     have hno:hasN acc s=false:=zYs fun j' t ht=>HALL.out j' t (by have:=Fr.get_lt ht;rw[HN.out] at this;omega) ht
     have HNO:=Lib.hid hno;subst hjn;have k1:∀W,Up w W->Calls Tryz.prog 41 #[v,.int .i64 ((k:Int)+1),.string kOf] W (BoU (key l (k+1) kOf) W):=fun W u=>by
      have h:=CK.out (k+1) kOf W u;rw[show((k+1:Nat):Int)=(k:Int)+1 by omega] at h;exact h
     clear hno
     cases hO:key l (k+1) kOf with
     | false=>
      rw[hO] at k1;have HR:Hid (consL B.nck B.long l i .nil = .inr (k+1,6)):=Lib.hid (by rw[HE.out,vZ];unfold consS;rw[HNM.out];simp only[HNO.out,hO,if_false,Bool.false_eq_true]);clear hO;go_wp2_with fail;refine(k1 _ U2).mono ?_;rintro e w3 ⟨rfl,u3⟩;go_wp2_with fail
      go_ret3
      rw[HR.out];exact⟨_,_,_,rfl,⟨by omega,rfl,rfl⟩,Up.trans U2 u3⟩
     | true=>
      rw[hO] at k1;have hlt1:=zU hO;have cT1:∀W,Up w W->Calls Tryz.prog 160 #[v,.int .i64 ((k:Int)+2)] W (qJ (typL B.nck B.long l (k+2)) W):=fun W u=>by
       have h:=HT.out (k+2) (by omega) (by omega) W u;rw[show((k+2:Nat):Int)=(k:Int)+2 by omega] at h;exact h
      have hle:=wU (nk:=B.nck) (lg:=B.long) l (k+2) (by omega);have hah:=wR (nk:=B.nck) (lg:=B.long) l (k+2)
      cases hT:typL B.nck B.long l (k+2) with
      | inr e=>
       obtain⟨p,er⟩:=e;rw[hT] at hle cT1;have hne:¬er=0:=hle.2 p er rfl;have HR:Hid (consL B.nck B.long l i .nil = .inr (p,er)):=Lib.hid (by rw[HE.out,vZ];unfold consS;rw[HNM.out];simp only[HNO.out,hO,hT,if_true,if_false,Bool.false_eq_true]);clear hO hT hle hah;go_wp2_with fail;refine(k1 _ U2).mono ?_;rintro e w3 ⟨rfl,u3⟩;go_wp2_with fail;refine(cT1 _ (Up.trans U2 u3)).mono ?_;rintro e w4 ⟨va,ja,ea,rfl,⟨rfl,rfl,A1,rfl⟩,u4⟩;go_wp2_with fail
       go_ret3
       rw[HR.out];exact⟨_,_,_,rfl,⟨rfl,rfl,rfl⟩,Up.trans (Up.trans U2 u3) u4⟩
      | inl r=>
       obtain⟨t,q⟩:=r;rw[hT] at hle cT1 hah;have hql:q<=l.length:=hle.1;have hkq:k+2<q:=hah;have HS:Hid (consL B.nck B.long l i .nil=if key l q kBar then consL B.nck B.long l (q+1) (acc.app (fr1 (nd 8 s (fr1 t)))) else .inl (acc.app (fr1 (nd 8 s (fr1 t))),q)):=Lib.hid (by rw[HE.out,vZ];unfold consS;rw[HNM.out];simp only[HNO.out,hO,hT,if_true,if_false,Bool.false_eq_true]);have kb:=CK.out q kBar;obtain⟨i0,hi0,hz0,hz1,hz2⟩:=info_parts nI;clear hO hT hle hah;go_wp2_with fail;refine(k1 _ U2).mono ?_;rintro e w3 ⟨rfl,u3⟩;go_wp2_with fail;refine(cT1 _ (Up.trans U2 u3)).mono ?_;rintro e w4 ⟨va,ja,ea,rfl,⟨h4,rfl,rfl⟩,u4⟩;obtain⟨q1,o1,rfl⟩:=InT.ptr h4;go_wp2_with fail;refine(zC 8 s _ _ _ _).mono ?_;rintro e w5 ⟨rfl,rfl⟩;have hst5:=HST2.out.up ((u3.trans u4).trans (zTr w4 (.pointer (some ⟨q1,o1,none⟩)) s));have ho5:=hst5.own;rw[HN.out] at ho5;have hc5:=zQa w4 (.pointer (some ⟨q1,o1,none⟩)) s;have hz5:=zQ9 w4 (.pointer (some ⟨q1,o1,none⟩)) s;have HO5:=Lib.hid ho5;have HC5:=Lib.hid hc5;have HW5:Hid (w.heap.size<=(conW w4 (.pointer (some ⟨q1,o1,none⟩)) s).heap.size):=Lib.hid (by have h1:=U2.size;have h2:=u3.size;have h3:=u4.size;omega);clear ho5 hc5 hst5 k1 cT1
       go_wp2_with (at_builtin;refine wpList_append_lies _ rfl _ _ 33 rfl w.heap.size 24 i0 _ 1 8 Tryz.underlying33 hi0 hz0 hz1 hz2 rfl (by omega) (.slice A j c) j ps rfl HO5.out ⟨w4.heap.size+2,0,none⟩ 1 1 [.pointer (some ⟨w4.heap.size+1,0,none⟩)] rfl rfl HC5.out (by intro u hu;rw[List.mem_singleton.1 hu];rfl) (by omega) (by unfold maxLen;omega) (by omega) HW5.out (w4.heap.size+3) hz5 ?_;intro g6 cap6 w6 ho6 hg6 hat6 hlt6)
       have hst2:=HST2.out;rw[HN.out] at hst2;have hlt2:∀g,(Value.slice A j c).ownBlock=some g->w.heap.size<=g/\g<wr.heap.size:=World.ownsRow.lt hst2.own;have hu5:Up wr (conW w4 (.pointer (some ⟨q1,o1,none⟩)) s):=(u3.trans u4).trans (zTr w4 (.pointer (some ⟨q1,o1,none⟩)) s);have hst6:=hst2.more hu5 HN.out hlt2 U2.size (zK9 (h4.base u3.size) (u3.trans u4).size) rfl ho6 hg6 (by rw[hz5];exact hat6);have U6:Up w w6:=(Up.trans U2 hu5).grown hg6 HW5.out fun g hg=>(hlt2 g hg).1
       have hln:(acc.app (fr1 (nd 8 s (fr1 t)))).len=j+1:=by rw[Fr.len_app,HN.out];rfl
       have HST6:=Lib.hid hst6;have HLN:=Lib.hid hln;have kb6:=kb w6 U6;clear hst2 hlt2 hst6 hln ho6 hg6 hat6 kb
       cases hB:key l q kBar with
       | false=>
        rw[hB] at kb6;have HR:Hid (consL B.nck B.long l i .nil = .inl (acc.app (fr1 (nd 8 s (fr1 t))),q)):=Lib.hid (by rw[HS.out,hB];rfl);clear hB;refine kb6.mono ?_;rintro e w7 ⟨rfl,u7⟩;go_wp2_with fail
        go_ret3
        rw[HR.out];exact⟨_,_,_,rfl,⟨by have h:=(HST6.out.up u7).done (by rw[HLN.out];omega);rw[HLN.out] at h ⊢;exact h,rfl,rfl⟩,Up.trans U6 u7⟩
       | true=>
        rw[hB] at kb6;have hq2:=zU hB;have HR:Hid (consL B.nck B.long l i .nil=consL B.nck B.long l (q+1) (acc.app (fr1 (nd 8 s (fr1 t))))):=Lib.hid (by rw[HS.out,hB];rfl);clear hB;refine kb6.mono ?_;rintro e w7 ⟨rfl,u7⟩;go_wp2_with fail;exact⟨⟨q+1,_,_,yS (by omega),by omega,by omega,HR.out,by rw[HLN.out];omega,HST6.out.up u7,Up.trans U6 u7⟩,by simp[intOf];omega⟩
theorem uP (l:List Tk) (hl:l.length<=1000000) (hz:∀t∈l,t.s.size<=1000000000):∀(d i:Nat),l.length-i<=d->i<=l.length->∀(w:World) (v:Value),Tkm w v l->
  Calls Tryz.prog 160 #[v,.int .i64 (i:Int)] w (qJ (typL B.nck B.long l i) w)/\Calls Tryz.prog 125 #[v,.int .i64 (i:Int)] w (fR (consL B.nck B.long l i .nil) w)
 | d,i,hd,hi,w,v,hv=>by
  have ih:∀j,i<j->j<=l.length->∀(w':World),Up w w'->Calls Tryz.prog 160 #[v,.int .i64 (j:Int)] w' (qJ (typL B.nck B.long l j) w')/\Calls Tryz.prog 125 #[v,.int .i64 (j:Int)] w' (fR (consL B.nck B.long l j .nil) w'):=fun j hij hjl w' u=>by
   cases d with
   | zero=>omega
   | succ d=>exact uP l hl hz d j (by omega) hjl w' v (hv.up u)
  have cT:=fun j hij hjl w' u=>(ih j hij hjl w' u).1
  have cC:=fun j hij hjl w' u=>(ih j hij hjl w' u).2
  have pr:∀(e j:Nat),l.length-j<=e->i<=j->j<=l.length->∀w',Up w w'->Calls Tryz.prog 183 #[v,.int .i64 (j:Int)] w' (qJ (prodL B.nck B.long l j) w'):=by
   intro e
   induction e with
   | zero=>
    intro j hj hij hjl w' u;exact tR l j hjl hl w' v (hv.up u) (fun w2 u2=>zYq l j hjl hl hz w2 v (hv.up (u.trans u2)) (fun j2 h1 h2 w3 u3=>cT j2 (by omega) h2 w3 ((u.trans u2).trans u3)) (fun j2 h1 h2 w3 u3=>cC j2 (by omega) h2 w3 ((u.trans u2).trans u3))) (fun j2 h1 h2 _ _=>by omega)
   | succ e ihe=>
    intro j hj hij hjl w' u;exact tR l j hjl hl w' v (hv.up u) (fun w2 u2=>zYq l j hjl hl hz w2 v (hv.up (u.trans u2)) (fun j2 h1 h2 w3 u3=>cT j2 (by omega) h2 w3 ((u.trans u2).trans u3)) (fun j2 h1 h2 w3 u3=>cC j2 (by omega) h2 w3 ((u.trans u2).trans u3))) (fun j2 h1 h2 w3 u3=>ihe j2 (by omega) (by omega) h2 w3 (u.trans u3))
  exact⟨zGx l i hi hl w v hv (fun w' u=>pr _ i (Nat.le_refl _) (Nat.le_refl _) hi w' u) cT,zKa l i hi hl hz w v hv cT⟩
 termination_by d=>d
section
variable (nk lg:ByteArray->Bool)
end
theorem zTs (l:List Tk) (i:Int) (hl:l.length<=1000000) (hz:∀t∈l,t.s.size<=1000000000) (w:World) (v:Value) (hv:Tkm w v l) :
  Calls Tryz.prog 126 #[v,.int .i64 i] w (yO (typZ B.nck B.long l i) w):=by
 have HV:=Lib.hid hv;have HZ:=Lib.hid hz;obtain⟨A,c,rfl,-⟩:=hv;obtain⟨n,hn⟩:∃n,l.length=n:=⟨_,rfl⟩;have HN:=Lib.hid hn
 by_cases h0:i<0
 ·have HR:Hid (typZ B.nck B.long l i = .inr (0,2)):=Lib.hid (by unfold typZ;rw[if_pos (.inl h0)])
  rw[HR.out]
  go_enter Tryz.func126,Tryz.ntmps126
  go_wp2_with fail
  go_ret3
  exact⟨_,_,_,rfl,⟨rfl,rfl,rfl⟩,Up.refl _⟩
 ·by_cases h1:(n:Int)<i
  ·have HR:Hid (typZ B.nck B.long l i = .inr (0,2)):=Lib.hid (by unfold typZ;rw[if_pos (.inr (by rw[hn];exact h1))])
   rw[HR.out];rw[hn]
   go_enter Tryz.func126,Tryz.ntmps126
   go_wp2_with fail
   go_ret3
   exact⟨_,_,_,rfl,⟨rfl,rfl,rfl⟩,Up.refl _⟩
  ·obtain⟨k,rfl⟩:=Int.eq_ofNat_of_zero_le (by omega:0<=i)
   have hkn:k<=l.length:=by omega
   have HR:Hid (typZ B.nck B.long l (k:Int)=typL B.nck B.long l k):=Lib.hid (by unfold typZ;rw[if_neg (by rw[hn];omega),Int.toNat_natCast]);rw[HR.out];have cT:=(uP l hl HZ.out _ k (Nat.le_refl _) hkn w _ HV.out).1;have hle:=wU (nk:=B.nck) (lg:=B.long) l k hkn;rw[hn] at cT ⊢;clear hz hn
   cases hT:typL B.nck B.long l k with
   | inr e=>
    obtain⟨p,er⟩:=e;rw[hT] at hle cT;have hne:¬er=0:=hle.2 p er rfl;clear hT hle
    go_enter Tryz.func126,Tryz.ntmps126
    go_wp2_with fail;refine cT.mono ?_;rintro e w1 ⟨va,ja,ea,rfl,⟨rfl,rfl,A1,rfl⟩,u1⟩;go_wp2_with fail
    go_ret3
    exact⟨_,_,_,rfl,⟨rfl,rfl,rfl⟩,u1⟩
   | inl r=>
    obtain⟨t,q⟩:=r;rw[hT] at cT;clear hT hle
    go_enter Tryz.func126,Tryz.ntmps126
    go_wp2_with fail;refine cT.mono ?_;rintro e w1 ⟨va,ja,ea,rfl,⟨h1,rfl,rfl⟩,u1⟩;go_wp2_with fail
    go_ret3
    exact⟨_,_,_,rfl,⟨h1,rfl,rfl⟩,u1⟩
theorem zGz (l:List Tk) (i:Int) (hl:l.length<=1000000) (hz:∀t∈l,t.s.size<=1000000000) (w:World) (v:Value) (hv:Tkm w v l) :
  Calls Tryz.prog 81 #[v,.int .i64 i] w (fR (consZ B.nck B.long l i) w):=by
 have HV:=Lib.hid hv;have HZ:=Lib.hid hz;obtain⟨A,c,rfl,-⟩:=hv;obtain⟨n,hn⟩:∃n,l.length=n:=⟨_,rfl⟩
 by_cases h0:i<0
 ·have HR:Hid (consZ B.nck B.long l i = .inr (0,2)):=Lib.hid (by unfold consZ;rw[if_pos (.inl h0)])
  rw[HR.out]
  go_enter Tryz.func81,Tryz.ntmps81
  go_wp2_with fail
  go_ret3
  exact⟨_,_,_,rfl,⟨rfl,rfl,rfl⟩,Up.refl _⟩
 ·by_cases h1:(n:Int)<i
  ·have HR:Hid (consZ B.nck B.long l i = .inr (0,2)):=Lib.hid (by unfold consZ;rw[if_pos (.inr (by rw[hn];exact h1))])
   rw[HR.out];rw[hn]
   go_enter Tryz.func81,Tryz.ntmps81
   go_wp2_with fail
   go_ret3
   exact⟨_,_,_,rfl,⟨rfl,rfl,rfl⟩,Up.refl _⟩
  ·obtain⟨k,rfl⟩:=Int.eq_ofNat_of_zero_le (by omega:0<=i)
   have hkn:k<=l.length:=by omega
   have HR:Hid (consZ B.nck B.long l (k:Int)=consL B.nck B.long l k .nil):=Lib.hid (by unfold consZ;rw[if_neg (by rw[hn];omega),Int.toNat_natCast]);rw[HR.out];have cC:=(uP l hl HZ.out _ k (Nat.le_refl _) hkn w _ HV.out).2;rw[hn] at cC ⊢;clear hz hn
   go_enter Tryz.func81,Tryz.ntmps81
   go_wp2_with fail;refine cC.mono ?_;rintro e w1 ⟨va,ja,ea,rfl,hR,u1⟩;go_wp2_with fail
   go_ret3
   exact⟨_,_,_,rfl,hR,u1⟩
def TxS (w:World) (v:Value) (ks:List ByteArray):Prop:=∃A c,v = .slice A ks.length c/\∀(j:Nat) (s:ByteArray),ks[j]? = some s->∃b o,A=some ⟨b,o,none⟩/\w.cell? ⟨b,o+j,none⟩=some (.string s)
theorem TxS.up {W w:World} {v:Value} {l:List ByteArray} (h:TxS W v l) (u:Up W w):TxS w v l:=by
 obtain⟨A,c,rfl,h⟩:=h;refine⟨A,c,rfl,fun j t ht=>?_⟩;obtain⟨b,o,h1,h2⟩:=h j t ht;exact⟨b,o,h1,u.cell h2⟩
theorem TxS.nil (w:World):TxS w (.slice none 0 0) []:=⟨none,0,rfl,fun j s h=>by cases h⟩
def KeV (R:Rs Unit) (j e:Int):Prop:=match R with
 | .inl (_,q)=>j=(q:Int)/\e=0
 | .inr (p,r)=>j=(p:Int)/\e=r
def KeP (R:Rs Unit) (w:World) (e:Ending) (w':World):Prop:=∃j er,e = .returned (.tuple #[.int .i64 j,.int .i64 er])/\KeV R j er/\Up w w'
theorem zVe {l:List Tk} {ks:List ByteArray} {k i:Nat} {s:ByteArray} (hs:ks[k]? = some s):keysL l i (ks.drop k)=if key l i s then keysL l (i+1) (ks.drop (k+1)) else .inr (i,6):=by
 obtain⟨hk,hs⟩:=List.getElem?_eq_some_iff.1 hs;rw[List.drop_eq_getElem_cons hk,hs,keysL]
theorem fH (l:List Te) (i:Nat) (hi:i<=l.length) (hl:l.length<=1000000) (ks:List ByteArray) (w:World) (v vk:Value) (hv:Tke w v l) (hk:TxS w vk ks) :
  Calls Tryz.prog 69 #[v,.int .i64 (i:Int),vk] w (KeP (keysL (tks l) i ks) w):=by
 have HV:=Lib.hid hv;have HKS:=Lib.hid hk;obtain⟨A,c,rfl,hkc⟩:=hk;obtain⟨n,hn⟩:∃n,ks.length=n:=⟨_,rfl⟩;have HN:=Lib.hid hn;have HC:=Lib.hid hkc;obtain⟨R,hR⟩:∃R,keysL (tks l) i ks=R:=⟨_,rfl⟩;have HR:=Lib.hid hR;rw[hR,hn];clear hkc hR hn hv
 go_enter Tryz.func69,Tryz.ntmps69
 go_wp2_with fail
 go_loopw [1,8] (fun x y wr=>∃k:Nat,k<=n/\x = .int .i64 ((i+k:Nat):Int)/\y = .int .i64 (k:Int)/\i+k<=l.length/\R=keysL (tks l) (i+k) (ks.drop k)/\Up w wr) (fun _ y _=>n+1-(intOf y).toNat)
 case atStart=>exact⟨0,Nat.zero_le _,rfl,rfl,hi,HR.out.symm,Up.refl _⟩
 case round=>
  obtain⟨k,hk,rfl,rfl,hik,hRk,hur⟩:=hrel;have HUR:=Lib.hid hur
  by_cases hlt:k<n
  ·have hkz:(k:Int)<(n:Int):=by omega
   obtain⟨s,hs⟩:∃s,ks[k]? = some s:=⟨_,List.getElem?_eq_getElem (by rw[HN.out];exact hlt)⟩;obtain⟨b,o,rfl,hcell⟩:=HC.out k s hs;have kc:wr.cell? ⟨b,o+k,none⟩=some (.string s):=hur.cell hcell;have cK:=kZ (tks l) ((i+k:Nat):Int) s wr v (HV.out.up hur).tkm;have ez:keyZ (tks l) ((i+k:Nat):Int) s=key (tks l) (i+k) s:=by unfold keyZ;rw[decide_eq_true (by omega),Int.toNat_natCast,Bool.true_and]
   rw[ez] at cK;rw[zVe hs] at hRk
   cases hb:key (tks l) (i+k) s with
   | false=>
    rw[hb] at cK hRk;have HRK:=Lib.hid hRk;clear hRk hs hcell hb ez hur;go_wp2_with fail;refine cK.mono ?_;rintro e w1 ⟨rfl,u1⟩;go_wp2_with fail
    go_ret2
    refine⟨_,_,rfl,?_,HUR.out.trans u1⟩;rw[HRK.out];exact⟨rfl,rfl⟩
   | true=>
    rw[hb] at cK hRk;have hlt2:i+k<l.length:=qG hb;have HRK:=Lib.hid hRk;have hw1:IntKind.i64.wrap (((i+k:Nat):Int)+1)=((i+(k+1):Nat):Int):=by rw[IntKind.wrap_i64]<;>omega
    have hw2:IntKind.i64.wrap ((k:Int)+1)=((k+1:Nat):Int):=by rw[IntKind.wrap_i64]<;>omega
    clear hRk hs hcell hb ez hur;go_wp2_with fail;refine cK.mono ?_;rintro e w1 ⟨rfl,u1⟩;go_wp2_with fail
    go_roundw
    case rel=>exact⟨k+1,by omega,by first | rfl | rw[hw1],by first | rfl | rw[hw2],by omega,by rw[HRK.out];rfl,HUR.out.trans u1⟩
    case measure=>first | (simp[intOf];omega) | simp[intOf]
  ·obtain rfl:k=n:=by omega
   have hkz:¬(k:Int)<(k:Int):=by omega
   have hRe:R = .inl ((),i+k):=by rw[hRk,List.drop_of_length_le (by rw[HN.out];exact Nat.le_refl _)];rfl
   have HRE:=Lib.hid hRe;clear hRk hRe hur;go_wp2_with fail
   go_ret2
   refine⟨_,_,rfl,?_,HUR.out⟩;rw[HRE.out];exact⟨rfl,rfl⟩
end Go.Proofs.YtgeghilbikljcaaGreatDoor
