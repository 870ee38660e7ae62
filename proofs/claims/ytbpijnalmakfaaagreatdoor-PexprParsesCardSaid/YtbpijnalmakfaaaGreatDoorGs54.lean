/-
  The document's expr, whole; Expr: any tokens from any place on.
-/
import Derived.Test.YtbpijnalmakfaaaGreatDoorGs53
set_option maxHeartbeats 40000000
set_option maxRecDepth 100000
namespace Go.Proofs.YtbpijnalmakfaaaGreatDoor
open Go.RowKit
theorem yZx {l:List Te} {N:Nat} {A E:Nat→Rs Tr} {M:Nat→Fr→Rs Fr} {i:Nat} {w:World} {v:Value} (H:zWt l E i w v) (hk:key (tks l) i kFn=true)
  (cL:∀W,Up w W→Calls Tryz.prog 58 #[v,.int .i64 ((i+1:Nat):Int)] W (qO (lamS B.nck B.long l E (i+1)) W)) :
  Calls Tryz.prog 27 #[v,.int .i64 (i:Int)] w (qO (exprS B.nck B.long l N A E M i) w):=by
 have hil:=H.hi;have hll:=H.hl;have k0:=H.key i kFn;rw[hk] at k0;have hR:exprS B.nck B.long l N A E M i=lamS B.nck B.long l E (i+1):=by unfold exprS;rw[if_pos hk]
 rw[hR];have hw1:=qS i 1 (by omega) (by omega);obtain⟨R,hRe⟩:∃R,lamS B.nck B.long l E (i+1)=R:=⟨_,rfl⟩;rw[hRe] at cL ⊢;clear hR hk hRe
 go_enter Tryz.func27,Tryz.ntmps27
 go_wp2_with fail;refine(k0 w (Up.refl w)).mono ?_;rintro e w1 ⟨rfl,u1⟩;go_wp2_with fail;refine(cL w1 u1).mono ?_;rintro e w2 ⟨va,q,er,rfl,hV,u2⟩;go_wp2_with fail
 go_ret3
 refine⟨_,_,_,rfl,?_,u1.trans u2⟩
 cases R with
 | inr r=>exact hV
 | inl r=>exact⟨hV.1.base u1.size,hV.2⟩
theorem zDl {l:List Te} {N:Nat} {A E:Nat→Rs Tr} {M:Nat→Fr→Rs Fr} {i:Nat} {w:World} {v:Value} (hv:Tke w v l) (h0:key (tks l) i kFn=false) (h1:key (tks l) i kLet=false) (h2:key (tks l) i kIf=false) (h3:key (tks l) i kCase=false) (h4:key (tks l) i kFold=false)
  (cC:∀W,Up w W→Calls Tryz.prog 64 #[v,.int .i64 (i:Int)] W (qO (cmpS B.long l N A i) W)) :
  Calls Tryz.prog 27 #[v,.int .i64 (i:Int)] w (qO (exprS B.nck B.long l N A E M i) w):=by
 have cK:∀(j:Nat) (x:ByteArray) (W:World),Up w W→Calls Tryz.prog 57 #[v,.int .i64 (j:Int),.string x] W (BoU (key (tks l) j x) W):=fun j x W u=>by rw[←xE];exact vL (tks l) j x W v (hv.up u).tkm
 have k0:=cK i kFn;have k1:=cK i kLet;have k2:=cK i kIf;have k3:=cK i kCase;have k4:=cK i kFold;have hR:exprS B.nck B.long l N A E M i=cmpS B.long l N A i:=by unfold exprS;rw[h0,h1,h2,h3,h4];rfl
 rw[hR];rw[h0] at k0;rw[h1] at k1;rw[h2] at k2;rw[h3] at k3;rw[h4] at k4;obtain⟨R,hRe⟩:∃R,cmpS B.long l N A i=R:=⟨_,rfl⟩;rw[hRe] at cC ⊢;clear hR hRe cK h0 h1 h2 h3 h4 hv
 go_enter Tryz.func27,Tryz.ntmps27
 go_wp2_with fail;refine(k0 w (Up.refl w)).mono ?_;rintro e w1 ⟨rfl,u1⟩;go_wp2_with fail;refine(k1 w1 u1).mono ?_;rintro e w2 ⟨rfl,u2⟩;have U2:=u1.trans u2;go_wp2_with fail;refine(k2 w2 U2).mono ?_;rintro e w3 ⟨rfl,u3⟩;have U3:=U2.trans u3;go_wp2_with fail;refine(k3 w3 U3).mono ?_;rintro e w4 ⟨rfl,u4⟩;have U4:=U3.trans u4;go_wp2_with fail;refine(k4 w4 U4).mono ?_;rintro e w5 ⟨rfl,u5⟩;have U5:=U4.trans u5;go_wp2_with fail;refine(cC w5 U5).mono ?_;rintro e w6 ⟨va,q,er,rfl,hV,u6⟩;go_wp2_with fail
 go_ret3
 refine⟨_,_,_,rfl,?_,U5.trans u6⟩
 cases R with
 | inr r=>exact hV
 | inl r=>exact⟨hV.1.base U5.size,hV.2⟩
theorem zQl {l:List Te} {n i:Nat} (hi:i<l.length) (hl:l.length≤1000000) (hz:∀t∈l,t.t.s.size≤1000000000) {w:World} {v:Value} (hv:Tke w v l) (cE:∀j,i<j→j≤l.length→ExAt l (exprF B.nck B.long l n) 27 j):zWt l (exprF B.nck B.long l n) i w v where
 hi:=hi
 hl:=hl
 inE:=fun j hj=>xR hj
 key:=fun j x W u=>by rw[←xE];exact vL (tks l) j x W v (hv.up u).tkm
 name:=fun j ks W vk u h=>zDa l j hl hz ks W v vk (hv.up u) h
 keys:=fun j ks W vk hj u h=>lZ l j hj hl ks W v vk (hv.up u) h
 typ:=fun j ks W vk hj u h=>yT2 l j hj hl hz ks W v vk (hv.up u) h
 sub:=fun j ks W vk hij hj u h=>yT1 l _ (fun j hj=>xR hj) j hj hl (cE j hij hj) ks W v vk (hv.up u) h
 expr:=fun j W hij hj u=>cE j hij hj W v (hv.up u)
theorem zS4 (l:List Te) (hl:l.length≤1000000) (hz:∀t∈l,t.t.s.size≤1000000000):∀(n m:Nat),m≤n→
  (∀i,i≤l.length→2*(l.length-i)+2≤m→ExAt l (exprF B.nck B.long l m) 27 i)∧(∀i,i≤l.length→2*(l.length-i)+1≤m→ExAt l (qL B.nck B.long l m) 228 i)
 | _,0,_=>⟨fun i _ h=>by omega,fun i _ h=>by omega⟩
 | 0,m+1,h=>by omega
 | n+1,m+1,hm=>by
  have ih:=zS4 l hl hz n;obtain⟨hE,hA⟩:=ih m (by omega);have inA:∀j,j≤l.length→In l.length j (qL B.nck B.long l m j):=(rU m).2.1;refine⟨fun i hi hn w v hv=>?_,fun i hi hn w v hv=>?_⟩
  ·rw[kZ]
   have cE:i<l.length→∀j,i<j→j≤l.length→ExAt l (exprF B.nck B.long l m) 27 j:=fun hlt j hij hj=>hE j hj (by omega)
   have cM:i<l.length→ArmsC l (armsF B.nck B.long l m) i w v:=fun hlt j W hij hj u=>yZw l m j (by omega) hj hl hz W v (hv.up u) fun m' j' W' hm' hb hj' u'=>(ih m' (by omega)).1 j' hj' hb W' v ((hv.up u).up u')
   cases h0:key (tks l) i kFn with
   | true=>
    have hlt:=qH h0;have H:=zQl (n:=m) hlt hl hz hv (cE hlt);exact yZx H h0 fun W u=>yT3 (zQl (n:=m) hlt hl hz (hv.up u) (cE hlt))
   | false=>
    cases h1:key (tks l) i kLet with
    | true=>exact zDb (zQl (n:=m) (qH h1) hl hz hv (cE (qH h1))) h1
    | false=>
     cases h2:key (tks l) i kIf with
     | true=>exact yZp (zQl (n:=m) (qH h2) hl hz hv (cE (qH h2))) h2
     | false=>
      cases h3:key (tks l) i kCase with
      | true=>exact zKz (zQl (n:=m) (qH h3) hl hz hv (cE (qH h3))) (cM (qH h3)) h3
      | false=>
       cases h4:key (tks l) i kFold with
       | true=>exact zJ0 (zQl (n:=m) (qH h4) hl hz hv (cE (qH h4))) (cM (qH h4)) h4
       | false=>
        refine zDl hv h0 h1 h2 h3 h4 fun W u=>?_
        refine yT6 l _ (m+1) i hi hl (fun j hj=>tO inA hj) W v (hv.up u) fun j W1 hij hj u1=>?_
        refine yT5 l _ (m+1) j hj hl (by omega) (fun j hj=>aI inA hj) W1 v ((hv.up u).up u1) fun j2 W2 hij2 hj2 u2=>?_
        refine yZr l _ (m+1) j2 hj2 hl (by omega) (fun j hj=>aH inA hj) W2 v (((hv.up u).up u1).up u2) fun j3 W3 hij3 hj3 u3=>?_
        refine yT4 l _ (m+1) j3 hj3 (by omega) hz inA W3 v ((((hv.up u).up u1).up u2).up u3) fun j4 W4 hij4 hj4 u4=>?_
        exact hA j4 hj4 (by omega) W4 v (((((hv.up u).up u1).up u2).up u3).up u4)
  ·rw[zO]
   cases h:hdE B.long l i with
   | no=>exact yZu l _ _ i hz w v hv h
   | num x=>exact zDd l _ _ i hl hz w v hv x h
   | var x=>exact zDe l _ _ i hl hz w v hv x h
   | boo x=>
    have hx:=zE3 h;have:x=0∨x=1:=by omega
    rcases this with rfl | rfl
    ·exact zDg l _ _ i hl hz w v hv h
    ·exact zDf l _ _ i hl hz w v hv h
   | sel k=>
    have hlt:i<l.length:=jV (lg:=B.long) (by rw[h];rfl)
    rcases zE4 h with rfl | rfl
    ·exact zDh l _ _ i hl hz w v hv (fun j W hij hj u=>hA j hj (by omega) W v (hv.up u)) h
    ·exact zDi l _ _ i hl hz w v hv (fun j W hij hj u=>hA j hj (by omega) W v (hv.up u)) h
   | opn=>
    have hlt:i<l.length:=jV (lg:=B.long) (by rw[h];rfl);have H:=zQl (n:=m) hlt hl hz hv fun j hij hj=>hE j hj (by omega)
    cases hk:key (tks l) (i+1) kShut with
    | true=>exact zKw l _ _ i hl hz w v hv H h hk
    | false=>exact zDj l _ _ i hl hz w v hv H h hk
theorem yZy (l:List Te) (i:Int) (hl:l.length≤1000000) (hz:∀t∈l,t.t.s.size≤1000000000) (m:Nat) (hm:2*l.length+2≤m) (w:World) (v:Value) (hv:Tke w v l) :
  Calls Tryz.prog 11 #[v,.int .i64 i] w (mH (expZ B.nck B.long l m i) w):=by
 have HV:=Lib.hid hv;have HZ:=Lib.hid hz;obtain⟨G,c,rfl,-⟩:=hv;obtain⟨n,hn⟩:∃n,l.length=n:=⟨_,rfl⟩;have HN:=Lib.hid hn
 by_cases h0:i<0
 ·have HR:Hid (expZ B.nck B.long l m i = .inr (0,2)):=Lib.hid (by unfold expZ;rw[if_pos (.inl h0)])
  rw[HR.out]
  go_enter Tryz.func11,Tryz.ntmps11
  go_wp2_with fail
  go_ret3
  exact⟨_,_,_,rfl,⟨rfl,rfl,rfl⟩,Up.refl _⟩
 ·by_cases h1:(n:Int)<i
  ·have HR:Hid (expZ B.nck B.long l m i = .inr (0,2)):=Lib.hid (by unfold expZ;rw[if_pos (.inr (by rw[hn];exact h1))])
   rw[HR.out];rw[hn]
   go_enter Tryz.func11,Tryz.ntmps11
   go_wp2_with fail
   go_ret3
   exact⟨_,_,_,rfl,⟨rfl,rfl,rfl⟩,Up.refl _⟩
  ·obtain⟨k,rfl⟩:=Int.eq_ofNat_of_zero_le (by omega:0≤i)
   have hkn:k≤l.length:=by omega
   have HR:Hid (expZ B.nck B.long l m (k:Int)=exprF B.nck B.long l m k):=Lib.hid (by unfold expZ;rw[if_neg (by rw[hn];omega),Int.toNat_natCast]);rw[HR.out];have cT:=(zS4 l hl HZ.out m m (Nat.le_refl _)).1 k hkn (by omega) w _ HV.out;have hin:=xR (nk:=B.nck) (lg:=B.long) (l:=l) (n:=m) hkn;obtain⟨R,hRe⟩:∃R,exprF B.nck B.long l m k=R:=⟨_,rfl⟩;rw[hRe] at cT hin ⊢;rw[hn] at cT ⊢;clear hz hn hRe
   cases R with
   | inr e=>
    obtain⟨p,er⟩:=e;have hne:¬er=0:=hin.ne rfl;clear hin
    go_enter Tryz.func11,Tryz.ntmps11
    go_wp2_with fail;refine cT.mono ?_;rintro e w1 ⟨va,ja,ea,rfl,⟨rfl,rfl,A1,rfl⟩,u1⟩;go_wp2_with fail
    go_ret3
    exact⟨_,_,_,rfl,⟨rfl,rfl,rfl⟩,u1⟩
   | inl r=>
    obtain⟨t,q⟩:=r;clear hin
    go_enter Tryz.func11,Tryz.ntmps11
    go_wp2_with fail;refine cT.mono ?_;rintro e w1 ⟨va,ja,ea,rfl,⟨h1,rfl,rfl⟩,u1⟩;go_wp2_with fail
    go_ret3
    exact⟨_,_,_,rfl,⟨h1,rfl,rfl⟩,u1⟩
theorem zQm (P:PxAll) (l:List B.RTok) (i:Int) (hl:l.length≤9223372036854775807) (hz:∀t∈l,t.s.size≤9223372036854775807) (w:World) (v:Value) (hx:Vx7 w) (hv:Tkr w v l) :
  Calls Tryz.prog 3 #[v,.int .i64 i] w (BoP true w):=by
 have cF:=zWa l hz w w v hv (Up.refl _) hl;have HX:=Lib.hid hx;clear hx hz hl hv
 go_enter Tryz.func3,Tryz.ntmps3
 go_wp2_with fail;refine cF.mono ?_;rintro e w1 ⟨v1,rfl,h1,u1⟩;have ht:Tke w1 v1 (fewE l):=h1.tke;have hlen:=lS l;have hts:∀t∈fewE l,t.t.s.size≤1000000000:=fun t h=>by have:=aZ l t h;omega
 obtain⟨M,hM⟩:∃M,2*(fewE l).length+2≤M:=⟨_,Nat.le_refl _⟩;have cT:=P.expr (fewE l) i (by omega) hts M hM w1 v1 (HX.out.up u1) ht;have HR:Hid (∀W,Up w1 W→Calls Tryz.prog 11 #[v1,.int .i64 i] W (mH (expZ B.nck B.long (fewE l) M i) W)):=Lib.hid fun W u=>yZy (fewE l) i (by omega) hts M hM W v1 (ht.up u)
 have HS:Hid (∀t j,expZ B.nck B.long (fewE l) M i = .inl (t,j)→szT t≤160):=Lib.hid fun t j h=>by have:=(zW7 h).1;omega
 obtain⟨R,hRe⟩:∃R,expZ B.nck B.long (fewE l) M i=R:=⟨_,rfl⟩;rw[hRe] at cT HR HS;have U1:=Lib.hid u1;clear u1 h1 hts cF hM ht hlen hRe;go_wp2_with fail;refine cT.mono ?_;rintro e w2 ⟨v2,j2,e2,rfl,hv2,u2⟩;have HV2:=Lib.hid hv2;have cR:=HR.out w2 u2;have U2:=Lib.hid (U1.out.trans u2);clear u2 hv2 cT;go_wp2_with fail;refine cR.mono ?_;rintro e w3 ⟨v3,j3,e3,rfl,hv3,u3⟩;have U3:=Lib.hid (U2.out.trans u3);have hv2:=HV2.out
 cases R with
 | inr x=>
  obtain⟨rfl,rfl,rfl⟩:=hv2;obtain⟨rfl,rfl,rfl⟩:=hv3;have cS:=rSame none none (W:=w3) (w:=w3) (v:=.pointer none) (v':=.pointer none) rfl rfl (by show(0:Nat)≤65536;omega) true (by simp) (Up.refl _);clear u3 cR;go_wp2_with fail;refine cS.mono ?_;rintro e w4 ⟨rfl,u4⟩;have cW:=wC P HX.out (U3.out.trans u4);clear u4 cS;go_wp2_with fail;refine cW.mono ?_;rintro e w5 ⟨rfl,u5⟩;go_wp2_with fail
  go_ret
  exact qU rfl u5
 | inl x=>
  obtain⟨t,q⟩:=x;have hts:=HS.out t q rfl;obtain⟨n2,rfl,rfl⟩:=hv2;obtain⟨n3,rfl,rfl⟩:=hv3;have cS:=rSame (some t) (some t) (n2.has.up u3) n3.has (by show szT t≤65536;omega) true (by simp) (Up.refl _);clear u3 cR n2 n3 hts;go_wp2_with fail;refine cS.mono ?_;rintro e w4 ⟨rfl,u4⟩;have cW:=wC P HX.out (U3.out.trans u4);clear u4 cS;go_wp2_with fail;refine cW.mono ?_;rintro e w5 ⟨rfl,u5⟩;go_wp2_with fail
  go_ret
  exact qU rfl u5
section
variable {nk lg:ByteArray→Bool}
end
end Go.Proofs.YtbpijnalmakfaaaGreatDoor
