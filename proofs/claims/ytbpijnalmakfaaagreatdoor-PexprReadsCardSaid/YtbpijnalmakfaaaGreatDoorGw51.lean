/-
  The document's expr where case, fold stand.
-/
import Derived.Test.YtbpijnalmakfaaaGreatDoorGw12
import Derived.Test.YtbpijnalmakfaaaGreatDoorGw30
import Derived.Test.YtbpijnalmakfaaaGreatDoorGw50
set_option maxHeartbeats 40000000
set_option maxRecDepth 100000
namespace Go.Proofs.YtbpijnalmakfaaaGreatDoor
open Go.RowKit
theorem zJ9 {l:List Te} {N:Nat} {A E:Nat→Rs Tr} {M:Nat→Fr→Rs Fr} {i:Nat} {w:World} {v:Value} (H:zVb l E i w v) (cM:ArmsC l M i w v) (hk:key (tks l) i kCase=true) :
  Calls Tryz.prog 27 #[v,.int .i64 (i:Int)] w (qN (exprS B.nck B.long l N A E M i) w):=by
 have hil:=H.hi;have hll:=H.hl;have k0:=H.key i kFn;have k1:=H.key i kLet;have k2:=H.key i kIf;have k3:=H.key i kCase;rw[yF hk (by decide)] at k0;rw[yF hk (by decide)] at k1;rw[yF hk (by decide)] at k2;rw[hk] at k3;have hR:exprS B.nck B.long l N A E M i=caseS l E M (i+1):=by unfold exprS;rw[if_neg (by rw[yF hk (by decide)];decide),if_neg (by rw[yF hk (by decide)];decide),if_neg (by rw[yF hk (by decide)];decide),if_pos hk]
 rw[hR];have hw1:=qV i 1 (by omega) (by omega);obtain⟨R,hRe⟩:∃R,caseS l E M (i+1)=R:=⟨_,rfl⟩;rw[hRe];have HR:=Lib.hid hRe;clear hR hk hRe
 go_enter Tryz.func27,Tryz.ntmps27
 go_wp2_with fail;refine(k0 w (Up.refl w)).mono ?_;rintro e x0 ⟨rfl,u0⟩;have V0:=u0;go_wp2_with fail;refine(k1 x0 V0).mono ?_;rintro e x1 ⟨rfl,u1⟩;have V1:=V0.trans u1;go_wp2_with fail;refine(k2 x1 V1).mono ?_;rintro e x2 ⟨rfl,u2⟩;have V2:=V1.trans u2;go_wp2_with fail;refine(k3 x2 V2).mono ?_;rintro e x3 ⟨rfl,u3⟩;have V3:=V2.trans u3;have c0:=fun W vk u h=>H.sub (i+1) [kOf] W vk (Nat.lt_succ_self i) hil u h
 have a0:=qT (ks:=[kOf]) (H.inE (i+1) hil);obtain⟨R0,hR0⟩:∃R0,thenK (tks l) (E (i+1)) [kOf]=R0:=⟨_,rfl⟩;rw[hR0] at c0 a0;have HR0:=Lib.hid hR0;clear hR0;go_wp2_with fail;refine(c0 _ _ (V3.alloc _) (TxS.row1 x3 kOf _)).mono ?_;rintro e w1 ⟨v0,j0,e0,rfl,hV,z0⟩;have U1:Up w w1:=(V3.alloc _).trans z0
 cases R0 with
 | inr r=>
  obtain⟨p,er⟩:=r;obtain⟨rfl,rfl,A1,rfl⟩:=hV;have hne:=a0.ne rfl;go_wp2_with fail
  go_ret3
  rw[show R = .inr (p,e0) from by rw[←HR.out];unfold caseS;rw[HR0.out];rfl];exact⟨_,_,_,rfl,⟨rfl,rfl,none,rfl⟩,U1⟩
 | inl r=>
  obtain⟨t0,q0⟩:=r;obtain⟨h0,rfl,rfl⟩:=hV;obtain⟨o0,p0,rfl⟩:=InT.ptr h0;have hq0:i+1<q0∧q0≤l.length:=a0;clear c0 a0;have c1:=fun W u=>cM q0 W (by omega) hq0.2 u
  obtain⟨R1,hR1⟩:∃R1,M q0 .nil=R1:=⟨_,rfl⟩;rw[hR1] at c1;have HR1:=Lib.hid hR1;clear hR1;go_wp2_with fail;refine(c1 _ U1).mono ?_;rintro e w2 ⟨v1,f1,j1,e1,rfl,hK,hV,z1⟩;have U2:Up w w2:=U1.trans z1;obtain⟨v9,w9,g9,c9,r9,rfl,hc9,hg9,hf9,y9⟩:=zSn #[.pointer (some ⟨o0,p0,none⟩)] (n:=1) rfl (by decide) (W:=w) (w:=w2) (f0:=fr1 t0) U2.size (⟨h0.from (V3.alloc _) (((Up.refl _).trans z1)),trivial⟩) (KidsV.from hK U1);have HF9:=Lib.hid hf9;clear hf9
  go_wp2_with (at_builtin;refine aB _ _ _ rfl rfl rfl rfl r9 ?_)
  refine(yE 32 nob _ _ _ _).mono ?_;rintro e w8 ⟨rfl,rfl⟩;go_wp2_with fail
  go_ret3
  have hRR:R=thn R1 fun k m=>.inl (nd 32 nob (.cons t0.1 t0.2 k),m):=by rw[←HR.out];unfold caseS;rw[HR0.out];show thn (M q0 .nil) _=_;rw[HR1.out]
  rw[hRR];refine⟨_,_,_,rfl,?_,(U2.trans y9).alloc _⟩
  cases R1 with
  | inr r=>exact⟨hV.1,hV.2,_,rfl⟩
  | inl r=>
   obtain⟨rfl,h2,h3⟩:=hV;exact⟨zYz (by simp only[Fr.len];omega) hc9 hg9 HF9.out (U2.trans y9).size,h2,h3⟩
theorem zJa {l:List Te} {N:Nat} {A E:Nat→Rs Tr} {M:Nat→Fr→Rs Fr} {i:Nat} {w:World} {v:Value} (H:zVb l E i w v) (cM:ArmsC l M i w v) (hk:key (tks l) i kFold=true) :
  Calls Tryz.prog 27 #[v,.int .i64 (i:Int)] w (qN (exprS B.nck B.long l N A E M i) w):=by
 have hil:=H.hi;have hll:=H.hl;have k0:=H.key i kFn;have k1:=H.key i kLet;have k2:=H.key i kIf;have k3:=H.key i kCase;have k4:=H.key i kFold;rw[yF hk (by decide)] at k0;rw[yF hk (by decide)] at k1;rw[yF hk (by decide)] at k2;rw[yF hk (by decide)] at k3;rw[hk] at k4;have hR:exprS B.nck B.long l N A E M i=foldS B.nck B.long l E M (i+1):=by unfold exprS;rw[if_neg (by rw[yF hk (by decide)];decide),if_neg (by rw[yF hk (by decide)];decide),if_neg (by rw[yF hk (by decide)];decide),if_neg (by rw[yF hk (by decide)];decide),if_pos hk]
 rw[hR];have hw1:=qV i 1 (by omega) (by omega);obtain⟨R,hRe⟩:∃R,foldS B.nck B.long l E M (i+1)=R:=⟨_,rfl⟩;rw[hRe];have HR:=Lib.hid hRe;clear hR hk hRe
 go_enter Tryz.func27,Tryz.ntmps27
 go_wp2_with fail;refine(k0 w (Up.refl w)).mono ?_;rintro e x0 ⟨rfl,u0⟩;have V0:=u0;go_wp2_with fail;refine(k1 x0 V0).mono ?_;rintro e x1 ⟨rfl,u1⟩;have V1:=V0.trans u1;go_wp2_with fail;refine(k2 x1 V1).mono ?_;rintro e x2 ⟨rfl,u2⟩;have V2:=V1.trans u2;go_wp2_with fail;refine(k3 x2 V2).mono ?_;rintro e x3 ⟨rfl,u3⟩;have V3:=V2.trans u3;go_wp2_with fail;refine(k4 x3 V3).mono ?_;rintro e x4 ⟨rfl,u4⟩;have V4:=V3.trans u4;have c0:=fun W vk u h=>H.sub (i+1) [kTo] W vk (Nat.lt_succ_self i) hil u h
 have a0:=qT (ks:=[kTo]) (H.inE (i+1) hil);obtain⟨R0,hR0⟩:∃R0,thenK (tks l) (E (i+1)) [kTo]=R0:=⟨_,rfl⟩;rw[hR0] at c0 a0;have HR0:=Lib.hid hR0;clear hR0;go_wp2_with fail;refine(c0 _ _ (V4.alloc _) (TxS.row1 x4 kTo _)).mono ?_;rintro e w1 ⟨v0,j0,e0,rfl,hV,z0⟩;have U1:Up w w1:=(V4.alloc _).trans z0
 cases R0 with
 | inr r=>
  obtain⟨p,er⟩:=r;obtain⟨rfl,rfl,A1,rfl⟩:=hV;have hne:=a0.ne rfl;go_wp2_with fail
  go_ret3
  rw[show R = .inr (p,e0) from by rw[←HR.out];unfold foldS;rw[HR0.out];rfl];exact⟨_,_,_,rfl,⟨rfl,rfl,none,rfl⟩,U1⟩
 | inl r=>
  obtain⟨t0,q0⟩:=r;obtain⟨h0,rfl,rfl⟩:=hV;obtain⟨o0,p0,rfl⟩:=InT.ptr h0;have hq0:i+1<q0∧q0≤l.length:=a0;clear c0 a0;have c1:=fun W vk u h=>H.typ q0 [kOf] W vk hq0.2 u h
  have a1:=qT (ks:=[kOf]) (xQ (nk:=B.nck) (lg:=B.long) hq0.2);obtain⟨R1,hR1⟩:∃R1,thenK (tks l) (typL B.nck B.long (tks l) q0) [kOf]=R1:=⟨_,rfl⟩;rw[hR1] at c1 a1;have HR1:=Lib.hid hR1;clear hR1;go_wp2_with fail;refine(c1 _ _ (U1.alloc _) (TxS.row1 w1 kOf _)).mono ?_;rintro e w2 ⟨v1,j1,e1,rfl,hV,z1⟩;have U2:Up w w2:=(U1.alloc _).trans z1
  cases R1 with
  | inr r=>
   obtain⟨p,er⟩:=r;obtain⟨rfl,rfl,A1,rfl⟩:=hV;have hne:=a1.ne rfl;go_wp2_with fail
   go_ret3
   rw[show R = .inr (p,e1) from by rw[←HR.out];unfold foldS;rw[HR0.out];show thn (thenK (tks l) (typL B.nck B.long (tks l) q0) [kOf]) _=_;rw[HR1.out];rfl];exact⟨_,_,_,rfl,⟨rfl,rfl,none,rfl⟩,U2⟩
  | inl r=>
   obtain⟨t1,q1⟩:=r;obtain⟨h1,rfl,rfl⟩:=hV;obtain⟨o1,p1,rfl⟩:=InT.ptr h1;have hq1:q0<q1∧q1≤l.length:=a1;clear c1 a1;have c2:=fun W u=>cM q1 W (by omega) hq1.2 u
   obtain⟨R2,hR2⟩:∃R2,M q1 .nil=R2:=⟨_,rfl⟩;rw[hR2] at c2;have HR2:=Lib.hid hR2;clear hR2;go_wp2_with fail;refine(c2 _ U2).mono ?_;rintro e w3 ⟨v2,f2,j2,e2,rfl,hK,hV,z2⟩;have U3:Up w w3:=U2.trans z2;obtain⟨v9,w9,g9,c9,r9,rfl,hc9,hg9,hf9,y9⟩:=zSn #[.pointer (some ⟨o0,p0,none⟩),.pointer (some ⟨o1,p1,none⟩)] (n:=2) rfl (by decide) (W:=w) (w:=w3) (f0:=fr2 t0 t1) U3.size (⟨h0.from (V4.alloc _) (((((Up.refl _).alloc _).trans z1).trans z2)),h1.from (U1.alloc _) (((Up.refl _).trans z2)),trivial⟩) (KidsV.from hK U2);have HF9:=Lib.hid hf9;clear hf9
   go_wp2_with (at_builtin;refine aB _ _ _ rfl rfl rfl rfl r9 ?_)
   refine(yE 33 nob _ _ _ _).mono ?_;rintro e w8 ⟨rfl,rfl⟩;go_wp2_with fail
   go_ret3
   have hRR:R=thn R2 fun k m=>.inl (nd 33 nob (.cons t0.1 t0.2 (.cons t1.1 t1.2 k)),m):=by rw[←HR.out];unfold foldS;rw[HR0.out];show thn (thenK (tks l) (typL B.nck B.long (tks l) q0) [kOf]) _=_;rw[HR1.out];show thn (M q1 .nil) _=_;rw[HR2.out]
   rw[hRR];refine⟨_,_,_,rfl,?_,(U3.trans y9).alloc _⟩
   cases R2 with
   | inr r=>exact⟨hV.1,hV.2,_,rfl⟩
   | inl r=>
    obtain⟨rfl,h2,h3⟩:=hV;exact⟨zYz (by simp only[Fr.len];omega) hc9 hg9 HF9.out (U3.trans y9).size,h2,h3⟩
theorem yYc {l:List Te} {N:Nat} {A E:Nat→Rs Tr} {M:Nat→Fr→Rs Fr} {i:Nat} {w:World} {v:Value} (H:zVb l E i w v) (hk:key (tks l) i kFn=true)
  (cL:∀W,Up w W→Calls Tryz.prog 58 #[v,.int .i64 ((i+1:Nat):Int)] W (qN (lamS B.nck B.long l E (i+1)) W)) :
  Calls Tryz.prog 27 #[v,.int .i64 (i:Int)] w (qN (exprS B.nck B.long l N A E M i) w):=by
 have hil:=H.hi;have hll:=H.hl;have k0:=H.key i kFn;rw[hk] at k0;have hR:exprS B.nck B.long l N A E M i=lamS B.nck B.long l E (i+1):=by unfold exprS;rw[if_pos hk]
 rw[hR];have hw1:=qV i 1 (by omega) (by omega);obtain⟨R,hRe⟩:∃R,lamS B.nck B.long l E (i+1)=R:=⟨_,rfl⟩;rw[hRe] at cL ⊢;clear hR hk hRe
 go_enter Tryz.func27,Tryz.ntmps27
 go_wp2_with fail;refine(k0 w (Up.refl w)).mono ?_;rintro e w1 ⟨rfl,u1⟩;go_wp2_with fail;refine(cL w1 u1).mono ?_;rintro e w2 ⟨va,q,er,rfl,hV,u2⟩;go_wp2_with fail
 go_ret3
 refine⟨_,_,_,rfl,?_,u1.trans u2⟩
 cases R with
 | inr r=>exact hV
 | inl r=>exact⟨hV.1.base u1.size,hV.2⟩
theorem zDx {l:List Te} {N:Nat} {A E:Nat→Rs Tr} {M:Nat→Fr→Rs Fr} {i:Nat} {w:World} {v:Value} (hv:Tke w v l) (h0:key (tks l) i kFn=false) (h1:key (tks l) i kLet=false) (h2:key (tks l) i kIf=false) (h3:key (tks l) i kCase=false) (h4:key (tks l) i kFold=false)
  (cC:∀W,Up w W→Calls Tryz.prog 64 #[v,.int .i64 (i:Int)] W (qN (cmpS B.long l N A i) W)) :
  Calls Tryz.prog 27 #[v,.int .i64 (i:Int)] w (qN (exprS B.nck B.long l N A E M i) w):=by
 have cK:∀(j:Nat) (x:ByteArray) (W:World),Up w W→Calls Tryz.prog 57 #[v,.int .i64 (j:Int),.string x] W (BoU (key (tks l) j x) W):=fun j x W u=>by rw[←jY];exact vG (tks l) j x W v (hv.up u).tkm
 have k0:=cK i kFn;have k1:=cK i kLet;have k2:=cK i kIf;have k3:=cK i kCase;have k4:=cK i kFold;have hR:exprS B.nck B.long l N A E M i=cmpS B.long l N A i:=by unfold exprS;rw[h0,h1,h2,h3,h4];rfl
 rw[hR];rw[h0] at k0;rw[h1] at k1;rw[h2] at k2;rw[h3] at k3;rw[h4] at k4;obtain⟨R,hRe⟩:∃R,cmpS B.long l N A i=R:=⟨_,rfl⟩;rw[hRe] at cC ⊢;clear hR hRe cK h0 h1 h2 h3 h4 hv
 go_enter Tryz.func27,Tryz.ntmps27
 go_wp2_with fail;refine(k0 w (Up.refl w)).mono ?_;rintro e w1 ⟨rfl,u1⟩;go_wp2_with fail;refine(k1 w1 u1).mono ?_;rintro e w2 ⟨rfl,u2⟩;have U2:=u1.trans u2;go_wp2_with fail;refine(k2 w2 U2).mono ?_;rintro e w3 ⟨rfl,u3⟩;have U3:=U2.trans u3;go_wp2_with fail;refine(k3 w3 U3).mono ?_;rintro e w4 ⟨rfl,u4⟩;have U4:=U3.trans u4;go_wp2_with fail;refine(k4 w4 U4).mono ?_;rintro e w5 ⟨rfl,u5⟩;have U5:=U4.trans u5;go_wp2_with fail;refine(cC w5 U5).mono ?_;rintro e w6 ⟨va,q,er,rfl,hV,u6⟩;go_wp2_with fail
 go_ret3
 refine⟨_,_,_,rfl,?_,U5.trans u6⟩
 cases R with
 | inr r=>exact hV
 | inl r=>exact⟨hV.1.base U5.size,hV.2⟩
theorem zQy {l:List Te} {n i:Nat} (hi:i<l.length) (hl:l.length≤1000000) (hz:∀t∈l,t.t.s.size≤1000000000) {w:World} {v:Value} (hv:Tke w v l) (cE:∀j,i<j→j≤l.length→ExAt l (exprF B.nck B.long l n) 27 j):zVb l (exprF B.nck B.long l n) i w v where
 hi:=hi
 hl:=hl
 inE:=fun j hj=>vN hj
 key:=fun j x W u=>by rw[←jY];exact vG (tks l) j x W v (hv.up u).tkm
 name:=fun j ks W vk u h=>zDm l j hl hz ks W v vk (hv.up u) h
 keys:=fun j ks W vk hj u h=>rK l j hj hl ks W v vk (hv.up u) h
 typ:=fun j ks W vk hj u h=>yTi l j hj hl hz ks W v vk (hv.up u) h
 sub:=fun j ks W vk hij hj u h=>yTh l _ (fun j hj=>vN hj) j hj hl (cE j hij hj) ks W v vk (hv.up u) h
 expr:=fun j W hij hj u=>cE j hij hj W v (hv.up u)
theorem zSp (l:List Te) (hl:l.length≤1000000) (hz:∀t∈l,t.t.s.size≤1000000000):∀(n m:Nat),m≤n→
  (∀i,i≤l.length→2*(l.length-i)+2≤m→ExAt l (exprF B.nck B.long l m) 27 i)∧(∀i,i≤l.length→2*(l.length-i)+1≤m→ExAt l (qP B.nck B.long l m) 228 i)
 | _,0,_=>⟨fun i _ h=>by omega,fun i _ h=>by omega⟩
 | 0,m+1,h=>by omega
 | n+1,m+1,hm=>by
  have ih:=zSp l hl hz n;obtain⟨hE,hA⟩:=ih m (by omega);have inA:∀j,j≤l.length→In l.length j (qP B.nck B.long l m j):=(oH m).2.1;refine⟨fun i hi hn w v hv=>?_,fun i hi hn w v hv=>?_⟩
  ·rw[xN]
   have cE:i<l.length→∀j,i<j→j≤l.length→ExAt l (exprF B.nck B.long l m) 27 j:=fun hlt j hij hj=>hE j hj (by omega)
   have cM:i<l.length→ArmsC l (armsF B.nck B.long l m) i w v:=fun hlt j W hij hj u=>yYb l m j (by omega) hj hl hz W v (hv.up u) fun m' j' W' hm' hb hj' u'=>(ih m' (by omega)).1 j' hj' hb W' v ((hv.up u).up u')
   cases h0:key (tks l) i kFn with
   | true=>
    have hlt:=qK h0;have H:=zQy (n:=m) hlt hl hz hv (cE hlt);exact yYc H h0 fun W u=>yTj (zQy (n:=m) hlt hl hz (hv.up u) (cE hlt))
   | false=>
    cases h1:key (tks l) i kLet with
    | true=>exact zDn (zQy (n:=m) (qK h1) hl hz hv (cE (qK h1))) h1
    | false=>
     cases h2:key (tks l) i kIf with
     | true=>exact yY4 (zQy (n:=m) (qK h2) hl hz hv (cE (qK h2))) h2
     | false=>
      cases h3:key (tks l) i kCase with
      | true=>exact zJ9 (zQy (n:=m) (qK h3) hl hz hv (cE (qK h3))) (cM (qK h3)) h3
      | false=>
       cases h4:key (tks l) i kFold with
       | true=>exact zJa (zQy (n:=m) (qK h4) hl hz hv (cE (qK h4))) (cM (qK h4)) h4
       | false=>
        refine zDx hv h0 h1 h2 h3 h4 fun W u=>?_
        refine yTm l _ (m+1) i hi hl (fun j hj=>eC inA hj) W v (hv.up u) fun j W1 hij hj u1=>?_
        refine yTl l _ (m+1) j hj hl (by omega) (fun j hj=>zXz inA hj) W1 v ((hv.up u).up u1) fun j2 W2 hij2 hj2 u2=>?_
        refine yY6 l _ (m+1) j2 hj2 hl (by omega) (fun j hj=>zXy inA hj) W2 v (((hv.up u).up u1).up u2) fun j3 W3 hij3 hj3 u3=>?_
        refine yTk l _ (m+1) j3 hj3 (by omega) hz inA W3 v ((((hv.up u).up u1).up u2).up u3) fun j4 W4 hij4 hj4 u4=>?_
        exact hA j4 hj4 (by omega) W4 v (((((hv.up u).up u1).up u2).up u3).up u4)
  ·rw[yG]
   cases h:hdE B.long l i with
   | no=>exact yY9 l _ _ i hz w v hv h
   | num x=>exact zDp l _ _ i hl hz w v hv x h
   | var x=>exact zDq l _ _ i hl hz w v hv x h
   | boo x=>
    have hx:=zDg h;have:x=0∨x=1:=by omega
    rcases this with rfl | rfl
    ·exact zDs l _ _ i hl hz w v hv h
    ·exact zDr l _ _ i hl hz w v hv h
   | sel k=>
    have hlt:i<l.length:=xO (lg:=B.long) (by rw[h];rfl)
    rcases zDh h with rfl | rfl
    ·exact zDt l _ _ i hl hz w v hv (fun j W hij hj u=>hA j hj (by omega) W v (hv.up u)) h
    ·exact zDu l _ _ i hl hz w v hv (fun j W hij hj u=>hA j hj (by omega) W v (hv.up u)) h
   | opn=>
    have hlt:i<l.length:=xO (lg:=B.long) (by rw[h];rfl);have H:=zQy (n:=m) hlt hl hz hv fun j hij hj=>hE j hj (by omega)
    cases hk:key (tks l) (i+1) kShut with
    | true=>exact zJ6 l _ _ i hl hz w v hv H h hk
    | false=>exact zDv l _ _ i hl hz w v hv H h hk
theorem zM1 (l:List Te) (i:Int) (hl:l.length≤1000000) (hz:∀t∈l,t.t.s.size≤1000000000) (m:Nat) (hm:2*l.length+2≤m) (w:World) (v:Value) (hv:Tke w v l) :
  Calls Tryz.prog 11 #[v,.int .i64 i] w (sP (expZ B.nck B.long l m i) w):=by
 have HV:=Lib.hid hv;have HZ:=Lib.hid hz;obtain⟨G,c,rfl,-⟩:=hv;obtain⟨n,hn⟩:∃n,l.length=n:=⟨_,rfl⟩;have HN:=Lib.hid hn
 by_cases h0:i<0
 ·have HR:Hid (expZ B.nck B.long l m i = .inr (0,2)):=Lib.hid (by unfold expZ;rw[if_pos (.inl h0)])
  rw[HR.out]
  go_enter Tryz.func11,Tryz.ntmps11
  go_wp2_with fail
  go_ret3
  exact⟨_,_,_,rfl,⟨rfl,rfl,rfl⟩,Up.refl _⟩
 ·by_cases h1:(n:Int)<i
  ·have HR:Hid (expZ B.nck B.long l m i = .inr (0,2)):=Lib.hid (by unfold expZ;rw[if_pos (.inr (by rw[hn];exact h1))])
   rw[HR.out];rw[hn]
   go_enter Tryz.func11,Tryz.ntmps11
   go_wp2_with fail
   go_ret3
   exact⟨_,_,_,rfl,⟨rfl,rfl,rfl⟩,Up.refl _⟩
  ·obtain⟨k,rfl⟩:=Int.eq_ofNat_of_zero_le (by omega:0≤i)
   have hkn:k≤l.length:=by omega
   have HR:Hid (expZ B.nck B.long l m (k:Int)=exprF B.nck B.long l m k):=Lib.hid (by unfold expZ;rw[if_neg (by rw[hn];omega),Int.toNat_natCast]);rw[HR.out];have cT:=(zSp l hl HZ.out m m (Nat.le_refl _)).1 k hkn (by omega) w _ HV.out;have hin:=vN (nk:=B.nck) (lg:=B.long) (l:=l) (n:=m) hkn;obtain⟨R,hRe⟩:∃R,exprF B.nck B.long l m k=R:=⟨_,rfl⟩;rw[hRe] at cT hin ⊢;rw[hn] at cT ⊢;clear hz hn hRe
   cases R with
   | inr e=>
    obtain⟨p,er⟩:=e;have hne:¬er=0:=hin.ne rfl;clear hin
    go_enter Tryz.func11,Tryz.ntmps11
    go_wp2_with fail;refine cT.mono ?_;rintro e w1 ⟨va,ja,ea,rfl,⟨rfl,rfl,A1,rfl⟩,u1⟩;go_wp2_with fail
    go_ret3
    exact⟨_,_,_,rfl,⟨rfl,rfl,rfl⟩,u1⟩
   | inl r=>
    obtain⟨t,q⟩:=r;clear hin
    go_enter Tryz.func11,Tryz.ntmps11
    go_wp2_with fail;refine cT.mono ?_;rintro e w1 ⟨va,ja,ea,rfl,⟨h1,rfl,rfl⟩,u1⟩;go_wp2_with fail
    go_ret3
    exact⟨_,_,_,rfl,⟨h1,rfl,rfl⟩,u1⟩
def tkq (t:B.Tok×Nat):Tk:=⟨t.1.k,B.T t.1.x⟩
theorem zDy {s:ByteArray} (hs:s.size≤16384) {l:List (B.Tok×Nat)} {a b:Int} (h:B.lexR s=(l,a,b)):l.length≤16384∧∀t∈l.map tkq,t.s.size≤1000000000:=by
 rcases B.zH4 h with ⟨_,_,L,hL,hl⟩ | ⟨_,rfl⟩
 ·have h1:=B.zH5 hL hl
  have h2:=(B.zPv _ L 0 l (Nat.le_refl _) hL.ok hL.rd hl).1;have hsz:B.sz L≤16384:=by rw[←B.qO,hL.txt];exact hs
  refine⟨by omega,fun t ht=>?_⟩;obtain⟨x,hx,rfl⟩:=List.mem_map.1 ht;have h3:∀(xs:List (List Nat)) y,y∈xs→B.sz y≤B.tot xs:=by
   intro xs
   induction xs with
   | nil=>intro y hy;cases hy
   | cons z xs ih=>
    intro y hy
    rcases List.mem_cons.1 hy with rfl | hy
    ·show _≤B.sz y+1+B.tot xs;omega
    ·have:=ih y hy;show _≤B.sz z+1+B.tot xs;omega
  have h4:=h3 (l.map (·.1.x)) x.1.x (List.mem_map.2 ⟨x,hx,rfl⟩)
  show(B.T x.1.x).size≤_
  rw[B.qO];omega
 ·exact⟨Nat.zero_le _,fun t ht=>by cases ht⟩
theorem zDz {l:List Te} {n:Nat} {i:Int} {t:Tr} {j:Nat} (h:expZ B.nck B.long l n i = .inl (t,j)):szT t≤2*l.length∧j≤l.length∧isT B.nck B.long t 2=true∧wT t≤160*l.length∧i<(j:Int):=by
 unfold expZ at h
 split at h
 ·cases h
 ·have hi:i.toNat≤l.length:=by omega
  have h2:=(zYy oO lD n).1 i.toNat t j h;have h3:=vN (nk:=B.nck) (lg:=B.long) (l:=l) (n:=n) hi;rw[h] at h3;have h4:i.toNat<j∧j≤l.length:=h3;have a1:=h2.sz;have a2:=h2.w;exact⟨by omega,h4.2,h2.is,by omega,by omega⟩
theorem zX0 {s:ByteArray} (hs:s.size≤16384) {l:List (B.Tok×Nat)} {a b:Int} (h:B.lexR s=(l,a,b)):l.length≤16384∧∀t∈l.map teq,t.t.s.size≤1000000000:=by
 obtain⟨h1,h2⟩:=zDy hs h;refine⟨h1,fun t ht=>?_⟩;obtain⟨x,hx,rfl⟩:=List.mem_map.1 ht;exact h2 (tkq x) (List.mem_map.2 ⟨x,hx,rfl⟩)
structure PxE:Prop where
 expr:∀(l:List Te) (i:Int),l.length≤100000→(∀t∈l,t.t.s.size≤1000000000)→∀m,2*l.length+2≤m→∀(w:World) (v:Value),Vx7 w→Tke w v l→
  Calls Tryz.prog 10 #[v,.int .i64 i] w (sP (expZ B.nck B.long l m i) w)
 wex:∀(w:World) (v:Value),Vx7 w→HasT w v (some nM)→Calls Tryz.prog 17 #[v] w (dT (some nM) w)
theorem bJ (P:PxE) {W w:World} (hx:Vx7 W) (hu:Up W w):Calls Tryz.prog 13 #[] w (BoP true W):=by
 have cL:=B.aR yVb (by decide) w (B.Lx.below hx.lx hu);rw[zOo] at cL;have HX:=Lib.hid hx;have HU:=Lib.hid hu;clear hx hu
 go_enter Tryz.func13,Tryz.ntmps13
 go_wp2_with fail;refine Calls.mono cL ?_;rintro e w1 ⟨v,rfl,ht,hb1⟩;have u1:Up W w1:=HU.out.trans hb1;have cT:=P.expr (zGt.map teq) 0 (by decide) zGu 14 (by decide) w1 v (HX.out.up u1) (uE ht);rw[zOp] at cT;have U1:=Lib.hid u1;clear ht hb1 u1 cL;go_wp2_with fail;refine cT.mono ?_;rintro e w2 ⟨v2,j2,e2,rfl,⟨hn,rfl,rfl⟩,u2⟩;have u02:Up W w2:=U1.out.trans u2;obtain⟨q,p,kb,ko,c,q6,p6,rfl,c0,c1,c4,ca,d0⟩:=zGw hn;have hnil:∀W,(binOp .eql 24 (.pointer (some ⟨q,p,none⟩)) (.pointer none)).run Tryz.prog W = .ok (.bool false) W:=fun W=>zUe W _
 have U2:=Lib.hid u02;have CA:=Lib.hid ca;have C4:=Lib.hid c4;have D0:=Lib.hid d0;clear hn u2 u02 cT ca d0;go_wp2_with fail;refine(refV ⟨#[102]⟩ w2).mono ?_;rintro e w3 ⟨rfl,hw3⟩;have n3:NewT w2 w3 (.pointer (some ⟨w2.heap.size,0,none⟩)) (vr7 ⟨#[102]⟩):=by rw[hw3];exact mP (Nat.le_refl _)
 have u3:Up w2 w3:=by rw[hw3];exact(Up.refl _).alloc _
 have N3:=Lib.hid n3;have U3:=Lib.hid u3;clear hw3 n3 u3;go_wp2_with fail;refine(refV ⟨#[103]⟩ w3).mono ?_;rintro e w4 ⟨rfl,hw4⟩;have n4:NewT w2 w4 (.pointer (some ⟨w3.heap.size,0,none⟩)) (vr7 ⟨#[103]⟩):=by rw[hw4];exact mP U3.out.size
 have u4:Up w3 w4:=by rw[hw4];exact(Up.refl _).alloc _
 have N4:=Lib.hid n4;have U4:=Lib.hid u4;clear hw4 n4 u4;go_wp2_with fail;refine(refV ⟨#[120]⟩ w4).mono ?_;rintro e w5 ⟨rfl,hw5⟩;have n5:NewT w2 w5 (.pointer (some ⟨w4.heap.size,0,none⟩)) (vr7 ⟨#[120]⟩):=by rw[hw5];exact mP (U3.out.trans U4.out).size
 have u5:Up w4 w5:=by rw[hw5];exact(Up.refl _).alloc _
 have N5:=Lib.hid n5;have U5:=Lib.hid u5;have U25:Hid (Up w2 w5):=Lib.hid ((U3.out.trans U4.out).trans u5);clear hw5 n5 u5;have happ:=oQ (k:=25) (s:=⟨#[]⟩) U25.out.size (N4.out.up U5.out) N5.out;obtain⟨W6,hW6⟩:∃W6,(w5.alloc (.cells #[.pointer (some ⟨w3.heap.size,0,none⟩),.pointer (some ⟨w4.heap.size,0,none⟩)] 24)).alloc (.cells #[.int .i64 25,.int .i64 0,.string ⟨#[]⟩,.string ⟨#[]⟩,.slice (some ⟨w5.heap.size,0,none⟩) 2 2] 57)=W6:=⟨_,rfl⟩;have u6:Up w5 W6:=by rw[←hW6];exact((Up.refl _).alloc _).alloc _
 have z6:W6.heap.size=w5.heap.size+1+1:=by rw[←hW6];simp
 rw[hW6] at happ;have hall:=oQ (k:=25) (s:=⟨#[]⟩) (U25.out.trans u6).size (N3.out.up ((U4.out.trans U5.out).trans u6)) happ;rw[z6] at hall;obtain⟨W8,hW8⟩:∃W8,(W6.alloc (.cells #[.pointer (some ⟨w2.heap.size,0,none⟩),.pointer (some ⟨w5.heap.size+1,0,none⟩)] 24)).alloc (.cells #[.int .i64 25,.int .i64 0,.string ⟨#[]⟩,.string ⟨#[]⟩,.slice (some ⟨w5.heap.size+1+1,0,none⟩) 2 2] 57)=W8:=⟨_,rfl⟩;rw[hW8] at hall;have u8:Up w2 W8:=by rw[←hW8];exact(((U25.out.trans u6).alloc _).alloc _)
 have HW8:Hid ((((w5.alloc (.cells #[.pointer (some ⟨w3.heap.size,0,none⟩),.pointer (some ⟨w4.heap.size,0,none⟩)] 24)).alloc (.cells #[.int .i64 25,.int .i64 0,.string ⟨#[]⟩,.string ⟨#[]⟩,.slice (some ⟨w5.heap.size,0,none⟩) 2 2] 57)).alloc (.cells #[.pointer (some ⟨w2.heap.size,0,none⟩),.pointer (some ⟨w5.heap.size+1,0,none⟩)] 24)).alloc (.cells #[.int .i64 25,.int .i64 0,.string ⟨#[]⟩,.string ⟨#[]⟩,.slice (some ⟨w5.heap.size+1+1,0,none⟩) 2 2] 57)=W8):=Lib.hid (by rw[hW6,hW8]);have cW:=P.wex W8 (.pointer (some ⟨w5.heap.size+1+1+1,0,none⟩)) (HX.out.up (U2.out.trans u8)) hall.has;unfold dT at cW;rw[zWi,if_pos rfl,eJ] at cW;have U8:=Lib.hid u8;clear happ hall hW6 hW8 u6 u8 z6;go_wp2_with fail;rw[HW8.out];refine cW.mono ?_;rintro e w9 ⟨rfl,u9⟩;have U9:=Lib.hid (U8.out.trans u9);have k4:=U9.out.cell C4.out;have ka:=U9.out.cell CA.out;have k6:=U9.out.cell D0.out;have hU1:zTb.toList=[102,32,40,32,103,32,120,32,41]:=by rw[Lib.toList_data];rfl
 clear u9 c0 c1 c4 cW;go_wp2_with fail
 go_ret
 exact qZ rfl (U2.out.trans U9.out)
theorem zQz (P:PxE) (s:ByteArray) (w:World) (hx:Vx7 w) (hs:s.size≤9223372036854775807) :
  Calls Tryz.prog 4 #[.string s] w (BoP true w):=by
 have HX:=Lib.hid hx;clear hx
 by_cases h:s.size≤400
 ·have hz:(s.size:Int)≤400:=by omega
  have hm:min (s.size:Int) 400=(s.size:Int):=by omega
  have hzs:s.size≤16384:=by omega
  go_enter Tryz.func4,Tryz.ntmps4
  go_wp2_with fail;obtain⟨l,a,b,hr⟩:∃l a b,B.lexR s=(l,a,b):=⟨_,_,_,rfl⟩;obtain⟨hl,hlz⟩:=zX0 (s:=s) (by omega) hr;have cL:=B.zPy s (by omega) w;rw[hr] at cL;have HL:=Lib.hid hl;have HLZ:=Lib.hid hlz;clear hr hl hlz;refine Calls.mono cL ?_;rintro e w1 ⟨v,rfl,ht,hb1⟩;have ht:=uE ht;have hlm:(l.map teq).length≤100000:=by rw[List.length_map];have:=HL.out;omega
  have U1:Hid (Up w w1):=Lib.hid hb1
  by_cases hb:b=0
  ·subst hb
   obtain⟨M,hM⟩:∃M,2*(l.map teq).length+2≤M:=⟨_,Nat.le_refl _⟩;have HM:=Lib.hid hM;have cT:=P.expr (l.map teq) 0 hlm HLZ.out M hM w1 v (HX.out.up U1.out) ht;have HT:=Lib.hid ht;have HLM:=Lib.hid hlm;clear ht hb1 hlm cL hM;go_wp2_with fail;refine cT.mono ?_;rintro e w2 ⟨v2,j2,e2,rfl,hv2,u2⟩;have cR:=zM1 (l.map teq) 0 (by have:=HLM.out;omega) HLZ.out M HM.out w2 v (HT.out.up u2);have HV2:=Lib.hid hv2;have U2:=Lib.hid (U1.out.trans u2);clear u2 hv2 cT;go_wp2_with fail;refine cR.mono ?_;rintro e w3 ⟨v3,j3,e3,rfl,hv3,u3⟩;have U3:=Lib.hid (U2.out.trans u3);have hv2:=HV2.out
   cases hR:expZ B.nck B.long (l.map teq) M 0 with
   | inr x=>
    rw[hR] at hv2 hv3;obtain⟨rfl,rfl,rfl⟩:=hv2;obtain⟨rfl,rfl,rfl⟩:=hv3;have cS:=rSame none none (W:=w3) (w:=w3) (v:=.pointer none) (v':=.pointer none) rfl rfl (by show(0:Nat)≤65536;omega) true (by simp) (Up.refl _);clear u3 hR cR;go_wp2_with fail;refine cS.mono ?_;rintro e w4 ⟨rfl,u4⟩;have cW:=bJ P HX.out (U3.out.trans u4);clear u4 cS;go_wp2_with fail;refine cW.mono ?_;rintro e w5 ⟨rfl,u5⟩;go_wp2_with fail
    go_ret
    exact qZ rfl u5
   | inl x=>
    obtain⟨t,q⟩:=x;have hts:=(zDz hR).1;rw[List.length_map] at hts;rw[hR] at hv2 hv3;obtain⟨n2,rfl,rfl⟩:=hv2;obtain⟨n3,rfl,rfl⟩:=hv3;have cS:=rSame (some t) (some t) (n2.has.up u3) n3.has (by show szT t≤65536;have:=HL.out;omega) true (by simp) (Up.refl _);clear u3 hR cR n2 n3 hts;go_wp2_with fail;refine cS.mono ?_;rintro e w4 ⟨rfl,u4⟩;have cW:=bJ P HX.out (U3.out.trans u4);clear u4 cS;go_wp2_with fail;refine cW.mono ?_;rintro e w5 ⟨rfl,u5⟩;go_wp2_with fail
    go_ret
    exact qZ rfl u5
  ·have hb9:(b != 0)=true:=by rw[bne_iff_ne];exact hb
   have cW:=bJ P HX.out U1.out;clear ht hb1 hlm cL hb;go_wp2_with fail;refine cW.mono ?_;rintro e w5 ⟨rfl,u5⟩;go_wp2_with fail
   go_ret
   exact qZ rfl u5
 ·have hz:¬(s.size:Int)≤400:=by omega
  have hz2:(400:Int)≤(s.size:Int):=by omega
  have hm:min (s.size:Int) 400=400:=by omega
  have hzs:(s.extract 0 400).size≤400:=by rw[Lib.size_eq,Lib.extract_data,List.length_take];omega
  go_enter Tryz.func4,Tryz.ntmps4
  go_wp2_with fail;obtain⟨X,hX⟩:∃X,s.extract 0 400=X:=⟨_,rfl⟩;rw[hX] at hzs ⊢;clear hX;obtain⟨l,a,b,hr⟩:∃l a b,B.lexR X=(l,a,b):=⟨_,_,_,rfl⟩;obtain⟨hl,hlz⟩:=zX0 (s:=X) (by omega) hr;have cL:=B.zPy X (by omega) w;rw[hr] at cL;have HL:=Lib.hid hl;have HLZ:=Lib.hid hlz;clear hr hl hlz;refine Calls.mono cL ?_;rintro e w1 ⟨v,rfl,ht,hb1⟩;have ht:=uE ht;have hlm:(l.map teq).length≤100000:=by rw[List.length_map];have:=HL.out;omega
  have U1:Hid (Up w w1):=Lib.hid hb1
  by_cases hb:b=0
  ·subst hb
   obtain⟨M,hM⟩:∃M,2*(l.map teq).length+2≤M:=⟨_,Nat.le_refl _⟩;have HM:=Lib.hid hM;have cT:=P.expr (l.map teq) 0 hlm HLZ.out M hM w1 v (HX.out.up U1.out) ht;have HT:=Lib.hid ht;have HLM:=Lib.hid hlm;clear ht hb1 hlm cL hM;go_wp2_with fail;refine cT.mono ?_;rintro e w2 ⟨v2,j2,e2,rfl,hv2,u2⟩;have cR:=zM1 (l.map teq) 0 (by have:=HLM.out;omega) HLZ.out M HM.out w2 v (HT.out.up u2);have HV2:=Lib.hid hv2;have U2:=Lib.hid (U1.out.trans u2);clear u2 hv2 cT;go_wp2_with fail;refine cR.mono ?_;rintro e w3 ⟨v3,j3,e3,rfl,hv3,u3⟩;have U3:=Lib.hid (U2.out.trans u3);have hv2:=HV2.out
   cases hR:expZ B.nck B.long (l.map teq) M 0 with
   | inr x=>
    rw[hR] at hv2 hv3;obtain⟨rfl,rfl,rfl⟩:=hv2;obtain⟨rfl,rfl,rfl⟩:=hv3;have cS:=rSame none none (W:=w3) (w:=w3) (v:=.pointer none) (v':=.pointer none) rfl rfl (by show(0:Nat)≤65536;omega) true (by simp) (Up.refl _);clear u3 hR cR;go_wp2_with fail;refine cS.mono ?_;rintro e w4 ⟨rfl,u4⟩;have cW:=bJ P HX.out (U3.out.trans u4);clear u4 cS;go_wp2_with fail;refine cW.mono ?_;rintro e w5 ⟨rfl,u5⟩;go_wp2_with fail
    go_ret
    exact qZ rfl u5
   | inl x=>
    obtain⟨t,q⟩:=x;have hts:=(zDz hR).1;rw[List.length_map] at hts;rw[hR] at hv2 hv3;obtain⟨n2,rfl,rfl⟩:=hv2;obtain⟨n3,rfl,rfl⟩:=hv3;have cS:=rSame (some t) (some t) (n2.has.up u3) n3.has (by show szT t≤65536;have:=HL.out;omega) true (by simp) (Up.refl _);clear u3 hR cR n2 n3 hts;go_wp2_with fail;refine cS.mono ?_;rintro e w4 ⟨rfl,u4⟩;have cW:=bJ P HX.out (U3.out.trans u4);clear u4 cS;go_wp2_with fail;refine cW.mono ?_;rintro e w5 ⟨rfl,u5⟩;go_wp2_with fail
    go_ret
    exact qZ rfl u5
  ·have hb9:(b != 0)=true:=by rw[bne_iff_ne];exact hb
   have cW:=bJ P HX.out U1.out;clear ht hb1 hlm cL hb;go_wp2_with fail;refine cW.mono ?_;rintro e w5 ⟨rfl,u5⟩;go_wp2_with fail
   go_ret
   exact qZ rfl u5
theorem okV (s:ByteArray) (h:s.size≤1000000000):okST (vr7 s):=⟨h,(by decide:nob.size≤1000000000),trivial⟩
theorem no7 {x:Nod} (h:7<x.k):(¬x.k=1)∧(¬x.k=2)∧(¬x.k=3)∧(¬x.k=4)∧(¬x.k=5)∧(¬x.k=6)∧¬x.k=7:=by omega
theorem zC0 {x:Nod} {f:Fr} (h:7<x.k):TelAt 107 (isT B.nck B.long (x,f) 1) (x,f):=fun w v _ hv=>by
 obtain⟨n1,n2,n3,n4,n5,n6,n7⟩:=no7 h;exact bO x f w v n1 n2 n3 n4 n5 n6 n7 hv
theorem goodV (s:ByteArray) (h:s.size≤1000000000):Good (vr7 s):=by
 have hn:Nd1 (⟨23,0,s,nob⟩:Nod) .nil:=⟨okV s h,Nat.zero_le _,fun i t hi=>by cases hi⟩;exact⟨zC0 (by show(7:Int)<23;decide),fun w v hx hv=>zY8 _ _ w v rfl hn hx hv,dS _ _ hn,Nat.zero_le _,fun j s hj=>by cases hj⟩
theorem get2 {a b t:Tr} {i:Nat} (h:(fr2 a b).get i=some t):t=a∨t=b:=by
 match i,h with
 | 0,h=>exact .inl (Option.some.inj h).symm
 | 1,h=>exact .inr (Option.some.inj h).symm
 | i+2,h=>cases h
theorem goodA (a b:Tr) (ha:Good a) (hb:Good b) (ho:okST (nd 25 nob (fr2 a b))):Good (nd 25 nob (fr2 a b)):=by
 have hg:∀(i:Nat) (t:Tr),(fr2 a b).get i=some t→Good t:=fun i t h=>by
  rcases get2 h with rfl | rfl
  ·exact ha
  ·exact hb
 have hn:Nd1 (⟨25,0,nob,nob⟩:Nod) (fr2 a b):=⟨ho,by show 2≤100000;omega,hg⟩;exact⟨zC0 (by show(7:Int)<25;decide),fun w v hx hv=>zY9 _ _ w v rfl hn hx hv,dS _ _ hn,by show 2≤100000;omega,fun j s hj=>(hg j s hj).a1⟩
def kf7:ByteArray:=⟨#[102]⟩
def kg7:ByteArray:=⟨#[103]⟩
def kx7:ByteArray:=⟨#[120]⟩
def in7:Tr:=nd 25 nob (fr2 (vr7 kg7) (vr7 kx7))
theorem isf:isT B.nck B.long (vr7 kf7) 2=true:=by kernel_rfl
theorem isg:isT B.nck B.long (vr7 kg7) 2=true:=by kernel_rfl
theorem isx:isT B.nck B.long (vr7 kx7) 2=true:=by kernel_rfl
theorem isi:isT B.nck B.long in7 2=true:=by kernel_rfl
section
variable {W:World} {bw:Nat}
theorem wrEx (hB:W.heap.size≤bw):WriC W bw nM 0 1000:=by
 have cf:WriC W bw (vr7 kf7) 4 (12*szT (vr7 kf7)):=(zWl kf7 hB 4 (by decide) (zWm rfl)).more (by unfold szT;omega);have cg:WriC W bw (vr7 kg7) 4 (12*szT (vr7 kg7)):=(zWl kg7 hB 4 (by decide) (zWm rfl)).more (by unfold szT;omega);have cx:WriC W bw (vr7 kx7) 5 (12*szT (vr7 kx7)):=(zWl kx7 hB 5 (by decide) (zWm rfl)).more (by unfold szT;omega);have ci:WriC W bw in7 0 24:=(zQ7 (vr7 kg7) (vr7 kx7) hB isg isx cg cx 0 (by decide) (zWn rfl)).more (by decide);have cp:WriC W bw in7 5 (12*szT in7):=(zTj in7 5 24 hB (by decide) (zWn rfl) ci).more (by decide);exact(zQ7 (vr7 kf7) in7 hB isf isi cf cp 0 (by decide) (zWn rfl)).more (by decide)
theorem zC1 (w:World) (v:Value) (hx:Vx7 w) (hv:HasT w v (some nM)):Calls Tryz.prog 17 #[v] w (dT (some nM) w):=by
 have ho:okST nM:=zGv nM rfl;have hg:Good nM:=goodA (vr7 kf7) in7 (goodV _ (by decide)) (goodA _ _ (goodV _ (by decide)) (goodV _ (by decide)) (fC (f:=fr2 (vr7 kf7) in7) (i:=1) ho.2.2 rfl)) ho;have hxn:B.Nx w:=⟨hx.lx.2.1,hx.lx.2.2.1⟩;have cS:=zUz (zUy 46 (fun _ _=>by kernel_rfl) nM _ v w hxn hv (by decide) hg.a2);rw[show(if 60<dpT nM then 7 else if isT B.nck B.long nM 2 then 0 else 16)=(0:Int) by kernel_rfl] at cS;unfold dT;rw[zWi,if_pos rfl,eJ];obtain⟨UU,hU⟩:∃UU,zTb=UU:=⟨_,rfl⟩;rw[hU];have HU:=Lib.hid hU;have hT:txE qE nM=zTb:=eJ;have HV:=Lib.hid hv;have HT:=Lib.hid hT;clear hv hg hx hxn ho hT hU
 go_enter Tryz.func17,Tryz.ntmps17
 go_wp2_with fail;refine Calls.mono cS ?_;rintro en w1 ⟨rfl,u1⟩;have hz1:=u1.size;have hWr:St7 w1 w1.heap.size (fun _ _=>False) 0 [] (w1.alloc (.cells #[.slice none 0 0] 82)):=⟨(Up.refl w1).alloc _,[],Nat.le_refl _,rfl,Iff.rfl,_,heap_alloc_new w1 _,World.ownsRow_nil _ _ _ _,fun _ _ h=>h.elim⟩;have cW:=wrEx (W:=w1) (bw:=w1.heap.size) (Nat.le_refl _) _ _ 0 [] v (HV.out.up u1) hWr (by omega);rw[fE,HT.out] at cW;have U1:=Lib.hid u1;clear u1 hWr cS;go_wp2_with fail;refine Calls.mono cW ?_;rintro en w2 ⟨⟨u,rfl⟩,u2,ns,hn1,hn2,hn3,vs,r1,ho,-⟩;have hne:ns≠[]:=fun e=>by have:=hn3.1 e;cases this
 have hlen:0<ns.length:=List.length_pos_iff.2 hne;obtain⟨g,cp,rfl,hbg,hltg⟩:=ho.form hlen;have hcp:=lF ho;have c0:w2.cell? ⟨w1.heap.size,0,none⟩=some (.slice (some ⟨g,0,none⟩) ns.length cp):=cell_of_row w2 _ 0 _ _ _ r1;have hj:Lib.join (ns.map (·.data.toList)) (ByteArray.mk #[32]).data.toList=zTb.data.toList:=by
  have h:=nK (ns.map nmT);have e:txt (ns.map nmT)=ns:=by unfold txt;rw[List.map_map];exact List.map_id ns
  rw[e] at h;exact h.trans hn2
 have hcs:∀(j:Nat) x,ns[j]? = some x→w2.cell? ⟨g,0+j,none⟩=some (.string x):=fun j x h=>by
  have h9:=ho.cells (g:=g) rfl j (.string x) (by rw[List.getElem?_map,h];rfl);have e1:(⟨g,0,none⟩:Addr).add j=⟨g,0+j,none⟩:=by unfold Addr.add;split<;>simp_all
  rwa [e1] at h9
 have cJ:=Tryz.strings_Join g 0 cp ns ⟨#[32]⟩ w2 hcs hltg (by omega) hcp (by rw[hj];decide);rw[hj] at cJ;have hX:(⟨zTb.data.toList.toArray⟩:ByteArray)=zTb:=rfl;rw[hX,HU.out] at cJ;obtain⟨m,hm⟩:∃m,ns.length=m:=⟨_,rfl⟩;rw[hm] at c0 cJ;have U2:=Lib.hid (Up.trans U1.out u2);clear u2 r1 ho cW hcs hj hn1 hn2 hn3 hne hlen hm hX HT;go_wp2_with fail;refine Calls.mono cJ ?_;rintro en w3 ⟨rfl,u3⟩;have U3:=Lib.hid u3;clear u3;go_wp2_with fail
 go_ret2
 exact⟨rfl,Up.trans U2.out U3.out⟩
end
theorem px_e:PxE:=⟨fun l i hl hz m hm w v hx hv=>pExpr l i hl hz m hm w v hv hx.nx hx.px.2 hx.px.1,fun w v hx hv=>zC1 w v hx hv⟩
end Go.Proofs.YtbpijnalmakfaaaGreatDoor
