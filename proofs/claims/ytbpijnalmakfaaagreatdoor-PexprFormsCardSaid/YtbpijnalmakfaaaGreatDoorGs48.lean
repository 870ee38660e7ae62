/-
  What is written of a type is read as its tokens (plain).
-/
import Derived.Test.YtbpijnalmakfaaaGreatDoorGs40
import Derived.Test.YtbpijnalmakfaaaGreatDoorGs44
set_option maxHeartbeats 40000000
set_option maxRecDepth 100000
namespace Go.Proofs.YtbpijnalmakfaaaGreatDoor
open Go.RowKit
theorem yYv:∀(ts:List Tk),(jT ts).length≤wS ts
 | []=>Nat.le_refl _
 | [a]=>by
  have e:a.s.data.toList.length=a.s.size:=Array.length_toList
  show a.s.data.toList.length≤a.s.size+1+0
  omega
 | a::b::r=>by
  have ih:=yYv (b::r);have e:a.s.data.toList.length=a.s.size:=Array.length_toList
  show(a.s.data.toList++32::jT (b::r)).length≤a.s.size+1+wS (b::r)
  rw[List.length_append,List.length_cons];omega
theorem uC (b:Bool) (ts:List Te):wS (tks (wie b ts))≤wS (tks ts)+4:=by
 rw[mE];exact zN0 b _
theorem zS (a b:List Te):wS (tks (a++b))=wS (tks a)+wS (tks b):=by rw[yP,sQ]
theorem jB (a:Te) (b:List Te):wS (tks (a::b))=a.t.s.size+1+wS (tks b):=rfl
theorem zQb:wS (tks [])=0:=rfl
theorem yYw {t:Tr} (h:isT B.nck B.long t 1=true):wS (tks (tyE (tkT t)))≤wT t:=by
 rw[tP,zE2 h];exact zEb _ t (Nat.le_refl _) h
theorem yUx (s:ByteArray) (a b:Tr):wT (nd 24 s (fr2 a b))=24+s.size+0+(wT a+wT b):=rfl
theorem zWo:∀(f:Fr),ArmOk B.nck B.long f→(∀t,szT t<f.sz→isT B.nck B.long t 2=true→wS (tks (tkE qD t))≤wT t)→wS (tks (barsE (yQ qD f)))≤wF f
 | .nil,_,_=>Nat.zero_le _
 | .cons y k r,hok,ih=>by
  obtain⟨h9,hr⟩:=zVp hok;obtain⟨c,z,b,hxb,hc,hz,hb⟩:=jW h9;injection hxb with e1 e2;subst e1;subst e2;have hzz:(Fr.cons ⟨34,0,c,z⟩ (fr1 b) r).sz=1+szT b+r.sz:=by unfold szT;simp only[fr1,Fr.sz];omega
  have fu:=ih b (by omega) hb;have es:yQ qD (.cons ⟨34,0,c,z⟩ (fr1 b) r)=(ne c::ne z::ke kFat::tkE qD b)::yQ qD r:=by unfold yQ;rw[sG hb];rfl
  have ew:wF (.cons ⟨34,0,c,z⟩ (fr1 b) r)=24+c.size+z.size+wT b+wF r:=rfl;have hc1:(ne c).t.s.size=c.size:=rfl;have hz1:(ne z).t.s.size=z.size:=rfl;have hf1:(ke kFat).t.s.size=2:=rfl;rw[es,ew]
  cases r with
  | nil=>
   show wS (tks (ne c::ne z::ke kFat::tkE qD b))≤_
   rw[jB,jB,jB,hc1,hz1,hf1];omega
  | cons y2 m q=>
   have f2:=zWo (.cons y2 m q) hr (fun t ht=>ih t (by omega));have hb1:(ke kBar).t.s.size=1:=rfl
   show wS (tks ((ne c::ne z::ke kFat::tkE qD b)++ke kBar::barsE (yQ qD (.cons y2 m q))))≤_
   rw[zS,jB,jB,jB,jB,hc1,hz1,hf1,hb1];omega
theorem yUy (k:Int):(ke (signB k)).t.s.size=1:=by
 show(signB k).size=1
 unfold signB
 repeat' split
 all_goals rfl
theorem zNc:∀(n:Nat) (t:Tr),szT t≤n→isT B.nck B.long t 2=true→wS (tks (tkE qD t))≤wT t
 | 0,t,h,_=>absurd h (by unfold szT;omega)
 | n+1,t,h,ht=>by
  have ih:=zNc n;have K:∀x:ByteArray,(ke x).t.s.size=x.size:=fun _=>rfl
  have NN:∀x:ByteArray,(ne x).t.s.size=x.size:=fun _=>rfl
  have z1:kFn.size=2:=rfl;have z2:kOpen.size=1:=rfl;have z3:zQ.size=1:=rfl;have z4:kShut.size=1:=rfl;have z5:kFat.size=2:=rfl;have z6:qJ.size=1:=rfl;have z7:kLet.size=3:=rfl;have z8:kEq.size=1:=rfl;have z9:kIn.size=2:=rfl;have y1:kEnd.size=3:=rfl;have y2:kIf.size=2:=rfl;have y3:kThen.size=4:=rfl;have y4:kElse.size=4:=rfl;have y5:kCase.size=4:=rfl;have y6:kOf.size=2:=rfl;have y7:kFold.size=4:=rfl;have y8:kTo.size=2:=rfl
  cases vQ ht with
  | num k h1 h2=>
   rw[iF,jB,zQb];have hl:=B.zVe k ⟨h1,h2⟩;have e:wT ((⟨20,k,nob,nob⟩,.nil):Tr)=24:=rfl;have e2:(⟨⟨2,qD k⟩,k⟩:Te).t.s.size=B.sz (B.numb k):=by show(qD k).size=_;unfold qD;rw[B.qV]
   rw[e,e2];omega
  | boo k hk=>
   rw[rZ,jB,zQb];have e:wT ((⟨21,k,nob,nob⟩,.nil):Tr)=24:=rfl;rw[e];have:(if k=1 then ke kTrue else ke yH).t.s.size≤5:=by split<;>decide
   omega
  | unit=>rw[tQ];decide
  | var s hs=>
   have e:wT (nd 23 s .nil)=2+s.size+0+0:=rfl;rw[iG,jB,zQb,e,NN];omega
  | lam s hs a b hA hB=>
   have hz:szT (nd 24 s (fr2 a b))=1+(szT a+szT b):=qT _ a b;have iA:=yYw hA;have iB:=ih b (by omega) hB;rw[dA hA hB,yUx,jB,jB,jB,jB,zS,jB,jB,K,K,K,K,K,NN,z1,z2,z3,z4,z5];omega
  | app a b hA hB=>
   have hz:szT (nd 25 nob (fr2 a b))=1+(szT a+szT b):=qT _ a b;have e:wT (nd 25 nob (fr2 a b))=8+(wT a+wT b):=rfl;have iA:=ih a (by omega) hA;have iB:=ih b (by omega) hB;have wA:=uC (low a.1 4) (tkE qD a);have wB:=uC (low b.1 5) (tkE qD b);rw[dB hA hB,zS,e];omega
  | pair a b hA hB=>
   have hz:szT (nd 26 nob (fr2 a b))=1+(szT a+szT b):=qT _ a b;have e:wT (nd 26 nob (fr2 a b))=24+(wT a+wT b):=rfl;have iA:=ih a (by omega) hA;have iB:=ih b (by omega) hB;rw[nX hA hB,jB,zS,jB,zS,jB,zQb,K,K,K,z2,z6,z4,e];omega
  | sel k hk a hA=>
   have hz:szT (nd k nob (fr1 a))=1+szT a:=vY _ a;have e:wT (nd k nob (fr1 a))=24+wT a:=by rcases hk with rfl | rfl<;>rfl
   have iA:=ih a (by omega) hA;have wA:=uC (low a.1 5) (tkE qD a);have hs:(kSel k).size=2:=by rcases hk with rfl | rfl<;>rfl
   rw[dC hk hA,jB,K,hs,e];omega
  | letE s hs a b hA hB=>
   have hz:szT (nd 29 s (fr2 a b))=1+(szT a+szT b):=qT _ a b;have e:wT (nd 29 s (fr2 a b))=24+s.size+0+(wT a+wT b):=rfl;have iA:=ih a (by omega) hA;have iB:=ih b (by omega) hB;rw[dD hA hB,jB,jB,jB,zS,jB,zS,jB,zQb,K,K,K,K,NN,z7,z8,z9,y1,e];omega
  | ifE a b c hA hB hC=>
   have hz:szT (nd 30 nob (fr3 a b c))=1+(szT a+szT b+szT c):=nE _ a b c;have e:wT (nd 30 nob (fr3 a b c))=24+(wT a+(wT b+wT c)):=rfl;have iA:=ih a (by omega) hA;have iB:=ih b (by omega) hB;have iC:=ih c (by omega) hC;rw[zZ8 hA hB hC,jB,zS,jB,zS,jB,K,K,K,y2,y3,y4,e];omega
  | op k h1 h2 a b hA hB=>
   have hz:szT (opN k,fr2 a b)=1+(szT a+szT b):=qT _ a b;have e:wT (opN k,fr2 a b)=24+(wT a+wT b):=rfl;have iA:=ih a (by omega) hA;have iB:=ih b (by omega) hB;have wA:=uC (low a.1 (lft (opN k))) (tkE qD a);have wB:=uC (low b.1 (lvl (opN k)+1)) (tkE qD b);rw[zZ9 hA hB,zS,jB,yUy,e];omega
  | caseE a hA k hk h0=>
   have hz:szT (nd 32 nob (.cons a.1 a.2 k))=1+(szT a+k.sz):=rfl;have e:wT (nd 32 nob (.cons a.1 a.2 k))=24+(wT a+wF k):=rfl;have iA:=ih a (by omega) hA;have iK:=zWo k hk fun t ht h=>ih t (by omega) h
   rw[nY hA,jB,zS,jB,zS,jB,zQb,K,K,K,y5,y6,y1,e];omega
  | foldE a t hA hT k hk h0=>
   have hz:szT (nd 33 nob (.cons a.1 a.2 (.cons t.1 t.2 k)))=1+(szT a+(szT t+k.sz)):=rfl;have e:wT (nd 33 nob (.cons a.1 a.2 (.cons t.1 t.2 k)))=24+(wT a+(wT t+wF k)):=rfl;have iA:=ih a (by omega) hA;have iT:=yYw hT;have iK:=zWo k hk fun t ht h=>ih t (by omega) h
   rw[nZ hA hT,jB,zS,jB,zS,jB,zS,jB,zQb,K,K,K,K,y7,y8,y6,y1,e];omega
theorem qW:nob.size≤1000000000:=by decide
theorem zWp:∀{f:Fr},(∀(j:Nat) t,f.get j=some t→okST t)→okS f
 | .nil,_=>trivial
 | .cons x k r,h=>⟨(h 0 (x,k) rfl).1,(h 0 (x,k) rfl).2.1,(h 0 (x,k) rfl).2.2,zWp (f:=r) fun j t hj=>h (j+1) t hj⟩
theorem zQc:∀(n:Nat) (t:Tr),szT t≤n→isT B.nck B.long t 1=true→okST t
 | 0,t,h,_=>absurd h (by unfold szT;omega)
 | n+1,t,h,ht=>by
  have ih:=zQc n
  cases vP ht with
  | leaf k hk=>exact⟨qW,qW,trivial⟩
  | name s hs=>
   have h1:=gH s hs;exact⟨by show s.size≤_;omega,qW,trivial⟩
  | two k hk a b hA hB=>
   have hz:szT (nd k nob (fr2 a b))=1+(szT a+szT b):=by unfold szT;simp only[nd,fr2,fr1,Fr.sz];omega
   have iA:=ih a (by omega) hA;have iB:=ih b (by omega) hB;exact⟨qW,qW,iA.1,iA.2.1,iA.2.2,iB.1,iB.2.1,iB.2.2,trivial⟩
  | mu s hs c hc h0=>
   have hz:szT (nd 7 s c)=1+c.sz:=rfl;have h1:=pS s hs;refine⟨by show s.size≤_;omega,qW,zWp (f:=c) fun j t' hj=>?_⟩;obtain⟨s',u,rfl,hs',hu⟩:=vS (wZ hc.1 hj);have hg:=Fr.get_sz hj;have hz2:szT (nd 8 s' (fr1 u))=1+szT u:=by unfold szT;simp only[nd,fr1,Fr.sz];omega
   have iu:=ih u (by omega) hu;have h2:=pS s' hs';exact⟨by show s'.size≤_;omega,qW,iu.1,iu.2.1,iu.2.2,trivial⟩
theorem vC {a:Tr} {r:Fr} (ha:okST a) (hr:okS r):okS (.cons a.1 a.2 r):=⟨ha.1,ha.2.1,ha.2.2,hr⟩
theorem zNd:∀(n:Nat) (t:Tr),szT t≤n→isT B.nck B.long t 2=true→okST t
 | 0,t,h,_=>absurd h (by unfold szT;omega)
 | n+1,t,h,ht=>by
  have ih:=zNd n;have nm:∀s,B.nck s=true→s.size≤1000000000:=fun s hs=>by have:=pS s hs;omega
  have ar:∀k:Fr,k.sz≤n→ArmOk B.nck B.long k→okS k:=fun k hz hk=>zWp fun j t hj=>by
   obtain⟨c,x,b,rfl,hc,hx,hb⟩:=jW (gI hk hj);have hg:=Fr.get_sz hj;have hz2:szT (⟨34,0,c,x⟩,fr1 b)=1+szT b:=vY _ b;exact⟨nm c hc,nm x hx,vC (ih b (by omega) hb) trivial⟩
  cases vQ ht with
  | num k h1 h2=>exact⟨qW,qW,trivial⟩
  | boo k hk=>exact⟨qW,qW,trivial⟩
  | unit=>exact⟨qW,qW,trivial⟩
  | var s hs=>exact⟨by have:=gH s hs;show s.size≤_;omega,qW,trivial⟩
  | lam s hs a b hA hB=>
   have hz:szT (nd 24 s (fr2 a b))=1+(szT a+szT b):=qT _ a b;exact⟨nm s hs,qW,vC (zQc _ a (Nat.le_refl _) hA) (vC (ih b (by omega) hB) trivial)⟩
  | app a b hA hB=>
   have hz:szT (nd 25 nob (fr2 a b))=1+(szT a+szT b):=qT _ a b;exact⟨qW,qW,vC (ih a (by omega) hA) (vC (ih b (by omega) hB) trivial)⟩
  | pair a b hA hB=>
   have hz:szT (nd 26 nob (fr2 a b))=1+(szT a+szT b):=qT _ a b;exact⟨qW,qW,vC (ih a (by omega) hA) (vC (ih b (by omega) hB) trivial)⟩
  | sel k hk a hA=>
   have hz:szT (nd k nob (fr1 a))=1+szT a:=vY _ a;exact⟨qW,qW,vC (ih a (by omega) hA) trivial⟩
  | letE s hs a b hA hB=>
   have hz:szT (nd 29 s (fr2 a b))=1+(szT a+szT b):=qT _ a b;exact⟨nm s hs,qW,vC (ih a (by omega) hA) (vC (ih b (by omega) hB) trivial)⟩
  | ifE a b c hA hB hC=>
   have hz:szT (nd 30 nob (fr3 a b c))=1+(szT a+szT b+szT c):=nE _ a b c;exact⟨qW,qW,vC (ih a (by omega) hA) (vC (ih b (by omega) hB) (vC (ih c (by omega) hC) trivial))⟩
  | op k h1 h2 a b hA hB=>
   have hz:szT (opN k,fr2 a b)=1+(szT a+szT b):=qT _ a b;exact⟨qW,qW,vC (ih a (by omega) hA) (vC (ih b (by omega) hB) trivial)⟩
  | caseE a hA k hk h0=>
   have hz:szT (nd 32 nob (.cons a.1 a.2 k))=1+(szT a+k.sz):=rfl;exact⟨qW,qW,vC (ih a (by omega) hA) (ar k (by omega) hk)⟩
  | foldE a t hA hT k hk h0=>
   have hz:szT (nd 33 nob (.cons a.1 a.2 (.cons t.1 t.2 k)))=1+(szT a+(szT t+k.sz)):=rfl;exact⟨qW,qW,vC (ih a (by omega) hA) (vC (zQc _ t (Nat.le_refl _) hT) (ar k (by omega) hk))⟩
theorem zKo (P:PxAll) (l:List B.RTok) (i:Int) (hl:l.length≤9223372036854775807) (hz:∀t∈l,t.s.size≤9223372036854775807) (w:World) (v:Value) (hx:Vx7 w) (hv:Tkr w v l) :
  Calls Tryz.prog 7 #[v,.int .i64 i] w (BoP true w):=by
 have cF:=zWa l hz w w v hv (Up.refl _) hl;have HX:=Lib.hid hx;have HV:=Lib.hid hv;clear hx hz hl hv
 go_enter Tryz.func7,Tryz.ntmps7
 go_wp2_with fail;refine cF.mono ?_;rintro e w1 ⟨v1,rfl,h1,u1⟩;have ht:Tke w1 v1 (fewE l):=h1.tke;have hlen:=lS l;have hts:∀t∈fewE l,t.t.s.size≤1000000000:=fun t h=>by have:=aZ l t h;omega
 obtain⟨M,hM⟩:∃M,2*(fewE l).length+2≤M:=⟨_,Nat.le_refl _⟩;have cT:=P.expr (fewE l) i (by omega) hts M hM w1 v1 (HX.out.up u1) ht;obtain⟨A,c,rfl,-⟩:=ht;obtain⟨N,hN⟩:∃N,(fewE l).length=N:=⟨_,rfl⟩;have HN:=Lib.hid hN;rw[hN] at cT hlen ⊢;have U1:=Lib.hid u1;clear u1 h1 hts cF hN hM;go_wp2_with fail;refine cT.mono ?_;rintro e w2 ⟨v2,j2,e2,rfl,hv2,u2⟩;have U2:=Lib.hid (U1.out.trans u2)
 cases hR:expZ B.nck B.long (fewE l) M i with
 | inr x=>
  obtain⟨p,r⟩:=x;rw[hR] at hv2;obtain⟨rfl,rfl,rfl⟩:=hv2;obtain⟨hp,hr⟩:=zWn hR;rw[HN.out] at hp;have hr9:(e2 != 0)=true:=by rw[bne_iff_ne];exact hr
  have hp0:(0:Int)≤(p:Int):=by omega
  have hpN:(p:Int)≤(N:Int):=by omega
  have cW:=wC P HX.out U2.out;obtain⟨P,hP⟩:∃P:Int,(p:Int)=P:=⟨_,rfl⟩;rw[hP] at hp0 hpN ⊢;clear hR cT u2 hr hp hP;go_wp2_with fail;refine cW.mono ?_;rintro e w5 ⟨rfl,u5⟩;go_wp2_with fail
  go_ret
  exact qU rfl u5
 | inl x=>
  obtain⟨t,q⟩:=x;rw[hR] at hv2;obtain⟨n2,rfl,rfl⟩:=hv2;obtain⟨ht1,-,ht3,htw,ht2⟩:=zW7 hR;rw[HN.out] at ht1 htw;have hok:=zNd _ t (Nat.le_refl _) ht3;have hos:okSO (some t):=fun t' h=>by have h:=Option.some.inj h;subst h;exact hok
  have h80:szT t≤160:=by omega
  have HTW:Hid (wT t≤12800):=Lib.hid (by omega);have cS:=zOd (some t) (by show szT t≤_;omega) hos w2 w2 v2 (HX.out.up U2.out).nx n2.has (Up.refl _);have HAS:=Lib.hid n2.has;have HOS:=Lib.hid hos;obtain⟨J,hJ⟩:∃J:Int,(q:Int)=J:=⟨_,rfl⟩;rw[hJ] at ht2 ⊢;have HIS:=Lib.hid ht3;clear hR cT u2 hJ n2 hos hok ht3 htw;go_wp2_with fail;refine cS.mono ?_;rintro e w3 ⟨rfl,u3⟩;have U3:=Lib.hid (U2.out.trans u3);have HAS3:=Lib.hid (HAS.out.up u3)
  by_cases hd:60<dpT t
  ·have hc:chk B.nck B.long (some t) 2=7:=by
    show(if 8192<szT t then (3:Int) else if 60<dpT t then 7 else if isT B.nck B.long t 2 then 0 else 16)=7
    rw[if_neg (by omega),if_pos hd]
   rw[hc];have cW:=wC P HX.out U3.out;clear u3 hc hd;go_wp2_with fail;refine cW.mono ?_;rintro e w5 ⟨rfl,u5⟩;go_wp2_with fail
   go_ret
   exact qU rfl u5
  ·have hc:chk B.nck B.long (some t) 2=0:=by
    show(if 8192<szT t then (3:Int) else if 60<dpT t then 7 else if isT B.nck B.long t 2 then 0 else 16)=0
    rw[if_neg (by omega),if_neg hd,HIS.out,if_pos rfl]
   have cP:=P.write (some t) (by show szT t≤_;omega) HOS.out w3 w3 v2 (HX.out.up U3.out) HAS3.out (Up.refl _);unfold uM at cP;rw[hc,if_pos rfl] at cP;rw[hc];have hw:zRl (some t)=txE qD t:=rfl;rw[hw] at cP;have h3:=HIS.out;have hok:=zWf _ t (Nat.le_refl _) h3;have hws:=zNc _ t (Nat.le_refl _) h3;have hft:=nH pS gH xV _ t (Nat.le_refl _) h3;have hzz:(txE qD t).size≤1000000000:=by have:=zXb pS gH xV h3;omega
   have hfl:(tkE qD t).length≤1600:=by have h:=hft.1;rw[zD] at h;omega
   have hfs:∀x∈tkE qD t,x.t.s.size≤1000000000:=fun x hx=>by have:=hft.2 x.t (List.mem_map.2 ⟨x,hx,rfl⟩);omega
   have HFL:=Lib.hid hfl;have HFS:=Lib.hid hfs;have hxe:txE qD t=tB (tks (tkE qD t)):=rfl;have hlong:(tB (tks (tkE qD t))).size≤16384:=by
    have e:(tB (tks (tkE qD t))).size=(jT (tks (tkE qD t))).length:=by show(jT (tks (tkE qD t))).toArray.size=_;simp
    have h1:=yYv (tks (tkE qD t));have h2:=HTW.out;omega
   obtain⟨r,hr,hrm⟩:=zY1 hok hlong;have hbk:=zY0 (nk:=B.nck) (lg:=B.long) (nb:=qD) h3 (n:=2*(tkE qD t).length+2) (Nat.le_refl _);have htz:expZ B.nck B.long (tkE qD t) (2*(tkE qD t).length+2) 0 = .inl (t,(tkE qD t).length):=by
    unfold expZ;rw[if_neg (by omega)];exact hbk
   rw[←hxe] at hr;obtain⟨X,hX⟩:∃X,txE qD t=X:=⟨_,rfl⟩;rw[hX] at hr hzz cP;have HR:=Lib.hid hr;have HRM:=Lib.hid hrm;have HTZ:=Lib.hid htz;clear hc hd h3 hw hok hws hr hrm hbk hft htz hX u3 cS hfl hfs hxe hlong;go_wp2_with fail;refine cP.mono ?_;rintro e w4 ⟨rfl,u4⟩;have U4:=Lib.hid (U3.out.trans u4);have HAS4:=Lib.hid (HAS3.out.up u4);have cL:=B.aB X hzz w4 (HX.out.up U4.out).lx;rw[HR.out] at cL;clear u4 cP;go_wp2_with fail;refine Calls.mono cL ?_;rintro e w5 ⟨v5,rfl,ht,hb5⟩;have hv5:Up w4 w5:=hb5;have ht:=zRs ht;rw[HRM.out] at ht;have U5:=Lib.hid (U4.out.trans hv5);have HAS5:=Lib.hid (HAS4.out.up hv5);have cT:=P.expr (tkE qD t) 0 (by have:=HFL.out;omega) HFS.out _ (Nat.le_refl _) w5 v5 (HX.out.up U5.out) ht;rw[HTZ.out] at cT;clear hb5 hv5 ht cL;go_wp2_with fail;refine cT.mono ?_;rintro e w6 ⟨v6,j6,e6,rfl,⟨n6,rfl,rfl⟩,u6⟩;have cS:=uSame (some t) (some t) (HAS5.out.up u6) n6.has (by show szT t≤65536;omega) true (by simp) (Up.refl _);have U6:=Lib.hid (U5.out.trans u6);clear n6 u6 cT;go_wp2_with fail;refine cS.mono ?_;rintro e w7 ⟨rfl,u7⟩;have cW:=wC P HX.out (U6.out.trans u7);clear u7 cS;go_wp2_with fail;refine cW.mono ?_;rintro e w8 ⟨rfl,u8⟩;go_wp2_with fail
   go_ret
   exact qU rfl u8
end Go.Proofs.YtbpijnalmakfaaaGreatDoor
