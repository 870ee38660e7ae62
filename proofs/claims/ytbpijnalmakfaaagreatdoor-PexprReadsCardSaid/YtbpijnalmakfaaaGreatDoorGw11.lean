/-
  The document's name: the walk.
-/
import Derived.Test.YtbpijnalmakfaaaGreatDoorGw10
set_option maxHeartbeats 40000000
set_option maxRecDepth 100000
namespace Go.Proofs.YtbpijnalmakfaaaGreatDoor.B
open Go.RowKit
theorem pJ {w:World} {B:Nat} {A:Option Addr} {n c:Nat} {l:List Nat} (h:Sl w B (.slice A n c) l) {j r:Nat} (hj:l[j]? = some r):∃ad,A=some ad∧w.cell? (ad.add j)=some (.int .i32 (r:Int)):=by
 obtain⟨A',c',hv,_,hc⟩:=h;obtain⟨ad,h1,_,h2⟩:=hc j r hj;injection hv with h3 h4 h5;exact⟨ad,by rw[h3,h1],h2⟩
theorem zH8 {P:Prop} [Decidable P] {r:Option (Tok×Nat)} {i n:Nat} {W w':World} {K M Z:Int} {S:ByteArray} {x:List Nat} (h1:P→r=some (⟨K,x,M⟩,n)) (h2:¬P→r=none) (hs:S=T x) (hz:Z=((i+n:Nat):Int)) (hb:Below W.heap.size W w') :
  RT r i W (.returned (.tuple #[.agg #[.int .i64 K,.string S,.int .i64 M,.int .i64 0],.int .i64 Z,.bool (decide P)])) w':=by
 by_cases h:P
 ·rw[decide_eq_true h];exact wW (h1 h) hs hz hb
 ·rw[decide_eq_false h];exact xL (h2 h) hb
def dotAt (l:List Nat) (p:Nat):Bool:=List.isPrefixOf [46] (l.drop p)
theorem zU8 {l:List Nat} {p:Nat} (h:dotAt l p=true):l[p]? = some 46∧l.drop p=46::l.drop (p+1):=by
 obtain⟨t,ht⟩:=List.isPrefixOf_iff_prefix.1 h;have h1:l[p]? = some 46:=by
  have:(l.drop p)[0]? = some 46:=by rw[←ht];rfl
  rw[List.getElem?_drop] at this
  simpa using this
 exact⟨h1,xE h1⟩
theorem zZu {l:List Nat} {p r:Nat} (h:dotAt l p=false) (hr:l[p]? = some r):r≠46:=by
 rintro rfl;unfold dotAt at h;rw[xE hr] at h
 simp at h
theorem zZv {d:List Nat} (h:wrd (T (d.take (cnt lng d)))=true):nameT d=some (⟨3,d.take (cnt lng d),0⟩,cnt lng d):=by unfold nameT;rw[if_pos h]
theorem iX {d:List Nat} (hw:wrd (T (d.take (cnt lng d)))=false) (hl:yK (d.take (cnt lng d))=true):nameT d=some (⟨1,d.take (cnt lng d),0⟩,cnt lng d):=by
 unfold nameT;rw[if_neg (by rw[hw];simp),if_pos hl]
theorem zZw {d:List Nat} (hw:wrd (T (d.take (cnt lng d)))=false) (hl:yK (d.take (cnt lng d))=false):nameT d=none:=by
 unfold nameT;rw[if_neg (by rw[hw];simp),if_neg (by rw[hl];simp)]
theorem tN {d:List Nat} {k:Nat} {b:Bool} (h:mZ d k b) (hd:List.isPrefixOf [46] (d.drop k)=false):cnt lng d=k:=by
 have h1:=h.cn;rw[iK hd] at h1;omega
theorem zU9 {d:List Nat} (ho:okl d) (hd:List.isPrefixOf [46] (d.drop (cnt inr d))=true):wrd (T (d.take (cnt lng d)))=false:=by
 obtain⟨t,ht⟩:=List.isPrefixOf_iff_prefix.1 hd;have hc:cnt lng d=cnt inr d+(1+cnt lng t):=by
  rw[aN d,←ht]
  rfl
 refine zBi (iS ho _) ?_;rw[hc,List.take_add,←ht]
 show 46∈_++(46::t).take (1+cnt lng t)
 rw[Nat.add_comm,List.take_succ_cons]
 simp
theorem zH9 (v:Value) (l:List Nat) (B i:Nat) (w:World) (h:Sl w B v l) (hB:B≤w.heap.size) (ho:okl l) (hl:l.length≤100000) (hi:i≤l.length) :
  Calls Tryz.prog 66 #[v,.int .i64 (i:Int)] w (RT (nameT (l.drop i)) i w):=by
 obtain⟨ANS,hans⟩:∃s,nameT (l.drop i)=s:=⟨_,rfl⟩;rw[hans];obtain⟨A,c,rfl,hlc,_⟩:=id h;have HSL:=Lib.hid h;obtain⟨d,hd⟩:∃d,l.drop i=d:=⟨_,rfl⟩;have hod:okl d:=by rw[←hd];exact mT ho i
 rw[hd] at hans;have HANS:=Lib.hid hans;obtain⟨h0,hh0⟩:∃h0,cnt inr d=h0:=⟨_,rfl⟩;have hle0:=kZ inr d;have hdl:d.length=l.length-i:=by rw[←hd,List.length_drop]
 rw[hh0] at hle0;have hbn:Below w.heap.size w (w.alloc (.cells #[.int .i64 0,.string ⟨#[]⟩,.int .i64 0,.int .i64 0] 53)):=(Below.refl _ _).alloc (Nat.le_refl _) _;have cH:=fun W (p:Nat) (hb:Below w.heap.size w W) (hp:p≤l.length)=>zMr (.slice A l.length c) l B p W (h.below (hb.mono hB)) hp (by omega)
 have cT:=fun(W:World) (p q:Nat) (hb:Below w.heap.size w W) (h1:p≤q) (h2:q≤l.length)=>iV (.slice A l.length c) l B p q W (h.below (hb.mono hB)) ho h1 h2 (by omega)
 have tsz:∀x:List Nat,x.length≤100000→(T x).size≤1000000000:=fun x hx=>by have:=zH2 x;rw[qO];omega
 have HH:=Lib.hid cH;have HT:=Lib.hid cT;have HTS:=Lib.hid tsz;obtain⟨n,hn⟩:∃n,l.length=n:=⟨_,rfl⟩;rw[hn] at hl hlc hi hdl HH HT HSL ⊢;have HN:=Lib.hid hn;have HD:=Lib.hid hd;have HH0:=Lib.hid hh0;have HDL:=Lib.hid hdl;have hdn:h0≤n-i:=by omega
 clear h hans hd hh0 hle0 hdl cH cT tsz hn;obtain⟨X,hX⟩:∃X,T (d.take h0)=X:=⟨_,rfl⟩;have HX:=Lib.hid hX;have hT0:∀(W:World),Below w.heap.size w W→Calls Tryz.prog 31 #[.slice A n c,.int .i64 (i:Int),.int .i64 ((i:Int)+(h0:Int))] W (vL X W):=by
  intro W hb;have:=HT.out W i (i+h0) hb (by omega) (by omega);rw[show i+h0-i=h0 by omega,HD.out,hX] at this;exact this
 have HT0:=Lib.hid hT0;have hH0:∀(W:World),Below w.heap.size w W→Calls Tryz.prog 130 #[.slice A n c,.int .i64 (i:Int)] W (pI h0 W):=by
  intro W hb;have:=HH.out W i hb (by omega);rw[HD.out,HH0.out] at this;exact this
 have HC0:=Lib.hid hH0;have hNS:mZ d h0 (pcs (d.take h0)):=by have:=zMt (d:=d) rfl;rw[HH0.out] at this;exact this
 have hpc0:pcs (d.take h0)=(!wrd X&&nm X):=by rw[←hX];rfl
 rw[hpc0] at hNS;have hXs:X.size≤1000000000:=by
  rw[←hX];refine HTS.out _ ?_;rw[List.length_take];have:=HDL.out;omega
 have HXS:=Lib.hid hXs;have hrc:=Rc.new_ w;have HRC:=Lib.hid hrc;have HBN:=Lib.hid hbn;clear hX hT0 hH0 hpc0 hXs hrc hbn;obtain⟨bw,hbw⟩:∃b,wrd X=b:=⟨_,rfl⟩;obtain⟨bn,hbn⟩:∃b,nm X=b:=⟨_,rfl⟩;have cWX:=fun W=>zXm X W
 have cNX:=fun W=>gY X W HXS.out
 rw[hbw] at cWX hNS;rw[hbn] at cNX hNS;have HNS:=Lib.hid hNS;have HWX:=Lib.hid cWX;have HNX:=Lib.hid cNX;have HBW:=Lib.hid hbw;clear hbw hbn cWX cNX hNS
 go_enter Tryz.func66,Tryz.ntmps66
 go_wp2_with fail;refine(HC0.out _ HBN.out).mono ?_;rintro e w' ⟨rfl,rfl⟩;go_wp2_with fail;refine(HT0.out _ HBN.out).mono ?_;rintro e w' ⟨rfl,rfl⟩;go_wp2_with fail;refine(HWX.out _).mono ?_;rintro e w1 ⟨rfl,hb1⟩;have hb2:=HBN.out.trans (hb1.mono (by simp));have hr2:=HRC.out.below hb1;have HB2:=Lib.hid hb2;have HR2:=Lib.hid hr2;clear hb1 hb2 hr2;obtain⟨⟨q0,q1,q2,q3⟩,f0,f1,f2,f3⟩:=HR2.out.cells;have hle2:w.heap.size≤w1.heap.size:=HB2.out.size
 cases bw
 rotate_left
 focus
  by_cases hend:i+h0<n
  rotate_left
  ·have hz:((i:Int)+(h0:Int)==(n:Int))=true:=by rw[beq_iff_eq];omega
   have hdd:List.isPrefixOf [46] (d.drop h0)=false:=by
    rw[←HD.out,List.drop_drop,List.drop_eq_nil_of_le (by rw[HN.out];omega)];rfl
   obtain hcn:=tN HNS.out hdd;have hk:=zZv (d:=d) (by rw[hcn,HX.out];exact HBW.out);rw[hcn] at hk;have HK:=Lib.hid hk;clear hcn hk hdd
   go_wp2
   refine bodyPost_ret (qG rfl _ _ w.heap.size _ _ (0,0) _ rfl (Rc.four HR2.out _ _ _ _) Tryz.underlying53 rfl (by kernel_rfl)) rfl ?_;exact wW (HANS.out.symm.trans HK.out) HX.out.symm (by omega) (qJ HB2.out (Nat.le_refl _) _ _ _ _)
  obtain⟨r,hr⟩:∃r,l[i+h0]? = some r:=⟨_,List.getElem?_eq_getElem (by rw[HN.out];exact hend)⟩;obtain⟨ad,hA,hc⟩:=pJ (HSL.out.below (HB2.out.mono hB)) hr;subst hA;have hz:((i:Int)+(h0:Int)==(n:Int))=false:=by rw[beq_eq_false_iff_ne];omega
  have hzl:(i:Int)+(h0:Int)<(n:Int):=by omega
  obtain⟨dot,hdot⟩:∃b,dotAt l (i+h0)=b:=⟨_,rfl⟩;have hdd0:List.isPrefixOf [46] (d.drop h0)=dotAt l (i+h0):=by
   rw[←HD.out,List.drop_drop];rfl
  cases dot
  ·have hr46:((r:Int)==46)=false:=by rw[beq_eq_false_iff_ne];have:=zZu hdot hr;omega
   have hdd:=hdd0.trans hdot;clear hr hdot hdd0;obtain hcn:=tN HNS.out hdd;have hk:=zZv (d:=d) (by rw[hcn,HX.out];exact HBW.out);rw[hcn] at hk;have HK:=Lib.hid hk;clear hcn hk hdd
   go_wp2
   refine bodyPost_ret (qG rfl _ _ w.heap.size _ _ (0,0) _ rfl (Rc.four HR2.out _ _ _ _) Tryz.underlying53 rfl (by kernel_rfl)) rfl ?_;exact wW (HANS.out.symm.trans HK.out) HX.out.symm (by omega) (qJ HB2.out (Nat.le_refl _) _ _ _ _)
  obtain⟨hr2,_⟩:=zU8 hdot;have hr3:r=46:=by rw[hr] at hr2;exact Option.some.inj hr2
  subst hr3;have hc46:((46:Nat):Int)=46:=rfl;rw[hc46] at hc;have HWF:=Lib.hid (zU9 hod (by rw[HH0.out];exact hdd0.trans hdot));clear hr hdot hdd0 hr2
  cases bn
  focus
   go_wp2_with fail;refine(HNX.out _).mono ?_;rintro e w2 ⟨rfl,hb3⟩;have HB0:=Lib.hid (HB2.out.trans (hb3.mono hle2));have HR0:=Lib.hid (HR2.out.below hb3);clear hb3;go_wp2_with fail
  rotate_left
  focus
   go_wp2_with fail;refine(HNX.out _).mono ?_;rintro e w2 ⟨rfl,hb3⟩;have hle3:=hb3.size;go_wp2_with fail;refine(HWX.out _).mono ?_;rintro e w3 ⟨rfl,hb4⟩;have HB0:=Lib.hid ((HB2.out.trans (hb3.mono hle2)).trans (hb4.mono (by omega)));have HR0:=Lib.hid ((HR2.out.below hb3).below hb4);clear hb3 hb4;go_wp2_with fail
  all_goals generalize (some ad:Option Addr)=A at *
 rotate_right
 focus
  have HWF:Hid (wrd (T (d.take (cnt lng d)))=false):=Lib.hid (by
   cases hdd:List.isPrefixOf [46] (d.drop h0)
   ·rw[tN HNS.out hdd,HX.out];exact HBW.out
   ·exact zU9 hod (by rw[HH0.out];exact hdd))
  cases bn
  focus
   go_wp2_with fail;refine(HNX.out _).mono ?_;rintro e w2 ⟨rfl,hb3⟩;have HB0:=Lib.hid (HB2.out.trans (hb3.mono hle2));have HR0:=Lib.hid (HR2.out.below hb3);clear hb3;go_wp2_with fail
  rotate_left
  focus
   go_wp2_with fail;refine(HNX.out _).mono ?_;rintro e w2 ⟨rfl,hb3⟩;have hle3:=hb3.size;go_wp2_with fail;refine(HWX.out _).mono ?_;rintro e w3 ⟨rfl,hb4⟩;have HB0:=Lib.hid ((HB2.out.trans (hb3.mono hle2)).trans (hb4.mono (by omega)));have HR0:=Lib.hid ((HR2.out.below hb3).below hb4);clear hb3 hb4;go_wp2_with fail
 all_goals
  go_loopw [7,8,9,10] (fun t x y _ wr=>∃(pt:Nat) (b:Bool) (Y:ByteArray),t = .int .i64 (pt:Int)∧x = .string Y∧y = .bool b∧i≤pt∧pt≤n∧mZ d (pt-i) b∧Below w.heap.size w wr∧Rc wr w.heap.size #[.int .i64 0,.string ⟨#[]⟩,.int .i64 0,.int .i64 0]) (fun t _ _ _ _=>n-(intOf t).toNat)
  case atStart=>exact⟨i+h0,_,_,rfl,rfl,rfl,by omega,by omega,by rw[Nat.add_sub_cancel_left];exact HNS.out,HB0.out,HR0.out⟩
  case round=>
   obtain⟨pt,b,Y0,rfl,rfl,rfl,hlo,hto,hrel,hbr,hrr⟩:=hrel;have HREL:=Lib.hid hrel;have HBR:=Lib.hid hbr;have HRR:=Lib.hid hrr;have hszr:=hbr.size;clear hrel hbr hrr
   cases b
   ·have hTx:∀(W:World),Below w.heap.size w W→Calls Tryz.prog 31 #[.slice A n c,.int .i64 (i:Int),.int .i64 (pt:Int)] W (vL (T (d.take (pt-i))) W):=by
     intro W hb;have:=HT.out W i pt hb (by omega) (by omega);rw[HD.out] at this;exact this
    obtain⟨Y,hY⟩:∃Y,T (d.take (pt-i))=Y:=⟨_,rfl⟩;rw[hY] at hTx;have HY:=Lib.hid hY;have HTX:=Lib.hid hTx;have hYs:Y.size=sz (d.take (pt-i)):=by rw[←hY,qO]
    have HYS:=Lib.hid hYs;clear hY hTx hYs;go_wp2_with fail;refine(HTX.out _ HBR.out).mono ?_;rintro e w' ⟨rfl,rfl⟩;obtain⟨⟨q0,q1,q2,q3⟩,f0,f1,f2,f3⟩:=HRR.out.cells
    go_wp2
    refine bodyPost_ret (qG rfl _ _ w.heap.size _ _ (0,0) _ rfl (Rc.four HRR.out _ _ _ _) Tryz.underlying53 rfl (by kernel_rfl)) rfl ?_;exact xL (HANS.out.symm.trans (zBj HREL.out HWF.out)) (qJ HBR.out (Nat.le_refl _) _ _ _ _)
   ·by_cases hlt:pt<n
    ·obtain⟨r,hr⟩:∃r,l[pt]? = some r:=⟨_,List.getElem?_eq_getElem (by rw[HN.out];exact hlt)⟩
     obtain⟨ad,hA,hc⟩:=pJ (HSL.out.below (HBR.out.mono hB)) hr;subst hA;have hzl:(pt:Int)<(n:Int):=by omega
     obtain⟨dot,hdot⟩:∃b,dotAt l pt=b:=⟨_,rfl⟩;have hdd0:List.isPrefixOf [46] (d.drop (pt-i))=dotAt l pt:=by
      rw[←HD.out,List.drop_drop,show i+(pt-i)=pt by omega];rfl
     cases dot
     ·have hr46:((r:Int)==46)=false:=by rw[beq_eq_false_iff_ne];have:=zZu hdot hr;omega
      have hdd:List.isPrefixOf [46] (d.drop (pt-i))=false:=hdd0.trans hdot;clear hr hdot hdd0;have hTx:∀(W:World),Below w.heap.size w W→Calls Tryz.prog 31 #[.slice (some ad) n c,.int .i64 (i:Int),.int .i64 (pt:Int)] W (vL (T (d.take (pt-i))) W):=by
       intro W hb;have:=HT.out W i pt hb (by omega) (by omega);rw[HD.out] at this;exact this
      obtain⟨Y,hY⟩:∃Y,T (d.take (pt-i))=Y:=⟨_,rfl⟩;rw[hY] at hTx;have HY:=Lib.hid hY;have HTX:=Lib.hid hTx;have hYs:Y.size=sz (d.take (pt-i)):=by rw[←hY,qO]
      have HYS:=Lib.hid hYs;clear hY hTx hYs;have hcn:=tN HREL.out hdd;have hl1:Y.size≤128→yK (d.take (cnt lng d))=true:=by
       intro h128;rw[hcn];unfold yK;rw[show(fun y=>!wrd (T y)&&nm (T y))=pcs from rfl,HREL.out.ps,Bool.and_true,decide_eq_true_iff];rw[←HYS.out];exact h128
      have hl2:¬Y.size≤128→yK (d.take (cnt lng d))=false:=by
       intro h128;rw[hcn];unfold yK;rw[Bool.and_eq_false_iff]
       left
       rw[decide_eq_false_iff_not,←HYS.out];exact h128
      have hf1:((Y.size:Int)≤128)→ANS=some (⟨1,d.take (pt-i),0⟩,pt-i):=fun h=>by
       rw[←HANS.out,iX HWF.out (hl1 (by omega)),hcn]
      have hf2:¬((Y.size:Int)≤128)→ANS=none:=fun h=>by
       rw[←HANS.out,zZw HWF.out (hl2 (by omega))]
      have HF1:=Lib.hid hf1;have HF2:=Lib.hid hf2;clear hl1 hl2 hf1 hf2 hcn;go_wp2_with fail;refine(HTX.out _ HBR.out).mono ?_;rintro e w' ⟨rfl,rfl⟩;obtain⟨⟨q0,q1,q2,q3⟩,f0,f1,f2,f3⟩:=HRR.out.cells
      go_wp2
      refine bodyPost_ret (qG rfl _ _ w.heap.size _ _ (0,0) _ rfl (Rc.four HRR.out _ _ _ _) Tryz.underlying53 rfl (by kernel_rfl)) rfl ?_;exact zH8 HF1.out (fun h=>HF2.out (by omega)) HY.out.symm (by omega) (qJ HBR.out (Nat.le_refl _) _ _ _ _)
     ·obtain⟨hr2,hdd⟩:=zU8 hdot
      have hr3:r=46:=by rw[hr] at hr2;exact Option.some.inj hr2
      subst hr3;have hc46:((46:Nat):Int)=46:=rfl;rw[hc46] at hc;have hd2:d.drop (pt-i)=46::l.drop (pt+1):=by rw[←HD.out,List.drop_drop,show i+(pt-i)=pt by omega];exact hdd
      obtain⟨h1,hh1⟩:∃h,cnt inr (l.drop (pt+1))=h:=⟨_,rfl⟩;have hh1l:=kZ inr (l.drop (pt+1));rw[List.length_drop,HN.out,hh1] at hh1l;have cH1:∀(W:World),Below w.heap.size w W→Calls Tryz.prog 130 #[.slice (some ad) n c,.int .i64 ((pt:Int)+1)] W (pI h1 W):=by
       intro W hb;have:=HH.out W (pt+1) hb (by omega);rw[hh1] at this;exact this
      obtain⟨Y,hY⟩:∃Y,T ((l.drop (pt+1)).take h1)=Y:=⟨_,rfl⟩;have cT1:∀(W:World),Below w.heap.size w W→Calls Tryz.prog 31 #[.slice (some ad) n c,.int .i64 ((pt:Int)+1),.int .i64 ((pt:Int)+1+(h1:Int))] W (vL Y W):=by
       intro W hb;have:=HT.out W (pt+1) (pt+1+h1) hb (by omega) (by omega);rw[show pt+1+h1-(pt+1)=h1 by omega,hY] at this;exact this
      have hYs:Y.size≤1000000000:=by
       rw[←hY];refine HTS.out _ ?_;rw[List.length_take,List.length_drop,HN.out];omega
      have hnx:mZ d (pt-i+1+h1) (!wrd Y&&nm Y):=by
       have:=zH7 HREL.out hd2 (b:=(!wrd Y&&nm Y)) (by rw[hh1,←hY];rfl);rw[hh1] at this;exact this
      rw[show pt-i+1+h1=pt+1+h1-i by omega] at hnx;obtain⟨bw1,hbw1⟩:∃b,wrd Y=b:=⟨_,rfl⟩;obtain⟨bn1,hbn1⟩:∃b,nm Y=b:=⟨_,rfl⟩;have cWY:=fun W=>zXm Y W
      have cNY:=fun W=>gY Y W hYs
      rw[hbw1] at cWY hnx;rw[hbn1] at cNY hnx;have HNX1:=Lib.hid hnx;have HWY:=Lib.hid cWY;have HNY:=Lib.hid cNY;have HH1:=Lib.hid cH1;have HT1:=Lib.hid cT1;clear hr hdot hdd0 hr2 hdd hd2 hh1 hY hYs hnx hbw1 hbn1 cWY cNY cH1 cT1
      cases bn1
      ·go_wp2_with fail
       refine(HH1.out _ HBR.out).mono ?_;rintro e w' ⟨rfl,rfl⟩;go_wp2_with fail;refine(HT1.out _ HBR.out).mono ?_;rintro e w' ⟨rfl,rfl⟩;go_wp2_with fail;refine(HNY.out _).mono ?_;rintro e w5 ⟨rfl,hb5⟩;have HB5:=Lib.hid hb5;clear hb5;go_wp2_with fail
       go_roundw
       case rel=>exact⟨pt+1+h1,_,_,rfl,rfl,rfl,by omega,by omega,by simpa using HNX1.out,HBR.out.trans (HB5.out.mono hszr),HRR.out.below HB5.out⟩
       case measure=>simp[intOf];omega
      ·go_wp2_with fail
       refine(HH1.out _ HBR.out).mono ?_;rintro e w' ⟨rfl,rfl⟩;go_wp2_with fail;refine(HT1.out _ HBR.out).mono ?_;rintro e w' ⟨rfl,rfl⟩;go_wp2_with fail;refine(HNY.out _).mono ?_;rintro e w5 ⟨rfl,hb5⟩;have HB5:=Lib.hid hb5;have hsz5:=hb5.size;clear hb5;go_wp2_with fail;refine(HWY.out _).mono ?_;rintro e w6 ⟨rfl,hb6⟩;have HB6:=Lib.hid hb6;clear hb6;go_wp2_with fail
       go_roundw
       case rel=>exact⟨pt+1+h1,_,_,rfl,rfl,rfl,by omega,by omega,by simpa using HNX1.out,(HBR.out.trans (HB5.out.mono hszr)).trans (HB6.out.mono (by omega)),(HRR.out.below HB5.out).below HB6.out⟩
       case measure=>simp[intOf];omega
    ·have hzl:¬(pt:Int)<(n:Int):=by omega
     have hdd:List.isPrefixOf [46] (d.drop (pt-i))=false:=by
      rw[←HD.out,List.drop_drop,List.drop_eq_nil_of_le (by rw[HN.out];omega)];rfl
     have hTx:∀(W:World),Below w.heap.size w W→Calls Tryz.prog 31 #[.slice A n c,.int .i64 (i:Int),.int .i64 (pt:Int)] W (vL (T (d.take (pt-i))) W):=by
      intro W hb;have:=HT.out W i pt hb (by omega) (by omega);rw[HD.out] at this;exact this
     obtain⟨Y,hY⟩:∃Y,T (d.take (pt-i))=Y:=⟨_,rfl⟩;rw[hY] at hTx;have HY:=Lib.hid hY;have HTX:=Lib.hid hTx;have hYs:Y.size=sz (d.take (pt-i)):=by rw[←hY,qO]
     have HYS:=Lib.hid hYs;clear hY hTx hYs;have hcn:=tN HREL.out hdd;have hl1:Y.size≤128→yK (d.take (cnt lng d))=true:=by
      intro h128;rw[hcn];unfold yK;rw[show(fun y=>!wrd (T y)&&nm (T y))=pcs from rfl,HREL.out.ps,Bool.and_true,decide_eq_true_iff];rw[←HYS.out];exact h128
     have hl2:¬Y.size≤128→yK (d.take (cnt lng d))=false:=by
      intro h128;rw[hcn];unfold yK;rw[Bool.and_eq_false_iff]
      left
      rw[decide_eq_false_iff_not,←HYS.out];exact h128
     have hf1:((Y.size:Int)≤128)→ANS=some (⟨1,d.take (pt-i),0⟩,pt-i):=fun h=>by
      rw[←HANS.out,iX HWF.out (hl1 (by omega)),hcn]
     have hf2:¬((Y.size:Int)≤128)→ANS=none:=fun h=>by
      rw[←HANS.out,zZw HWF.out (hl2 (by omega))]
     have HF1:=Lib.hid hf1;have HF2:=Lib.hid hf2;clear hl1 hl2 hf1 hf2 hcn;go_wp2_with fail;refine(HTX.out _ HBR.out).mono ?_;rintro e w' ⟨rfl,rfl⟩;obtain⟨⟨q0,q1,q2,q3⟩,f0,f1,f2,f3⟩:=HRR.out.cells
     go_wp2
     refine bodyPost_ret (qG rfl _ _ w.heap.size _ _ (0,0) _ rfl (Rc.four HRR.out _ _ _ _) Tryz.underlying53 rfl (by kernel_rfl)) rfl ?_;exact zH8 HF1.out (fun h=>HF2.out (by omega)) HY.out.symm (by omega) (qJ HBR.out (Nat.le_refl _) _ _ _ _)
def bstep (d b x:List Nat):List Nat:=if x.isPrefixOf d&&decide (b.length<x.length) then x else b
def bst (d:List Nat) (k:Nat):List Nat:=(RS.take k).foldl (bstep d) []
theorem zRh (k:Nat) (h:k<17):RS[k]? = some (rs k):=by
 unfold rs;rw[List.getD_eq_getElem?_getD,List.getElem?_eq_getElem (show k<RS.length from h)]
 rfl
theorem zUa (d:List Nat) {k:Nat} (h:k<17):bst d (k+1)=bstep d (bst d k) (rs k):=by
 unfold bst;rw[List.take_add_one,zRh k h,List.foldl_append]
 rfl
theorem zHa (k:Nat) (h:k<17):rs k∈RS:=List.mem_of_getElem? (zRh k h)
theorem yYu:∀x∈RS,(∀r∈x,r<128)∧1≤x.length∧x.length≤2:=by decide
theorem zHb (d:List Nat):∀k,k≤17→bst d k=[]∨bst d k∈RS
 | 0,_=>.inl rfl
 | k+1,h=>by
  rw[zUa d (by omega)];unfold bstep
  split
  ·exact .inr (zHa k (by omega))
  ·exact zHb d k (by omega)
theorem zBk (d:List Nat) {k:Nat} (h:k≤17):(∀r∈bst d k,r<128)∧(bst d k).length≤2:=by
 rcases zHb d k h with e | e
 ·rw[e];simp
 ·have:=yYu _ e;exact⟨this.1,this.2.2⟩
def ofb (b:List Nat):Option (Tok×Nat):=match b with | []=>none | b=>some (⟨3,b,0⟩,b.length)
theorem zHc (d:List Nat):signT d=ofb (bst d 17):=by
 cases d with
 | nil=>rfl
 | cons r u=>
  by_cases h40:r=40;· subst h40;rfl
  by_cases h41:r=41;· subst h41;rfl
  by_cases h123:r=123;· subst h123;rfl
  by_cases h125:r=125;· subst h125;rfl
  by_cases h44:r=44;· subst h44;rfl
  by_cases h42:r=42;· subst h42;rfl
  by_cases h43:r=43;· subst h43;rfl
  by_cases h60:r=60;· subst h60;rfl
  by_cases h124:r=124;· subst h124;rfl
  by_cases h58:r=58
  ·subst h58
   cases u with
   | nil=>rfl
   | cons q t=>
    by_cases hq:q=62;· subst hq;rfl
    have e:((62:Nat)==q)=false:=by rw[beq_eq_false_iff_ne];omega
    simp[signT,SIGNS,bst,RS,bstep,ofb,List.isPrefixOf,e,List.find?]
  by_cases h61:r=61
  ·subst h61
   cases u with
   | nil=>rfl
   | cons q t=>
    by_cases hq:q=62;· subst hq;rfl
    have e:((62:Nat)==q)=false:=by rw[beq_eq_false_iff_ne];omega
    simp[signT,SIGNS,bst,RS,bstep,ofb,List.isPrefixOf,e,List.find?]
  by_cases h45:r=45
  ·subst h45
   cases u with
   | nil=>rfl
   | cons q t=>
    by_cases hq:q=62;· subst hq;rfl
    have e:((62:Nat)==q)=false:=by rw[beq_eq_false_iff_ne];omega
    simp[signT,SIGNS,bst,RS,bstep,ofb,List.isPrefixOf,e,List.find?]
  by_cases h35:r=35
  ·subst h35
   cases u with
   | nil=>rfl
   | cons q t=>
    by_cases hq:q=49;· subst hq;rfl
    by_cases hq2:q=50;· subst hq2;rfl
    have e:((49:Nat)==q)=false:=by rw[beq_eq_false_iff_ne];omega
    have e2:((50:Nat)==q)=false:=by rw[beq_eq_false_iff_ne];omega
    simp[signT,SIGNS,bst,RS,bstep,ofb,List.isPrefixOf,e,e2,List.find?]
  have hb:∀c:Nat,c≠r→(c==r)=false:=fun c h=>by rw[beq_eq_false_iff_ne];exact h
  simp[signT,SIGNS,bst,RS,bstep,ofb,List.isPrefixOf,List.find?,hb 40 (Ne.symm h40),hb 41 (Ne.symm h41),hb 123 (Ne.symm h123),hb 125 (Ne.symm h125),hb 44 (Ne.symm h44),hb 42 (Ne.symm h42),hb 43 (Ne.symm h43),hb 60 (Ne.symm h60),hb 124 (Ne.symm h124),hb 58 (Ne.symm h58),hb 61 (Ne.symm h61),hb 45 (Ne.symm h45),hb 35 (Ne.symm h35)]
def rsV:Array Value:=(RS.map fun x=>Value.string (T x)).toArray
theorem yWg (k:Nat) (h:k<17):rsV[k]? = some (.string (T (rs k))):=by
 unfold rsV;rw[List.getElem?_toArray,List.getElem?_map,zRh k h]
 rfl
theorem zMu (w:World):Calls Tryz.prog 68 #[] w fun e w'=>e = .returned (.slice (some ⟨w.heap.size,0,none⟩) 17 17)∧w'=w.alloc (.cells rsV 9):=by
 have hv:rsV=#[.string ⟨#[40]⟩]++rsV.extract 1 17:=by kernel_rfl
 clear hv
 go_enter Tryz.func68,Tryz.ntmps68
 go_wp2
 go_ret
 refine⟨rfl,?_⟩;exact congrArg (fun c=>w.alloc (.cells c 9)) (by kernel_rfl)
theorem zXq {r:Option (Tok×Nat)} {i:Nat} {W w':World} {K M Z:Int} {S:ByteArray} (h:∀t n,r=some (t,n)→K=t.k∧S=T t.x∧M=t.n∧Z=((i+n:Nat):Int)) (hb:Below W.heap.size W w') :
  RT r i W (.returned (.tuple #[.agg #[.int .i64 K,.string S,.int .i64 M,.int .i64 0],.int .i64 Z,.bool r.isSome])) w':=⟨⟨K,S,M,Z,rfl,h⟩,hb⟩
theorem yWh {x d:List Nat} (hx:∀r∈x,r<128) (hd:okl d):x.isPrefixOf d=decide (T (d.take x.length)=T x):=by
 rw[Bool.eq_iff_iff,List.isPrefixOf_iff_prefix,decide_eq_true_iff,List.prefix_iff_eq_take];exact⟨fun h=>by rw[←h],fun h=>(zIo (iS hd _) (xK hx) h).symm⟩
theorem zMv {x d:List Nat} (h:d.length<x.length):x.isPrefixOf d=false:=by
 cases hp:x.isPrefixOf d
 ·rfl
 ·have:=(List.isPrefixOf_iff_prefix.1 hp).length_le;omega
theorem wG (v:Value) (l:List Nat) (B i r:Nat) (w:World) (h:Sl w B v l) (hB:B≤w.heap.size) (ho:okl l) (hl:l.length≤100000) (hr:l[i]? = some r) (hop:opens (l.drop i)=false) :
  Calls Tryz.prog 34 #[v,.int .i64 (i:Int)] w (RT (tokT (l.drop i)) i w):=by
 have hi:i<l.length:=(List.getElem?_eq_some_iff.1 hr).1;have hd:l.drop i=r::l.drop (i+1):=xE hr;have ht:tokT (l.drop i)=if cls r=1 then nameT (l.drop i) else if cls r=2∨r=126 then numT (l.drop i) else if opens (l.drop i) then none else signT (l.drop i):=by rw[hd];rfl
 rw[hop] at ht;obtain⟨A,c,rfl,hlc,_⟩:=id h;have HSL:=Lib.hid h;have hbn:Below w.heap.size w (w.alloc (.cells #[.int .i64 0,.string ⟨#[]⟩,.int .i64 0,.int .i64 0] 53)):=(Below.refl _ _).alloc (Nat.le_refl _) _;obtain⟨ad,rfl,hc⟩:=pJ (h.below (hbn.mono hB)) hr;have cC:=fun W=>gC (r:Int) W
 obtain⟨k0,hk0⟩:∃c,cls (r:Int)=c:=⟨_,rfl⟩;rw[hk0] at cC ht;have HRC:=Lib.hid (Rc.new_ w);have HBN:=Lib.hid hbn;have cN:=fun W (hb:Below w.heap.size w W)=>zH9 (.slice (some ad) l.length c) l B i W (h.below (hb.mono hB)) (Nat.le_trans hB hb.size) ho hl (Nat.le_of_lt hi)
 have cM:=fun W (hb:Below w.heap.size w W)=>zRf (.slice (some ad) l.length c) l B i W (h.below (hb.mono hB)) (Nat.le_trans hB hb.size) (by omega) hi
 have cT:=fun(W:World) (p q:Nat) (hb:Below w.heap.size w W) (h1:p≤q) (h2:q≤l.length)=>iV (.slice (some ad) l.length c) l B p q W (h.below (hb.mono hB)) ho h1 h2 (by omega)
 have HN:=Lib.hid cN;have HM:=Lib.hid cM;have HT:=Lib.hid cT;obtain⟨d,hdd⟩:∃d,l.drop i=d:=⟨_,rfl⟩;have hod:okl d:=by rw[←hdd];exact mT ho i
 have hdl:d.length=l.length-i:=by rw[←hdd,List.length_drop]
 rw[hdd] at ht HN HM ⊢;have HDD:=Lib.hid hdd;obtain⟨n,hn⟩:∃n,l.length=n:=⟨_,rfl⟩;rw[hn] at hl hlc hi hdl HN HM HT HSL ⊢;have HLN:=Lib.hid hn;have HDL:=Lib.hid hdl;clear h hd hop hbn hk0 cN cM cT hdd hn hr hdl
 by_cases h1:k0=1
 ·subst h1
  rw[if_pos rfl] at ht;rw[ht];clear ht
  go_enter Tryz.func34,Tryz.ntmps34
  go_wp2_with fail;refine(cC _).mono ?_;rintro e w' ⟨rfl,rfl⟩;go_wp2_with fail;refine(HN.out _ HBN.out).mono ?_;rintro e w2 ⟨⟨K,S,M,Z,rfl,hv⟩,hb2⟩;have HV:=Lib.hid hv;have HR2:=Lib.hid (HRC.out.below hb2);have HB2:=Lib.hid (HBN.out.trans (hb2.mono (by simp)));clear hv hb2;obtain⟨⟨q0,q1,q2,q3⟩,f0,f1,f2,f3⟩:=HR2.out.cells
  go_wp2
  refine bodyPost_ret (qG rfl _ _ w.heap.size _ _ (0,0) _ rfl (Rc.four HR2.out _ _ _ _) Tryz.underlying53 rfl (by kernel_rfl)) rfl ?_;exact zXq HV.out (qJ HB2.out (Nat.le_refl _) _ _ _ _)
 ·have hne1:(k0==1)=false:=by rw[beq_eq_false_iff_ne];exact h1
  rw[if_neg h1] at ht
  by_cases h2:k0=2∨r=126
  ·rw[if_pos h2] at ht
   rw[ht];clear ht;have h2b:(k0==2||(r:Int)==126)=true:=by
    rcases h2 with e | e
    ·rw[e];rfl
    ·rw[e];simp
   go_enter Tryz.func34,Tryz.ntmps34
   go_wp2_with fail;refine(cC _).mono ?_;rintro e w' ⟨rfl,rfl⟩
   by_cases h2a:k0=2
   ·subst h2a
    go_wp2_with fail;refine(HM.out _ HBN.out).mono ?_;rintro e w2 ⟨⟨K,S,M,Z,rfl,hv⟩,hb2⟩;have HV:=Lib.hid hv;have HR2:=Lib.hid (HRC.out.below hb2);have HB2:=Lib.hid (HBN.out.trans (hb2.mono (by simp)));clear hv hb2;obtain⟨⟨q0,q1,q2,q3⟩,f0,f1,f2,f3⟩:=HR2.out.cells
    go_wp2
    refine bodyPost_ret (qG rfl _ _ w.heap.size _ _ (0,0) _ rfl (Rc.four HR2.out _ _ _ _) Tryz.underlying53 rfl (by kernel_rfl)) rfl ?_;exact zXq HV.out (qJ HB2.out (Nat.le_refl _) _ _ _ _)
   ·have h2c:r=126:=by omega
    subst h2c;have h2d:(k0==2)=false:=by rw[beq_eq_false_iff_ne];exact h2a
    go_wp2_with fail;refine(HM.out _ HBN.out).mono ?_;rintro e w2 ⟨⟨K,S,M,Z,rfl,hv⟩,hb2⟩;have HV:=Lib.hid hv;have HR2:=Lib.hid (HRC.out.below hb2);have HB2:=Lib.hid (HBN.out.trans (hb2.mono (by simp)));clear hv hb2;obtain⟨⟨q0,q1,q2,q3⟩,f0,f1,f2,f3⟩:=HR2.out.cells
    go_wp2
    refine bodyPost_ret (qG rfl _ _ w.heap.size _ _ (0,0) _ rfl (Rc.four HR2.out _ _ _ _) Tryz.underlying53 rfl (by kernel_rfl)) rfl ?_;exact zXq HV.out (qJ HB2.out (Nat.le_refl _) _ _ _ _)
  ·rw[if_neg h2,if_neg (by simp)] at ht
   have hne2:(k0==2)=false:=by rw[beq_eq_false_iff_ne];omega
   have hne3:((r:Int)==126)=false:=by rw[beq_eq_false_iff_ne];omega
   rw[ht];obtain⟨ANS,hans⟩:∃s,signT d=s:=⟨_,rfl⟩;rw[hans];have HANS:=Lib.hid hans;obtain⟨V,hV⟩:∃V,rsV=V:=⟨_,rfl⟩;have cS:=fun W=>zMu W
   rw[hV] at cS;have HV:=Lib.hid hV;clear ht hans hV h1 h2
   go_enter Tryz.func34,Tryz.ntmps34
   go_wp2_with fail;refine(cC _).mono ?_;rintro e w' ⟨rfl,rfl⟩;go_wp2_with fail;refine(cS _).mono ?_;rintro e w1 ⟨rfl,rfl⟩;have hs1:(w.alloc (.cells #[.int .i64 0,.string ⟨#[]⟩,.int .i64 0,.int .i64 0] 53)).heap.size=w.heap.size+1:=by simp
   have hbv:=heap_alloc_new (w.alloc (.cells #[.int .i64 0,.string ⟨#[]⟩,.int .i64 0,.int .i64 0] 53)) (.cells V 9 (0,0));have hb2:Below w.heap.size w ((w.alloc (.cells #[.int .i64 0,.string ⟨#[]⟩,.int .i64 0,.int .i64 0] 53)).alloc (.cells V 9 (0,0))):=HBN.out.alloc (by simp) _;have hr2:=HRC.out.below ((Below.refl _ _).alloc (Nat.le_refl _) (.cells V 9 (0,0)));rw[hs1] at hbv;have HBV:=Lib.hid hbv;have HB2:=Lib.hid hb2;have HR2:=Lib.hid hr2;clear hbv hb2 hr2;go_wp2_with fail
   generalize (w.alloc (.cells #[.int .i64 0,.string ⟨#[]⟩,.int .i64 0,.int .i64 0] 53)).alloc (.cells V 9 (0,0))=W0 at HBV HB2 HR2 ⊢
   go_loopw [9,10,11] (fun x y _ wr=>∃(k:Nat) (b:List Nat),x = .string (T b)∧y = .int .i64 (k:Int)∧k≤17∧bst d k=b∧Below w.heap.size w wr∧Rc wr w.heap.size #[.int .i64 0,.string ⟨#[]⟩,.int .i64 0,.int .i64 0]∧wr.heap[w.heap.size+1]? = some (.cells V 9 (0,0))) (fun _ y _ _=>17-(intOf y).toNat)
   case atStart=>exact⟨0,[],rfl,rfl,by omega,rfl,HB2.out,HR2.out,HBV.out⟩
   case round=>
    obtain⟨k,b,rfl,rfl,hk,hb,hbr,hrr,hbk⟩:=hrel;have hbl:=zBk d hk;rw[hb] at hbl;obtain⟨S,hS⟩:∃S,T b=S:=⟨_,rfl⟩;have hSz:S.size=b.length:=by rw[←hS,qO,fV hbl.1]
    rw[hS];have HBR:=Lib.hid hbr;have HRR:=Lib.hid hrr;have HBK:=Lib.hid hbk;have HS:=Lib.hid hS;have HBB:=Lib.hid hb;have HBL:=Lib.hid hbl;clear hbr hrr hb hS hbl
    by_cases hlt:k<17
    ·have hcell:wr.cell? ⟨w.heap.size+1,k,none⟩=some (.string (T (rs k))):=by
      rw[cell_of_row wr _ k _ _ _ hbk,←HV.out];exact yWg k hlt
     have hrk:=yYu _ (zHa k hlt);have hsu:=zUa d hlt;rw[HBB.out] at hsu;obtain⟨x,hx⟩:∃x,rs k=x:=⟨_,rfl⟩;rw[hx] at hcell hrk hsu;obtain⟨X,hX⟩:∃X,T x=X:=⟨_,rfl⟩;have hXz:X.size=x.length:=by rw[←hX,qO,fV hrk.1]
     rw[hX] at hcell;unfold bstep at hsu;have hx2:=hrk.2.2;have HX:=Lib.hid hX;have HRK:=Lib.hid hrk;have HXZ:=Lib.hid hXz;have HSZ:=Lib.hid hSz;have hX2:X.size≤2:=by omega
     have hS2:S.size≤2:=by have:=HBL.out.2;omega
     clear hbk hx hX hrk
     by_cases hfit:i+X.size≤n
     ·have hzf:(i:Int)+(X.size:Int)≤(n:Int):=by omega
      obtain⟨Y,hY⟩:∃Y,T (d.take X.size)=Y:=⟨_,rfl⟩;have cQ:∀m,Calls Tryz.prog 31 #[.slice (some ad) n c,.int .i64 (i:Int),.int .i64 ((i:Int)+(X.size:Int))] (wr.drewN m) fun e w'=>e = .returned (.string Y)∧w'=wr.drewN m:=by
       intro m;have:=HT.out (wr.drewN m) i (i+X.size) (HBR.out.trans (qD (Below.refl _ _) _)) (by omega) hfit;rw[HDD.out,show i+X.size-i=X.size by omega,hY] at this;exact this.mono fun _ _ ⟨h1,h2⟩=>⟨h1,h2.symm⟩
      rw[yWh HRK.out.1 hod,HX.out,←HXZ.out,hY,←HSZ.out] at hsu;have HSU:=Lib.hid hsu;clear hsu hY hXz hSz
      by_cases he:Y=X
      ·have e1:(Y.toList==X.toList)=true:=by rw[he];simp
       by_cases hln:S.size<X.size
       ·have hzl:(S.size:Int)<(X.size:Int):=by omega
        have HNX:Hid (bst d (k+1)=x):=Lib.hid (by rw[HSU.out];simp[he,hln]);clear he hln;go_wp2_with fail
        go_quiet ((go_at_call 31;exact Calls.quiet_of_same (cQ _)))
        go_wp2_with fail
        go_roundw
        case rel=>exact⟨k+1,x,by rw[HX.out],by go_num,by omega,HNX.out,HBR.out.trans (qD (Below.refl _ _) _),HRR.out.below (qD (Below.refl _ _) _),qS HBK.out (qD (Below.refl _ _) _)⟩
        case measure=>simp[intOf];omega
       ·have hzl:¬(S.size:Int)<(X.size:Int):=by omega
        have HNX:Hid (bst d (k+1)=b):=Lib.hid (by rw[HSU.out];simp[hln]);clear he hln;go_wp2_with fail
        go_quiet ((go_at_call 31;exact Calls.quiet_of_same (cQ _)))
        go_wp2_with fail
        go_roundw
        case rel=>exact⟨k+1,b,by rw[HS.out],by go_num,by omega,HNX.out,HBR.out.trans (qD (Below.refl _ _) _),HRR.out.below (qD (Below.refl _ _) _),qS HBK.out (qD (Below.refl _ _) _)⟩
        case measure=>simp[intOf];omega
      ·have e1:(Y.toList==X.toList)=false:=by
        rw[beq_eq_false_iff_ne];intro h;rw[Lib.toList_data,Lib.toList_data] at h;exact he (jK h)
       have HNX:Hid (bst d (k+1)=b):=Lib.hid (by rw[HSU.out];simp[he]);clear he;go_wp2_with fail
       go_quiet ((go_at_call 31;exact Calls.quiet_of_same (cQ _)))
       go_wp2_with fail
       go_roundw
       case rel=>exact⟨k+1,b,by rw[HS.out],by go_num,by omega,HNX.out,HBR.out.trans (qD (Below.refl _ _) _),HRR.out.below (qD (Below.refl _ _) _),qS HBK.out (qD (Below.refl _ _) _)⟩
       case measure=>simp[intOf];omega
     ·have hzf:decide ((i:Int)+(X.size:Int)≤(n:Int))=false:=by rw[decide_eq_false_iff_not];omega
      rw[zMv (by have:=HDL.out;omega)] at hsu;have HNX:Hid (bst d (k+1)=b):=Lib.hid (by rw[hsu];simp);clear hsu hXz hSz hfit;go_wp2_with fail
      go_quiet (fail)
      go_wp2_with fail
      go_roundw
      case rel=>exact⟨k+1,b,by rw[HS.out],by go_num,by omega,HNX.out,HBR.out.trans (qD (Below.refl _ _) _),HRR.out.below (qD (Below.refl _ _) _),qS HBK.out (qD (Below.refl _ _) _)⟩
      case measure=>simp[intOf];omega
    ·have hk17:k=17:=by omega
     subst hk17;have HF:Hid (ANS=ofb b):=Lib.hid (by rw[←HANS.out,zHc,HBB.out]);obtain⟨⟨q0,q1,q2,q3⟩,f0,f1,f2,f3⟩:=HRR.out.cells;have HSZ:=Lib.hid hSz;clear hbk hSz
     cases b with
     | nil=>
      have hS0:S=⟨#[]⟩:=by rw[←HS.out];rfl
      subst hS0;go_wp2_with fail;refine bodyPost_ret (qG rfl _ _ w.heap.size _ _ (0,0) _ rfl (Rc.four HRR.out _ _ _ _) Tryz.underlying53 rfl (by kernel_rfl)) rfl ?_;exact xL HF.out (qJ HBR.out (Nat.le_refl _) _ _ _ _)
     | cons b0 bt=>
      have hne:S.toList≠[]:=by
       intro h;rw[Lib.toList_data] at h;have h1:S.size=0:=by
        show S.data.toList.length=0
        rw[h];rfl
       have h2:S.size=bt.length+1:=HSZ.out;omega
      have hne2:S.toList.isEmpty=false:=by rw[List.isEmpty_eq_false_iff];exact hne
      have hne3:(S.toList==[])=false:=by rw[beq_eq_false_iff_ne];exact hne
      have hS2:S.size≤2:=by have:=HBL.out.2;have:=HSZ.out;omega
      go_wp2_with fail;refine bodyPost_ret (qG rfl _ _ w.heap.size _ _ (0,0) _ rfl (Rc.four HRR.out _ _ _ _) Tryz.underlying53 rfl (by kernel_rfl)) rfl ?_;exact wW HF.out HS.out.symm (by have:=HSZ.out;omega) (qJ HBR.out (Nat.le_refl _) _ _ _ _)
end Go.Proofs.YtbpijnalmakfaaaGreatDoor.B
