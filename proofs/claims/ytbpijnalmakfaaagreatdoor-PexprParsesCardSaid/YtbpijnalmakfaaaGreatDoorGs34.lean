/-
  Layer 7, the program's writer: arms; case, fold.
-/
import Derived.Test.YtbpijnalmakfaaaGreatDoorGs33
import Derived.Deep.DeepHandedRow
import Derived.Deep.DeepWitnessRowRef
import Derived.LaidLaws
import Derived.Lib.LaidIn
import Derived.Lib.LaidU8T
import Derived.MakeChecks
import Derived.OpenShut
import Derived.ProofKit
import Derived.SizedLaws
set_option maxHeartbeats 40000000
set_option maxRecDepth 100000
namespace Go.Proofs.YtbpijnalmakfaaaGreatDoor
open Go.RowKit
theorem zAp (c x t:ByteArray) {T:ByteArray} (h:T=c++⟨#[32]⟩++x++⟨#[32,61,62,32]⟩++t):jL ([c,x]++[kFat,t])=T.data.toList:=by
 rw[h];simp only[List.cons_append,List.nil_append,jL,List.map_cons,List.map_nil,jT,nmT,qN,List.append_assoc]
 rfl
theorem zAq (a c x t:ByteArray) {T:ByteArray} (h:T=a++⟨#[32,124,32]⟩++(c++⟨#[32]⟩++x++⟨#[32,61,62,32]⟩++t)):jL ([a,kBar,c,x]++[kFat,t])=T.data.toList:=by
 rw[h];simp only[List.cons_append,List.nil_append,jL,List.map_cons,List.map_nil,jT,nmT,qN,List.append_assoc]
 rfl
section
variable {W:World} {bw:Nat} {X:Nat→Obj→Prop}
def ArC (W:World) (bw:Nat) (f:Fr):Prop:=∀(j:Nat) c x b,f.get j=some (⟨34,0,c,x⟩,fr1 b)→WriC W bw b 0 (12*szT b)
def arY (Ys:List ByteArray) (f:Fr) (j:Nat):List ByteArray:=if j=0 then Ys else Ys++[kOf,txA qD (xM j f)]
theorem zFq (f:Fr) (h0:0<f.len) (hl:f.len≤100000) (hk:ArmOk B.nck B.long f) (hT:ArC W bw f) (hB:W.heap.size≤bw) (w:World) (kb ko cap:Nat) (hf:InF W (fun q=>q<W.heap.size) f kb ko) (n:Nat) (Ys:List ByteArray) (hs:St7 W bw X n Ys w) (hn:n+12*f.sz+1≤1000000) :
  Calls Tryz.prog 137 #[.pointer (some ⟨bw,0,none⟩),.slice (some ⟨kb,ko,none⟩) f.len cap] w (WrE W bw X (n+12*f.sz+1) (Ys++[kOf,txA qD f,kEnd])):=by
 have HF:=Lib.hid hf;have HS:=Lib.hid hs;have HK:=Lib.hid hk;have HT:=Lib.hid hT;have HNN:=Lib.hid hn;have HSZ:Hid (∀j,(xM j f).sz≤f.sz):=Lib.hid fun j=>zXf f j
 obtain⟨m,hm⟩:∃m,f.len=m:=⟨_,rfl⟩;have HM:=Lib.hid hm;rw[hm] at h0 hl ⊢;obtain⟨Z,hZ⟩:∃Z,Ys++[kOf,txA qD f,kEnd]=Z:=⟨_,rfl⟩;rw[hZ];have HZ:=Lib.hid hZ;have hst:Hid (St7 W bw X (n+12*(xM 0 f).sz) (arY Ys f 0) w):=Lib.hid (by unfold arY;rw[if_pos rfl];exact hs.more (by omega));clear hf hs hk hT hn hm hZ
 go_enter Tryz.func137,Tryz.ntmps137
 go_wp2_with fail
 go_loopw [4,9] (fun x y wr=>∃j:Nat,j≤m∧y = .int .i64 (j:Int)∧x = .string (if j=0 then kOf else kBar)∧St7 W bw X (n+12*(xM j f).sz) (arY Ys f j) wr) (fun _ y _=>m+1-(intOf y).toNat)
 case atStart=>exact⟨0,Nat.zero_le _,rfl,rfl,hst.out⟩
 case round=>
  obtain⟨j,hj,rfl,rfl,hsr⟩:=hrel;have HSR:=Lib.hid hsr;clear hsr;obtain⟨sg,hsg⟩:∃sg,(if j=0 then kOf else kBar)=sg:=⟨_,rfl⟩;rw[hsg];have HSG:=Lib.hid hsg;clear hsg
  by_cases hlt:j<m
  ·have hjz:(j:Int)<(m:Int):=by omega
   have hw1:IntKind.i64.wrap ((j:Int)+1)=((j+1:Nat):Int):=by rw[IntKind.wrap_i64];omega
   obtain⟨t,ht⟩:=Fr.get_some (f:=f) (i:=j) (by rw[HM.out];exact hlt);obtain⟨xc,xx,b,rfl,hc9,hx9,hb9⟩:=jW (gI HK.out ht);have cU:=HT.out j xc xx b ht;obtain⟨vc,hvc,hTc⟩:=HF.out.at ht;obtain⟨q1,p1,A1,cp1,rfl,hq1,m0,m1,m2,m3,m4,hcc1,hkid1⟩:=InT.open hTc;obtain⟨kb2,ko2,rfl,hkb2,⟨va,ka,ia⟩,-⟩:=hkid1 (by show 0<1;omega);obtain⟨qa,pa,rfl⟩:=InT.ptr ia;have hbt:=dE ht;have hsz:(xM (j+1) f).sz=(xM j f).sz+(1+szT b):=by
    rw[hbt,Fr.sz_app];have h1:(fr1 ((⟨34,0,xc,xx⟩,fr1 b):Tr)).sz=szT ((⟨34,0,xc,xx⟩:Nod),fr1 b):=by unfold szT;simp only[fr1,Fr.sz];omega
    have h2:szT ((⟨34,0,xc,xx⟩:Nod),fr1 b)=1+szT b:=vY _ b;rw[h1,h2]
   have hm1:=HSZ.out (j+1);have k4:W.cell? ⟨q1,p1+4,none⟩=some (.slice (some ⟨kb2,ko2,none⟩) 1 cp1):=m4;have ka:W.cell? ⟨kb2,ko2,none⟩=some (.pointer (some ⟨qa,pa,none⟩)):=ka;have m2:W.cell? ⟨q1,p1+2,none⟩=some (.string xc):=m2;have m3:W.cell? ⟨q1,p1+3,none⟩=some (.string xx):=m3;have HIA:Hid (HasT W (.pointer (some ⟨qa,pa,none⟩)) (some b)):=Lib.hid ia;have hvr:=HSR.out.1.cell hvc;have HM2:=Lib.hid m2;have HM3:=Lib.hid m3;have m2:=HSR.out.1.cell m2;have m3:=HSR.out.1.cell m3;have HK4:=Lib.hid k4;have HKA:=Lib.hid ka;have HBT:=Lib.hid hbt;have HSZ1:=Lib.hid hsz;have HM1:=Lib.hid hm1;have HCU:=Lib.hid cU;have HB9:=Lib.hid hb9;have cP:=fun w' (u:Up wr w')=>zFk sg xc xx hB (HSR.out.up u) (by have:=HNN.out;have:=HSZ.out j;omega)
   clear ht hTc m0 m1 m4 hkid1 ka ia hbt hsz hm1 cU hvc hc9 hx9 hb9 k4;go_wp2_with fail
   go_region_held3 (fun w'=>w'.cell? ⟨q1,p1+2,none⟩=some (.string xc)∧w'.cell? ⟨q1,p1+3,none⟩=some (.string xx)) (first | go_keep | (refine⟨?_,?_⟩<;>assumption)) (first
    | (go_at_call 70;refine Calls.mono (cP (wr.drewN 1) (qF (Below.refl _ _) 1)) ?_;rintro e2 w2 ⟨⟨x2,rfl⟩,h2⟩;have m2:=h2.1.cell HM2.out;have m3:=h2.1.cell HM3.out;have m4:=h2.1.cell HK4.out;have ma:=h2.1.cell HKA.out;have H2:=Lib.hid h2;clear h2 cP))
   all_goals go_wp2_with fail
   have h2:=H2.out;have cW:=yZ kFat b 0 _ hB HCU.out _ _ _ _ HIA.out h2 (by have:=HNN.out;have:=HSZ1.out;have:=HM1.out;omega);clear h2 hvr m2 m3;refine Calls.mono cW ?_;rintro en w3 ⟨⟨x3,rfl⟩,h3⟩;have H3:=Lib.hid h3;clear h3 cW m4 ma;go_wp2_with fail
   go_roundw
   case rel=>
    refine⟨j+1,by omega,rfl,by rw[if_neg (Nat.succ_ne_zero j)];rfl,?_⟩;have h:=H3.out;rw[gP] at h;unfold arY at h ⊢;rw[if_neg (Nat.succ_ne_zero j)];have e1:∀Z:ByteArray,Ys++[kOf,Z]=(Ys++[kOf])++[Z]:=fun Z=>by simp
    rw[e1]
    by_cases hj0:j=0
    ·rw[if_pos hj0] at h
     have hsg:kOf=sg:=by have:=HSG.out;rwa [if_pos hj0] at this
     rw[←hsg] at h;have e2:(Ys++[kOf,xc,xx])++[kFat,txE qD b]=(Ys++[kOf])++([xc,xx]++[kFat,txE qD b]):=by simp
     rw[e2] at h;refine St7.more (St7.join h (by simp) (zAp xc xx _ ?_)) (by have:=HSZ1.out;omega);have e0:xM 0 f = .nil:=by cases f<;>rfl
     rw[HBT.out,hj0,e0];exact zPu HB9.out
    ·rw[if_neg hj0] at h
     have hsg:kBar=sg:=by have:=HSG.out;rwa [if_neg hj0] at this
     rw[←hsg] at h;have e2:((Ys++[kOf,txA qD (xM j f)])++[kBar,xc,xx])++[kFat,txE qD b]=(Ys++[kOf])++([txA qD (xM j f),kBar,xc,xx]++[kFat,txE qD b]):=by simp
     rw[e2] at h;refine St7.more (St7.join h (by simp) (zAq _ xc xx _ ?_)) (by have:=HSZ1.out;omega);rw[HBT.out];exact zVs (by rw[iO f j (by rw[HM.out];omega)];omega) (aJ f j HK.out) HB9.out
   case measure=>simp[intOf];omega
  ·obtain rfl:j=m:=by omega
   have hjz:¬(j:Int)<(j:Int):=by omega
   have hend:xM j f=f:=by rw[←HM.out];exact iM f
   have hsr:=HSR.out;unfold arY at hsr;rw[hend,if_neg (by omega)] at hsr;have cP:=fC kEnd hB hsr (by have:=HNN.out;omega);clear hsr hend;go_wp2_with fail;refine Calls.mono cP ?_;rintro en w2 ⟨⟨x2,rfl⟩,h2⟩;have e:(Ys++[kOf,txA qD f])++[kEnd]=Z:=by rw[←HZ.out];simp
   rw[e] at h2;have H2:=Lib.hid h2;clear h2;go_wp2_with fail;go_end0;exact⟨⟨_,rfl⟩,H2.out⟩
theorem zAr (a k:ByteArray) {T:ByteArray} (h:T=⟨#[99,97,115,101,32]⟩++a++⟨#[32,111,102,32]⟩++(k++⟨#[32,101,110,100]⟩)):jL ([kCase,a]++[kOf,k,kEnd])=T.data.toList:=by
 rw[h];simp only[List.cons_append,List.nil_append,jL,List.map_cons,List.map_nil,jT,nmT,qN,List.append_assoc]
 rfl
theorem zAs (a t k:ByteArray) {T:ByteArray} (h:T=⟨#[102,111,108,100,32]⟩++a++⟨#[32,116,111,32]⟩++t++⟨#[32,111,102,32]⟩++(k++⟨#[32,101,110,100]⟩)):jL ([kFold,a]++([kTo,t]++[kOf,k,kEnd]))=T.data.toList:=by
 rw[h];simp only[List.cons_append,List.nil_append,jL,List.map_cons,List.map_nil,jT,nmT,qN,List.append_assoc]
 rfl
theorem zAt (a:Tr) (k:Fr) (hB:W.heap.size≤bw) (ea:isT B.nck B.long a 2=true) (cA:WriC W bw a 0 (12*szT a)) (h0:0<k.len) (hl:k.len≤100000) (hk:ArmOk B.nck B.long k) (hT:ArC W bw k):LoC W bw (nd 32 nob (.cons a.1 a.2 k)) (2+12*szT a+12*k.sz):=fun X w n Ys v hv hs hn=>by
 have hzz:=zAr (txE qD a) (txA qD k) (zPs (nb:=qD) ea h0 hk);obtain⟨q,p,A,cp0,rfl,hq,k0,k1,k2,k3,k4,hcc,hkid⟩:=InT.open hv;obtain⟨kb,ko,rfl,hkb,⟨vaa,kaa,iaa⟩,hf⟩:=hkid (Nat.succ_pos _);obtain⟨qa,pa,rfl⟩:=InT.ptr iaa;have k4:W.cell? ⟨q,p+4,none⟩=some (.slice (some ⟨kb,ko,none⟩) (k.len+1) cp0):=k4;have hcc:k.len+1≤cp0:=hcc;have kaa:W.cell? ⟨kb,ko,none⟩=some (.pointer (some ⟨qa,pa,none⟩)):=kaa;have HIa:Hid (HasT W (.pointer (some ⟨qa,pa,none⟩)) (some a)):=Lib.hid iaa;have HKa:=Lib.hid kaa;have HK4:=Lib.hid k4;have HK0:=Lib.hid k0;have HF:Hid (InF W (fun q=>q<W.heap.size) k kb (ko+1)):=Lib.hid hf;have HS:=Lib.hid hs;have HN:=Lib.hid hn;have HZZ:=Lib.hid hzz;obtain⟨ZZ,hZZ⟩:∃ZZ,Ys++[txE qD (nd 32 nob (.cons a.1 a.2 k))]=ZZ:=⟨_,rfl⟩;rw[hZZ];have HZ:=Lib.hid hZZ;have HcA:=Lib.hid cA;have HcT:=Lib.hid hT;have HcK:=Lib.hid hk;have cB:=fun w3 n3 Ys3 hs3 hn3=>zFq k h0 hl HcK.out HcT.out hB w3 kb (ko+1) (cp0-1) HF.out n3 Ys3 (X:=X) hs3 hn3
 obtain⟨m,hm⟩:∃m,k.len=m:=⟨_,rfl⟩;rw[hm] at hcc HK4 cB h0 hl;have HcB:=Lib.hid cB;clear hv hs hn hzz hZZ k0 k1 k2 k3 k4 hkid kaa iaa cA hf hk hT hm cB;have k0:w.cell? ⟨q,p,none⟩=_:=HS.out.1.cell HK0.out;have b1:(1:Int)≤(m:Int)+1:=by omega
 go_enter Tryz.func75,Tryz.ntmps75
 have c0:=yZ kCase a 0 _ hB HcA.out _ _ _ _ HIa.out HS.out (by have:=HN.out;omega);have m4:=HS.out.1.cell HK4.out;have ma:=HS.out.1.cell HKa.out;go_wp2_with fail;refine Calls.mono c0 ?_;rintro en w3 ⟨⟨x3,rfl⟩,h3⟩;have H3:=Lib.hid h3;clear h3 c0 m4 ma k0;have c1:=HcB.out _ _ _ H3.out (by have:=HN.out;omega);have m4:=H3.out.1.cell HK4.out;go_wp2_with fail;refine Calls.mono c1 ?_;rintro en w4 ⟨⟨x4,rfl⟩,h4⟩;have H4:=Lib.hid h4;clear h4 c1 m4;have hfin:=H4.out;rw[gP] at hfin;simp only[List.append_assoc] at hfin;have HF2:=Lib.hid (St7.more (m:=n+(2+12*szT a+12*k.sz)) (St7.join (Ys:=Ys) (Zs:=[kCase,txE qD a]++[kOf,txA qD k,kEnd]) hfin (by simp) HZZ.out) (by omega));clear hfin;go_wp2_with fail;go_end0;rw[←HZ.out];exact⟨⟨_,rfl⟩,HF2.out⟩
theorem zAu (a t:Tr) (k:Fr) (hB:W.heap.size≤bw) (hx:B.Nx W) (hp:Pl W) (hzT:szT t≤8192) (hdT:dpT t≤60) (hkT:okST t) (hTt:isT B.nck B.long t 1=true) (ea:isT B.nck B.long a 2=true) (cA:WriC W bw a 0 (12*szT a)) (h0:0<k.len) (hl:k.len≤100000) (hk:ArmOk B.nck B.long k) (hT:ArC W bw k):LoC W bw (nd 33 nob (.cons a.1 a.2 (.cons t.1 t.2 k))) (4+12*szT a+12*k.sz):=fun X w n Ys v hv hs hn=>by
 have hzz:=zAs (txE qD a) (tB (tkT t)) (txA qD k) (zPt (nb:=qD) ea hTt h0 hk);obtain⟨q,p,A,cp0,rfl,hq,k0,k1,k2,k3,k4,hcc,hkid⟩:=InT.open hv;obtain⟨kb,ko,rfl,hkb,⟨vaa,kaa,iaa⟩,⟨vtt,ktt,itt⟩,hf⟩:=hkid (Nat.succ_pos _);obtain⟨qa,pa,rfl⟩:=InT.ptr iaa;obtain⟨qt,pt,rfl⟩:=InT.ptr itt;have k4:W.cell? ⟨q,p+4,none⟩=some (.slice (some ⟨kb,ko,none⟩) (k.len+1+1) cp0):=k4;have hcc:k.len+1+1≤cp0:=hcc;have kaa:W.cell? ⟨kb,ko,none⟩=some (.pointer (some ⟨qa,pa,none⟩)):=kaa;have ktt:W.cell? ⟨kb,ko+1,none⟩=some (.pointer (some ⟨qt,pt,none⟩)):=ktt;have HIa:Hid (HasT W (.pointer (some ⟨qa,pa,none⟩)) (some a)):=Lib.hid iaa;have HIt:Hid (HasT W (.pointer (some ⟨qt,pt,none⟩)) (some t)):=Lib.hid itt;have HKa:=Lib.hid kaa;have HKt:=Lib.hid ktt;have HK4:=Lib.hid k4;have HK0:=Lib.hid k0;have HF:Hid (InF W (fun q=>q<W.heap.size) k kb (ko+1+1)):=Lib.hid hf;have HS:=Lib.hid hs;have HN:=Lib.hid hn;have HZZ:=Lib.hid hzz;obtain⟨ZZ,hZZ⟩:∃ZZ,Ys++[txE qD (nd 33 nob (.cons a.1 a.2 (.cons t.1 t.2 k)))]=ZZ:=⟨_,rfl⟩;rw[hZZ];have HZ:=Lib.hid hZZ;have HcA:=Lib.hid cA;have HcT:=Lib.hid hT;have HcK:=Lib.hid hk;have HTY:=Lib.hid fun w3 n3 Ys3 hs3 hn3=>zFl (X:=X) kTo t hB hx hp hzT hdT hkT hTt w3 n3 Ys3 (.pointer (some ⟨qt,pt,none⟩)) HIt.out hs3 hn3
 have cB:=fun w3 n3 Ys3 hs3 hn3=>zFq k h0 hl HcK.out HcT.out hB w3 kb (ko+2) (cp0-2) HF.out n3 Ys3 (X:=X) hs3 hn3
 obtain⟨m,hm⟩:∃m,k.len=m:=⟨_,rfl⟩;rw[hm] at hcc HK4 cB h0 hl;have HcB:=Lib.hid cB;clear hv hs hn hzz hZZ k0 k1 k2 k3 k4 hkid kaa iaa ktt itt cA hf hk hT hm cB hx hp hzT hdT hkT hTt;have k0:w.cell? ⟨q,p,none⟩=_:=HS.out.1.cell HK0.out;have b1:(2:Int)≤(m:Int)+1+1:=by omega
 go_enter Tryz.func75,Tryz.ntmps75
 have c0:=yZ kFold a 0 _ hB HcA.out _ _ _ _ HIa.out HS.out (by have:=HN.out;omega);have m4:=HS.out.1.cell HK4.out;have ma:=HS.out.1.cell HKa.out;go_wp2_with fail;refine Calls.mono c0 ?_;rintro en w3 ⟨⟨x3,rfl⟩,h3⟩;have H3:=Lib.hid h3;clear h3 c0 m4 ma k0;have c1:=HTY.out _ _ _ H3.out (by have:=HN.out;omega);have m4:=H3.out.1.cell HK4.out;have mt:=H3.out.1.cell HKt.out;go_wp2_with fail;refine Calls.mono c1 ?_;rintro en w4 ⟨⟨x4,rfl⟩,h4⟩;have H4:=Lib.hid h4;clear h4 c1 m4 mt;have c2:=HcB.out _ _ _ H4.out (by have:=HN.out;omega);have m4:=H4.out.1.cell HK4.out;go_wp2_with fail;refine Calls.mono c2 ?_;rintro en w5 ⟨⟨x5,rfl⟩,h5⟩;have H5:=Lib.hid h5;clear h5 c2 m4;have hfin:=H5.out;rw[gP] at hfin;simp only[List.append_assoc] at hfin;have HF2:=Lib.hid (St7.more (m:=n+(4+12*szT a+12*k.sz)) (St7.join (Ys:=Ys) (Zs:=[kFold,txE qD a]++([kTo,tB (tkT t)]++[kOf,txA qD k,kEnd])) hfin (by simp) HZZ.out) (by omega));clear hfin;go_wp2_with fail;go_end0;rw[←HZ.out];exact⟨⟨_,rfl⟩,HF2.out⟩
end
theorem zOo:∀{f:Fr} {i:Nat} {t:Tr},f.get i=some t→dpT t≤f.dp
 | .nil,_,_,h=>by cases h
 | .cons x k r,0,t,h=>by
  have h:(x,k)=t:=Option.some.inj h;subst h;unfold dpT;simp only[Fr.dp];omega
 | .cons x k r,i+1,t,h=>by
  have ih:=zOo (f:=r) (i:=i) h;simp only[Fr.dp];omega
section
variable {W:World} {bw:Nat}
theorem zFr {k:Fr} {n d:Nat} (hk:ArmOk B.nck B.long k) (ho:okS k) (hz:k.sz≤n) (hd:k.dp≤d) (ih:∀b,szT b≤n→(isT B.nck B.long b 2=true∧dpT b≤d∧okST b)→WriC W bw b 0 (12*szT b)):ArC W bw k:=fun j c x b hj=>by
 obtain⟨c',x',b',e,_,_,hb⟩:=jW (gI hk hj);injection e with e1 e2;injection e2 with e3 e4 _;have hg:=Fr.get_sz hj;have hd2:=zOo hj;have hz2:szT ((⟨34,0,c,x⟩:Nod),fr1 b)=1+szT b:=vY _ b;have hd3:dpT (((⟨34,0,c,x⟩:Nod),fr1 b):Tr)=1+(Fr.cons b.1 b.2 .nil).dp:=rfl;have hd4:dpT b=1+b.2.dp:=rfl;have hd5:b.2.dp<(Fr.cons b.1 b.2 .nil).dp:=by simp only[Fr.dp];omega
 obtain⟨_,_,o1,o2,o3,_⟩:=mK ho hj;have hbb:isT B.nck B.long b 2=true:=by
  have e5:b=b':=Prod.ext e3 e4;rw[e5];exact hb
 exact ih b (by omega) ⟨hbb,by omega,o1,o2,o3⟩
theorem yVi {x:Nod} {f:Fr} (hk:x.k=20):RuW W (x,f):=fun w v hv hu=>by
 have hl:((lvl x:Nat):Int)=5:=by unfold lvl;rw[hk];rfl
 show Calls _ _ _ _ fun e w'=>e = .returned (.int .i64 ((lvl x:Nat):Int))∧Up w w'
 rw[hl];obtain⟨q,p,A,c,rfl,hq,c0,-⟩:=InT.open hv;have k0:=hu.cell c0;rw[hk] at k0;clear c0 hv hk hl
 go_enter Tryz.func69,Tryz.ntmps69
 go_wp2_with fail
 go_ret
 exact⟨rfl,Up.refl _⟩
theorem yVj {x:Nod} {f:Fr} (hk:x.k=21):RuW W (x,f):=fun w v hv hu=>by
 have hl:((lvl x:Nat):Int)=5:=by unfold lvl;rw[hk];rfl
 show Calls _ _ _ _ fun e w'=>e = .returned (.int .i64 ((lvl x:Nat):Int))∧Up w w'
 rw[hl];obtain⟨q,p,A,c,rfl,hq,c0,-⟩:=InT.open hv;have k0:=hu.cell c0;rw[hk] at k0;clear c0 hv hk hl
 go_enter Tryz.func69,Tryz.ntmps69
 go_wp2_with fail
 go_ret
 exact⟨rfl,Up.refl _⟩
theorem yVk {x:Nod} {f:Fr} (hk:x.k=22):RuW W (x,f):=fun w v hv hu=>by
 have hl:((lvl x:Nat):Int)=5:=by unfold lvl;rw[hk];rfl
 show Calls _ _ _ _ fun e w'=>e = .returned (.int .i64 ((lvl x:Nat):Int))∧Up w w'
 rw[hl];obtain⟨q,p,A,c,rfl,hq,c0,-⟩:=InT.open hv;have k0:=hu.cell c0;rw[hk] at k0;clear c0 hv hk hl
 go_enter Tryz.func69,Tryz.ntmps69
 go_wp2_with fail
 go_ret
 exact⟨rfl,Up.refl _⟩
theorem yVl {x:Nod} {f:Fr} (hk:x.k=23):RuW W (x,f):=fun w v hv hu=>by
 have hl:((lvl x:Nat):Int)=5:=by unfold lvl;rw[hk];rfl
 show Calls _ _ _ _ fun e w'=>e = .returned (.int .i64 ((lvl x:Nat):Int))∧Up w w'
 rw[hl];obtain⟨q,p,A,c,rfl,hq,c0,-⟩:=InT.open hv;have k0:=hu.cell c0;rw[hk] at k0;clear c0 hv hk hl
 go_enter Tryz.func69,Tryz.ntmps69
 go_wp2_with fail
 go_ret
 exact⟨rfl,Up.refl _⟩
theorem yVm {x:Nod} {f:Fr} (hk:x.k=24):RuW W (x,f):=fun w v hv hu=>by
 have hl:((lvl x:Nat):Int)=0:=by unfold lvl;rw[hk];rfl
 show Calls _ _ _ _ fun e w'=>e = .returned (.int .i64 ((lvl x:Nat):Int))∧Up w w'
 rw[hl];obtain⟨q,p,A,c,rfl,hq,c0,-⟩:=InT.open hv;have k0:=hu.cell c0;rw[hk] at k0;clear c0 hv hk hl
 go_enter Tryz.func69,Tryz.ntmps69
 go_wp2_with fail
 go_ret
 exact⟨rfl,Up.refl _⟩
theorem yVn {x:Nod} {f:Fr} (hk:x.k=25):RuW W (x,f):=fun w v hv hu=>by
 have hl:((lvl x:Nat):Int)=4:=by unfold lvl;rw[hk];rfl
 show Calls _ _ _ _ fun e w'=>e = .returned (.int .i64 ((lvl x:Nat):Int))∧Up w w'
 rw[hl];obtain⟨q,p,A,c,rfl,hq,c0,-⟩:=InT.open hv;have k0:=hu.cell c0;rw[hk] at k0;clear c0 hv hk hl
 go_enter Tryz.func69,Tryz.ntmps69
 go_wp2_with fail
 go_ret
 exact⟨rfl,Up.refl _⟩
theorem yVo {x:Nod} {f:Fr} (hk:x.k=26):RuW W (x,f):=fun w v hv hu=>by
 have hl:((lvl x:Nat):Int)=5:=by unfold lvl;rw[hk];rfl
 show Calls _ _ _ _ fun e w'=>e = .returned (.int .i64 ((lvl x:Nat):Int))∧Up w w'
 rw[hl];obtain⟨q,p,A,c,rfl,hq,c0,-⟩:=InT.open hv;have k0:=hu.cell c0;rw[hk] at k0;clear c0 hv hk hl
 go_enter Tryz.func69,Tryz.ntmps69
 go_wp2_with fail
 go_ret
 exact⟨rfl,Up.refl _⟩
theorem yVp {x:Nod} {f:Fr} (hk:x.k=27):RuW W (x,f):=fun w v hv hu=>by
 have hl:((lvl x:Nat):Int)=5:=by unfold lvl;rw[hk];rfl
 show Calls _ _ _ _ fun e w'=>e = .returned (.int .i64 ((lvl x:Nat):Int))∧Up w w'
 rw[hl];obtain⟨q,p,A,c,rfl,hq,c0,-⟩:=InT.open hv;have k0:=hu.cell c0;rw[hk] at k0;clear c0 hv hk hl
 go_enter Tryz.func69,Tryz.ntmps69
 go_wp2_with fail
 go_ret
 exact⟨rfl,Up.refl _⟩
theorem yVq {x:Nod} {f:Fr} (hk:x.k=28):RuW W (x,f):=fun w v hv hu=>by
 have hl:((lvl x:Nat):Int)=5:=by unfold lvl;rw[hk];rfl
 show Calls _ _ _ _ fun e w'=>e = .returned (.int .i64 ((lvl x:Nat):Int))∧Up w w'
 rw[hl];obtain⟨q,p,A,c,rfl,hq,c0,-⟩:=InT.open hv;have k0:=hu.cell c0;rw[hk] at k0;clear c0 hv hk hl
 go_enter Tryz.func69,Tryz.ntmps69
 go_wp2_with fail
 go_ret
 exact⟨rfl,Up.refl _⟩
theorem yVr {x:Nod} {f:Fr} (hk:x.k=29):RuW W (x,f):=fun w v hv hu=>by
 have hl:((lvl x:Nat):Int)=0:=by unfold lvl;rw[hk];rfl
 show Calls _ _ _ _ fun e w'=>e = .returned (.int .i64 ((lvl x:Nat):Int))∧Up w w'
 rw[hl];obtain⟨q,p,A,c,rfl,hq,c0,-⟩:=InT.open hv;have k0:=hu.cell c0;rw[hk] at k0;clear c0 hv hk hl
 go_enter Tryz.func69,Tryz.ntmps69
 go_wp2_with fail
 go_ret
 exact⟨rfl,Up.refl _⟩
theorem yVs {x:Nod} {f:Fr} (hk:x.k=30):RuW W (x,f):=fun w v hv hu=>by
 have hl:((lvl x:Nat):Int)=0:=by unfold lvl;rw[hk];rfl
 show Calls _ _ _ _ fun e w'=>e = .returned (.int .i64 ((lvl x:Nat):Int))∧Up w w'
 rw[hl];obtain⟨q,p,A,c,rfl,hq,c0,-⟩:=InT.open hv;have k0:=hu.cell c0;rw[hk] at k0;clear c0 hv hk hl
 go_enter Tryz.func69,Tryz.ntmps69
 go_wp2_with fail
 go_ret
 exact⟨rfl,Up.refl _⟩
theorem yVt {x:Nod} {f:Fr} (hk:x.k=32):RuW W (x,f):=fun w v hv hu=>by
 have hl:((lvl x:Nat):Int)=0:=by unfold lvl;rw[hk];rfl
 show Calls _ _ _ _ fun e w'=>e = .returned (.int .i64 ((lvl x:Nat):Int))∧Up w w'
 rw[hl];obtain⟨q,p,A,c,rfl,hq,c0,-⟩:=InT.open hv;have k0:=hu.cell c0;rw[hk] at k0;clear c0 hv hk hl
 go_enter Tryz.func69,Tryz.ntmps69
 go_wp2_with fail
 go_ret
 exact⟨rfl,Up.refl _⟩
theorem yVu {x:Nod} {f:Fr} (hk:x.k=33):RuW W (x,f):=fun w v hv hu=>by
 have hl:((lvl x:Nat):Int)=0:=by unfold lvl;rw[hk];rfl
 show Calls _ _ _ _ fun e w'=>e = .returned (.int .i64 ((lvl x:Nat):Int))∧Up w w'
 rw[hl];obtain⟨q,p,A,c,rfl,hq,c0,-⟩:=InT.open hv;have k0:=hu.cell c0;rw[hk] at k0;clear c0 hv hk hl
 go_enter Tryz.func69,Tryz.ntmps69
 go_wp2_with fail
 go_ret
 exact⟨rfl,Up.refl _⟩
theorem zFs (hO:Op7 W) {t:Tr} (h:isT B.nck B.long t 2=true):RuW W t:=by
 cases vQ h with
 | num n h1 h2=>exact yVi rfl
 | boo n h=>exact yVj rfl
 | unit=>exact yVk rfl
 | var s h=>exact yVl rfl
 | lam s h a b ha hb=>exact yVm rfl
 | app a b ha hb=>exact yVn rfl
 | pair a b ha hb=>exact yVo rfl
 | sel k hk a ha=>
  rcases hk with rfl | rfl
  ·exact yVp rfl
  ·exact yVq rfl
 | letE s h a b ha hb=>exact yVr rfl
 | ifE a b c ha hb hc=>exact yVs rfl
 | op k h1 h2 a b ha hb=>
  obtain⟨m,rfl⟩:∃m:Nat,k=((m+1:Nat):Int):=⟨(k-1).toNat,by omega⟩;exact zLx m (by omega) _ hO
 | caseE a ha k hk h0=>exact yVt rfl
 | foldE a t ha ht k hk h0=>exact yVu rfl
end
theorem zLy (x:Nod) (a b:Tr):dpT a<dpT (x,fr2 a b)∧dpT b<dpT (x,fr2 a b):=by
 unfold dpT;simp only[fr2,fr1,Fr.dp];omega
theorem zT5 {x:Nod} {a:Nod} {k r:Fr}:dpT (a,k)<dpT (x,.cons a k r)∧r.dp≤(Fr.cons a k r).dp:=by
 unfold dpT;simp only[Fr.dp];omega
section
variable {W:World} {bw:Nat}
theorem zLz {x:Nod} {a b:Tr} (h:okST (x,fr2 a b)):okST a∧okST b:=by
 obtain⟨_,_,h1,h2,h3,h4,h5,h6,_⟩:=h;exact⟨⟨h1,h2,h3⟩,h4,h5,h6⟩
theorem zAv {x:Nod} {a:Tr} {k:Fr} (h:okST (x,.cons a.1 a.2 k)):okST a∧okS k:=by
 obtain⟨_,_,h1,h2,h3,h4⟩:=h;exact⟨⟨h1,h2,h3⟩,h4⟩
theorem ok_f {a:Tr} {k:Fr} (h:okS (.cons a.1 a.2 k)):okST a∧okS k:=by
 obtain⟨h1,h2,h3,h4⟩:=h;exact⟨⟨h1,h2,h3⟩,h4⟩
structure Wt7 (t:Tr):Prop where
 is:isT B.nck B.long t 2=true
 dp:dpT t≤60
 ok:okST t
theorem zFt (hB:W.heap.size≤bw) (hx:B.Lx W) (hp:Pl W) (hO:Op7 W):∀(n:Nat) (t:Tr),szT t≤n→n≤8192→Wt7 t→∀r:Nat,WriC W bw t r (12*szT t)
 | 0,t,h,_,_=>absurd h (by unfold szT;omega)
 | n+1,t,h,hn,ht=>by
  have ih:=zFt hB hx hp hO n;have hnx:B.Nx W:=⟨hx.2.1,hx.2.2.1⟩;have main:(∀r:Nat,¬lvl t.1<r→∃c,c+2≤12*szT t∧WriC W bw t r c)→∀r:Nat,WriC W bw t r (12*szT t):=fun hh r=>by
   by_cases hc:lvl t.1<r
   ·obtain⟨c,h1,h2⟩:=hh 0 (Nat.not_lt_zero _)
    exact(zFp t r c hB hc (zFs hO ht.is) h2).more h1
   ·obtain⟨c,h1,h2⟩:=hh r hc
    exact h2.more (by omega)
  have hru:=zFs hO ht.is;have hid:=ht.is;have hdp:=ht.dp;have hok:=ht.ok;refine main fun r hc=>?_
  clear main ht
  cases vQ hid with
  | num k h1 h2=>exact⟨1,by unfold szT;omega,yVf k h1 h2 hB hx r hc hru⟩
  | boo k hk=>exact⟨1,by unfold szT;omega,yVg k hB r hc hru⟩
  | unit=>exact⟨2,by unfold szT;omega,zAo hB r hc hru⟩
  | var s hs=>exact⟨1,by unfold szT;omega,yVh s hB r hc hru⟩
  | lam s hs a b hA hBb=>
   have hz:szT (nd 24 s (fr2 a b))=1+(szT a+szT b):=qT _ a b;have hd:=zLy ⟨24,0,s,nob⟩ a b;have hd2:dpT (nd 24 s (fr2 a b))≤60:=hdp;have ho:=zLz (x:=⟨24,0,s,nob⟩) hok;have hd3:dpT (((⟨24,0,s,nob⟩:Nod),fr2 a b):Tr)≤60:=hdp;exact⟨_,by omega,nO _ _ (.inl rfl) (yVc s a b hB hnx hp (by omega) (by omega) ho.1 hA hBb (ih b (by omega) (by omega) ⟨hBb,by omega,ho.2⟩ 0)) r hc hru⟩
  | app a b hA hBb=>
   have hz:szT (nd 25 nob (fr2 a b))=1+(szT a+szT b):=qT _ a b;have hd:=zLy ⟨25,0,nob,nob⟩ a b;have hd3:dpT (((⟨25,0,nob,nob⟩:Nod),fr2 a b):Tr)≤60:=hdp;have ho:=zLz (x:=⟨25,0,nob,nob⟩) hok;exact⟨_,by omega,yV9 a b hB hA hBb (ih a (by omega) (by omega) ⟨hA,by omega,ho.1⟩ 4) (ih b (by omega) (by omega) ⟨hBb,by omega,ho.2⟩ 5) r hc hru⟩
  | pair a b hA hBb=>
   have hz:szT (nd 26 nob (fr2 a b))=1+(szT a+szT b):=qT _ a b;have hd:=zLy ⟨26,0,nob,nob⟩ a b;have hd3:dpT (((⟨26,0,nob,nob⟩:Nod),fr2 a b):Tr)≤60:=hdp;have ho:=zLz (x:=⟨26,0,nob,nob⟩) hok;exact⟨_,by omega,zAn a b hB hA hBb (ih a (by omega) (by omega) ⟨hA,by omega,ho.1⟩ 0) (ih b (by omega) (by omega) ⟨hBb,by omega,ho.2⟩ 0) r hc hru⟩
  | sel k hk a hA=>
   have hz:szT (nd k nob (fr1 a))=1+szT a:=vY _ a;have hd:=zT5 (x:=⟨k,0,nob,nob⟩) (a:=a.1) (k:=a.2) (r:=.nil);have hd3:dpT (((⟨k,0,nob,nob⟩:Nod),.cons a.1 a.2 .nil):Tr)≤60:=hdp;have hda:dpT a=dpT (a.1,a.2):=rfl;have ho:=zAv (x:=⟨k,0,nob,nob⟩) (a:=a) (k:=.nil) hok;have cA:=ih a (by omega) (by omega) ⟨hA,by omega,ho.1⟩ 5
   rcases hk with rfl | rfl
   ·exact⟨_,by omega,yVa a hB hA cA r hc hru⟩
   ·exact⟨_,by omega,yVb a hB hA cA r hc hru⟩
  | letE s hs a b hA hBb=>
   have hz:szT (nd 29 s (fr2 a b))=1+(szT a+szT b):=qT _ a b;have hd:=zLy ⟨29,0,s,nob⟩ a b;have hd3:dpT (((⟨29,0,s,nob⟩:Nod),fr2 a b):Tr)≤60:=hdp;have ho:=zLz (x:=⟨29,0,s,nob⟩) hok;exact⟨_,by omega,nO _ _ (.inr (.inl rfl)) (yVd s a b hB hA hBb (ih a (by omega) (by omega) ⟨hA,by omega,ho.1⟩ 0) (ih b (by omega) (by omega) ⟨hBb,by omega,ho.2⟩ 0)) r hc hru⟩
  | ifE a b c hA hBb hC=>
   have hz:szT (nd 30 nob (fr3 a b c))=1+(szT a+szT b+szT c):=nE _ a b c;have hd:=zT5 (x:=⟨30,0,nob,nob⟩) (a:=a.1) (k:=a.2) (r:=fr2 b c);have he:=zLy ⟨30,0,nob,nob⟩ b c;have hd3:dpT (((⟨30,0,nob,nob⟩:Nod),.cons a.1 a.2 (fr2 b c)):Tr)≤60:=hdp;have hd4:dpT (((⟨30,0,nob,nob⟩:Nod),fr2 b c):Tr)≤60:=by
    have h1:dpT (((⟨30,0,nob,nob⟩:Nod),.cons a.1 a.2 (fr2 b c)):Tr)=1+(Fr.cons a.1 a.2 (fr2 b c)).dp:=rfl;have h2:dpT (((⟨30,0,nob,nob⟩:Nod),fr2 b c):Tr)=1+(fr2 b c).dp:=rfl;have h3:=hd.2;omega
   have hda:dpT a=dpT (a.1,a.2):=rfl;have ho:=zAv (x:=⟨30,0,nob,nob⟩) (a:=a) (k:=fr2 b c) hok;have ho2:=zLz (x:=⟨30,0,nob,nob⟩) (a:=b) (b:=c) ⟨(by decide:nob.size≤1000000000),(by decide:nob.size≤1000000000),ho.2⟩;exact⟨_,by omega,nO _ _ (.inr (.inr (.inl rfl))) (lo_if a b c hB hA hBb hC (ih a (by omega) (by omega) ⟨hA,by omega,ho.1⟩ 0) (ih b (by omega) (by omega) ⟨hBb,by omega,ho2.1⟩ 0) (ih c (by omega) (by omega) ⟨hC,by omega,ho2.2⟩ 0)) r hc hru⟩
  | op k h1 h2 a b hA hBb=>
   have hz:szT (opN k,fr2 a b)=1+(szT a+szT b):=qT _ a b;have hd:=zLy (opN k) a b;have ho:=zLz (x:=opN k) hok;obtain⟨m,rfl⟩:∃m:Nat,k=((m+1:Nat):Int):=⟨(k-1).toNat,by omega⟩;exact⟨_,by omega,wr_op m (by omega) a b hB hO hA hBb (ih a (by omega) (by omega) ⟨hA,by omega,ho.1⟩ _) (ih b (by omega) (by omega) ⟨hBb,by omega,ho.2⟩ _) r hc hru⟩
  | caseE a hA k hk h0=>
   have hz:szT (nd 32 nob (.cons a.1 a.2 k))=1+(szT a+k.sz):=rfl;have hl:=Fr.len_le k;have hd:=zT5 (x:=⟨32,0,nob,nob⟩) (a:=a.1) (k:=a.2) (r:=k);have hd3:dpT (((⟨32,0,nob,nob⟩:Nod),.cons a.1 a.2 k):Tr)≤60:=hdp;have hd4:dpT (((⟨32,0,nob,nob⟩:Nod),.cons a.1 a.2 k):Tr)=1+(Fr.cons a.1 a.2 k).dp:=rfl;have hda:dpT a=dpT (a.1,a.2):=rfl;have ho:=zAv (x:=⟨32,0,nob,nob⟩) (a:=a) (k:=k) hok;have hkd:=hd.2;exact⟨_,by omega,nO _ _ (.inr (.inr (.inr (.inl rfl)))) (zAt a k hB hA (ih a (by omega) (by omega) ⟨hA,by omega,ho.1⟩ 0) h0 (by omega) hk (zFr (n:=n) (d:=60) hk ho.2 (by omega) (by omega) fun b hb1 hb2=>ih b hb1 (by omega) ⟨hb2.1,hb2.2.1,hb2.2.2⟩ 0)) r hc hru⟩
  | foldE a t hA hT k hk h0=>
   have hz:szT (nd 33 nob (.cons a.1 a.2 (.cons t.1 t.2 k)))=1+(szT a+(szT t+k.sz)):=rfl;have hl:=Fr.len_le k;have hd:=zT5 (x:=⟨33,0,nob,nob⟩) (a:=a.1) (k:=a.2) (r:=.cons t.1 t.2 k);have he:=zT5 (x:=⟨33,0,nob,nob⟩) (a:=t.1) (k:=t.2) (r:=k);have hd3:dpT (((⟨33,0,nob,nob⟩:Nod),.cons a.1 a.2 (.cons t.1 t.2 k)):Tr)≤60:=hdp;have hd4:dpT (((⟨33,0,nob,nob⟩:Nod),.cons a.1 a.2 (.cons t.1 t.2 k)):Tr)=1+(Fr.cons a.1 a.2 (.cons t.1 t.2 k)).dp:=rfl;have he4:dpT (((⟨33,0,nob,nob⟩:Nod),.cons t.1 t.2 k):Tr)=1+(Fr.cons t.1 t.2 k).dp:=rfl;have hda:dpT a=dpT (a.1,a.2):=rfl;have hdt:dpT t=dpT (t.1,t.2):=rfl;have hkd:=hd.2;have hke:=he.2;have ho:=zAv (x:=⟨33,0,nob,nob⟩) (a:=a) (k:=.cons t.1 t.2 k) hok;have ho2:=ok_f (a:=t) (k:=k) ho.2;exact⟨_,by omega,nO _ _ (.inr (.inr (.inr (.inr rfl)))) (zAu a t k hB hnx hp (by omega) (by omega) ho2.1 hT hA (ih a (by omega) (by omega) ⟨hA,by omega,ho.1⟩ 0) h0 (by omega) hk (zFr (n:=n) (d:=60) hk ho2.2 (by omega) (by omega) fun b hb1 hb2=>ih b hb1 (by omega) ⟨hb2.1,hb2.2.1,hb2.2.2⟩ 0)) r hc hru⟩
theorem zAw (o:Option Tr) (hz:szO o≤60000) (hs:okSO o) (w:World) (v:Value) (hx:B.Lx w) (hp:Pl w) (hO:Op7 w) (hv:HasT w v o):Calls Tryz.prog 17 #[v] w (uM o w):=by
 have cS:=zOd o hz hs w w v ⟨hx.2.1,hx.2.2.1⟩ hv (Up.refl w);unfold uM
 by_cases hc:chk B.nck B.long o 2=0
 ·obtain⟨t,rfl,h1,h2,h3⟩:=zRm hc
  rw[hc] at cS ⊢;rw[if_pos rfl];have HS:Hid (zRl (some t)=txE qD t):=Lib.hid rfl;rw[HS.out];have hsz:=zXb (nb:=qD) pS gH xV h3;have HV:=Lib.hid hv;have HX:=Lib.hid hx;have HP:=Lib.hid hp;have HO:=Lib.hid hO;have H3:=Lib.hid (Wt7.mk h3 h2 (hs t rfl));have HSZ:=Lib.hid hsz;clear hc hv hp hO h2 h3 hsz hx hs hz
  go_enter Tryz.func17,Tryz.ntmps17
  go_wp2_with fail;refine Calls.mono cS ?_;rintro en w1 ⟨rfl,u1⟩;have hz1:=u1.size;have hWr:St7 w1 w1.heap.size (fun _ _=>False) 0 [] (w1.alloc (.cells #[.slice none 0 0] 82)):=⟨(Up.refl w1).alloc _,[],Nat.le_refl _,rfl,Iff.rfl,_,heap_alloc_new w1 _,World.ownsRow_nil _ _ _ _,fun _ _ h=>h.elim⟩;have cW:=zFt (W:=w1) (bw:=w1.heap.size) (Nat.le_refl _) (B.Lx.below HX.out u1) (HP.out.up u1) (HO.out.up u1) _ t (Nat.le_refl _) h1 H3.out 0 _ _ 0 [] v (HV.out.up u1) hWr (by omega);rw[gP] at cW;have U1:=Lib.hid u1;clear u1 hWr cS;go_wp2_with fail;refine Calls.mono cW ?_;rintro en w2 ⟨⟨u,rfl⟩,u2,ns,hn1,hn2,hn3,vs,r1,ho,-⟩;have hne:ns≠[]:=fun e=>by have:=hn3.1 e;cases this
  have hlen:0<ns.length:=List.length_pos_iff.2 hne;obtain⟨g,cp,rfl,hbg,hltg⟩:=ho.form hlen;have hcp:=iR ho;have c0:w2.cell? ⟨w1.heap.size,0,none⟩=some (.slice (some ⟨g,0,none⟩) ns.length cp):=cell_of_row w2 _ 0 _ _ _ r1;have hj:Lib.join (ns.map (·.data.toList)) (ByteArray.mk #[32]).data.toList=(txE qD t).data.toList:=by
   have h:=lG (ns.map nmT);have e:txt (ns.map nmT)=ns:=by unfold txt;rw[List.map_map];exact List.map_id ns
   rw[e] at h;exact h.trans hn2
  have hcs:∀(j:Nat) x,ns[j]? = some x→w2.cell? ⟨g,0+j,none⟩=some (.string x):=fun j x h=>by
   have h9:=ho.cells (g:=g) rfl j (.string x) (by rw[List.getElem?_map,h];rfl);have e1:(⟨g,0,none⟩:Addr).add j=⟨g,0+j,none⟩:=by unfold Addr.add;split<;>simp_all
   rwa [e1] at h9
  have hjl:(Lib.join (ns.map (·.data.toList)) (ByteArray.mk #[32]).data.toList).length=(txE qD t).size:=by rw[hj];show _=(jT (tks (tkE qD t))).toArray.size;simp[txE,tB]
  have cJ:=Tryz.strings_Join g 0 cp ns ⟨#[32]⟩ w2 hcs hltg (by omega) hcp (by rw[hjl];have:=HSZ.out;omega);rw[hj] at cJ;have hX:(⟨(txE qD t).data.toList.toArray⟩:ByteArray)=txE qD t:=rfl;rw[hX] at cJ;obtain⟨m,hm⟩:∃m,ns.length=m:=⟨_,rfl⟩;rw[hm] at c0 cJ;have U2:=Lib.hid (Up.trans U1.out u2);clear u2 r1 ho cW hcs hjl hj hn1 hn2 hn3 hne hlen hm hX;go_wp2_with fail;refine Calls.mono cJ ?_;rintro en w3 ⟨rfl,u3⟩;have U3:=Lib.hid u3;clear u3;go_wp2_with fail
  go_ret2
  exact⟨rfl,Up.trans U2.out U3.out⟩
 ·rw[if_neg hc]
  obtain⟨z,hzz⟩:∃z,chk B.nck B.long o 2=z:=⟨_,rfl⟩;rw[hzz] at hc cS ⊢;clear hv hp hx hs hz hzz hO
  go_enter Tryz.func17,Tryz.ntmps17
  go_wp2_with fail;refine Calls.mono cS ?_;rintro en w1 ⟨rfl,u1⟩;have U1:=Lib.hid u1;clear u1;go_wp2_with fail
  go_ret2
  exact⟨rfl,U1.out⟩
end
theorem oM:PxAll:=⟨fun l i hl hz m hm w v hx hv=>pExpr l i hl hz m hm w v hv hx.nx hx.px.2 hx.px.1,fun o hz hs _ w v hx hv hu=>(zAw o hz hs w v hx.lx hx.px.2 hx.px.1 (hv.up hu)).mono fun _ _ h=>⟨h.1,hu.trans h.2⟩⟩
end Go.Proofs.YtbpijnalmakfaaaGreatDoor
namespace Go.Proofs.YtbpijnalmakfaaaGreatDoor
open Go.ChangeShapes Go.WideShapes Go.ChangeAt Go.RowKit Go.Lib
theorem vU {w:World} {n:String} {d:DataW Unit} (h:VarReads Tryz.prog w n d) {g:Nat} {t:TypeId} (hg:Tryz.prog.globalNamed n=some g) (ht:(Tryz.prog.globals[g]?).map (·.type)=some t) :
  ∃cs fuel p,w.var? Tryz.prog n=some cs∧(∃e z,w.heap[g]? = some (.cells cs e z))∧DataW.trod (fun _=>()) Tryz.prog w 0 (fun _=>true) false fuel t cs.toList=some (d,p):=by
 obtain⟨g',t',cs,fuel,p,h1,h2,h3,h4⟩:=h;obtain rfl:=Option.some.inj (hg.symm.trans h1);obtain rfl:=Option.some.inj (ht.symm.trans h2);refine⟨cs,fuel,p,h3,?_,h4⟩;unfold World.var? at h3;rw[hg] at h3;simp only[Option.bind_some] at h3
 split at h3
 ·rename_i cs' e z he
  injection h3 with h3;subst h3;exact⟨e,z,he⟩
 ·cases h3
theorem zXz {w:World} {fuel:Nat} {a b:Value} {s:List UInt8} {k:Int} {p:List MemPlace}
  (h:DataW.trod (fun _=>()) Tryz.prog w 0 (fun _=>true) false fuel 257 [a,b]=some (.agg [.lit (.string s),.lit (.int .i64 k)],p)):a = .string ⟨s.toArray⟩∧b = .int .i64 k:=by
 obtain⟨ys,n,_,hx,_,hyl,hf⟩:=DataW.trod_struct Tryz.underlying257 h;have hy2:ys.length=2:=hyl
 match ys,hy2 with
 | [y0,y1],_=>
  have g0:DataW.trod (fun _=>()) Tryz.prog w 0 (fun _=>true) false n 9 [a]=some y0:=hf 0 _ rfl;have g1:DataW.trod (fun _=>()) Tryz.prog w 0 (fun _=>true) false n 3 [b]=some y1:=hf 1 _ rfl;obtain⟨s',e0,f0,_⟩:=DataW.trod_string Tryz.underlying9 g0;obtain⟨k',e1,f1,_⟩:=DataW.trod_int Tryz.underlying3 g1;subst f0 f1;have hx:=congrArg Prod.fst hx;simp only[List.map_cons,List.map_nil,DataW.agg.injEq,List.cons.injEq,DataW.lit.injEq,Lit.string.injEq,Lit.int.injEq,and_true,true_and] at hx;injection e0 with e0;injection e1 with e1;exact⟨by rw[e0,hx.1],by rw[e1,hx.2]⟩
theorem zK0 {w:World} {fuel:Nat} {cs:Array Value} {p:List MemPlace}
  (h:DataW.trod (fun _=>()) Tryz.prog w 0 (fun _=>true) false fuel 258 cs.toList=some (Rows.laid_marquetry_ptype_plain,p)):cs.toList=plV.toList:=by
 obtain⟨xs,m,_,hx,hlen,hxl,hel⟩:=DataW.trod_array Tryz.underlying258 h;have h6:Tryz.prog.cellsOf 258=6:=by kernel_rfl
 have h2:Tryz.prog.cellsOf 257=2:=by kernel_rfl
 rw[h6] at hlen;rw[h2] at hel;have e0:=hel 0 (by omega);have e1:=hel 1 (by omega);have e2:=hel 2 (by omega);have hx:=congrArg Prod.fst hx
 generalize cs.toList=l at *
 match l,hlen,xs,hxl with
 | [a,b,c,d,e,f],_,[x0,x1,x2],_=>
  have hx:Rows.laid_marquetry_ptype_plain=DataW.agg [x0.1,x1.1,x2.1]:=hx;unfold Rows.laid_marquetry_ptype_plain at hx;simp only[DataW.agg.injEq,List.cons.injEq,and_true] at hx;obtain⟨q0,q1,q2⟩:=hx;obtain⟨y0,p0⟩:=x0;obtain⟨y1,p1⟩:=x1;obtain⟨y2,p2⟩:=x2;simp only at q0 q1 q2;subst q0 q1 q2;obtain⟨r0,r1⟩:=zXz e0;obtain⟨r2,r3⟩:=zXz e1;obtain⟨r4,r5⟩:=zXz e2;rw[r0,r1,r2,r3,r4,r5]
  rfl
theorem lQ {w:World} {fuel:Nat} {a b c d e:Value} {s:List UInt8} {k1 k2 k3 k4:Int} {p:List MemPlace}
  (h:DataW.trod (fun _=>()) Tryz.prog w 0 (fun _=>true) false fuel 162 [a,b,c,d,e]=some (.agg [.lit (.string s),.lit (.int .i64 k1),.lit (.int .i64 k2),.lit (.int .i64 k3),.lit (.int .i64 k4)],p)):a = .string ⟨s.toArray⟩∧b = .int .i64 k1∧c = .int .i64 k2∧d = .int .i64 k3∧e = .int .i64 k4:=by
 obtain⟨ys,n,_,hx,_,hyl,hf⟩:=DataW.trod_struct Tryz.underlying162 h;have hy2:ys.length=5:=hyl
 match ys,hy2 with
 | [y0,y1,y2,y3,y4],_=>
  have g0:DataW.trod (fun _=>()) Tryz.prog w 0 (fun _=>true) false n 9 [a]=some y0:=hf 0 _ rfl;have g1:DataW.trod (fun _=>()) Tryz.prog w 0 (fun _=>true) false n 3 [b]=some y1:=hf 1 _ rfl;have g2:DataW.trod (fun _=>()) Tryz.prog w 0 (fun _=>true) false n 3 [c]=some y2:=hf 2 _ rfl;have g3:DataW.trod (fun _=>()) Tryz.prog w 0 (fun _=>true) false n 3 [d]=some y3:=hf 3 _ rfl;have g4:DataW.trod (fun _=>()) Tryz.prog w 0 (fun _=>true) false n 3 [e]=some y4:=hf 4 _ rfl;obtain⟨s',e0,f0,_⟩:=DataW.trod_string Tryz.underlying9 g0;obtain⟨k1',e1,f1,_⟩:=DataW.trod_int Tryz.underlying3 g1;obtain⟨k2',e2,f2,_⟩:=DataW.trod_int Tryz.underlying3 g2;obtain⟨k3',e3,f3,_⟩:=DataW.trod_int Tryz.underlying3 g3;obtain⟨k4',e4,f4,_⟩:=DataW.trod_int Tryz.underlying3 g4;subst f0 f1 f2 f3 f4;have hx:=congrArg Prod.fst hx;simp only[List.map_cons,List.map_nil,DataW.agg.injEq,List.cons.injEq,DataW.lit.injEq,Lit.string.injEq,Lit.int.injEq,and_true,true_and] at hx;obtain⟨x0,x1,x2,x3,x4⟩:=hx;injection e0 with e0;injection e1 with e1;injection e2 with e2;injection e3 with e3;injection e4 with e4;exact⟨by rw[e0,x0],by rw[e1,x1],by rw[e2,x2],by rw[e3,x3],by rw[e4,x4]⟩
theorem zFu {w:World} {fuel:Nat} {cs:Array Value} {p:List MemPlace}
  (h:DataW.trod (fun _=>()) Tryz.prog w 0 (fun _=>true) false fuel 163 cs.toList=some (Rows.laid_marquetry_pexpr_operators,p)):cs.toList=opV.toList:=by
 obtain⟨xs,m,_,hx,hlen,hxl,hel⟩:=DataW.trod_array Tryz.underlying163 h;have h6:Tryz.prog.cellsOf 163=25:=by kernel_rfl
 have h2:Tryz.prog.cellsOf 162=5:=by kernel_rfl
 rw[h6] at hlen;rw[h2] at hel;have e0:=hel 0 (by omega);have e1:=hel 1 (by omega);have e2:=hel 2 (by omega);have e3:=hel 3 (by omega);have e4:=hel 4 (by omega);have hx:=congrArg Prod.fst hx
 generalize cs.toList=l at *
 match l,hlen,xs,hxl with
 | [v0,v1,v2,v3,v4,v5,v6,v7,v8,v9,v10,v11,v12,v13,v14,v15,v16,v17,v18,v19,v20,v21,v22,v23,v24],_,[x0,x1,x2,x3,x4],_=>
  have hx:Rows.laid_marquetry_pexpr_operators=DataW.agg [x0.1,x1.1,x2.1,x3.1,x4.1]:=hx;unfold Rows.laid_marquetry_pexpr_operators at hx;simp only[DataW.agg.injEq,List.cons.injEq,and_true] at hx;obtain⟨q0,q1,q2,q3,q4⟩:=hx;obtain⟨y0,p0⟩:=x0;obtain⟨y1,p1⟩:=x1;obtain⟨y2,p2⟩:=x2;obtain⟨y3,p3⟩:=x3;obtain⟨y4,p4⟩:=x4;simp only at q0 q1 q2 q3 q4;subst q0 q1 q2 q3 q4;obtain⟨a0,a1,a2,a3,a4⟩:=lQ e0;obtain⟨b0,b1,b2,b3,b4⟩:=lQ e1;obtain⟨c0,c1,c2,c3,c4⟩:=lQ e2;obtain⟨d0,d1,d2,d3,d4⟩:=lQ e3;obtain⟨f0,f1,f2,f3,f4⟩:=lQ e4;rw[a0,a1,a2,a3,a4,b0,b1,b2,b3,b4,c0,c1,c2,c3,c4,d0,d1,d2,d3,d4,f0,f1,f2,f3,f4]
  rfl
theorem yVv {W:World} (rd:∀n d,(n,d)∈(Rows.pexprParsesRow.laid:List (String×DataW Unit))→VarReads Tryz.prog W n d):Px7 W:=by
 have h7:=rd "marquetry/ptype.plain" Rows.laid_marquetry_ptype_plain (by simp[Rows.pexprParsesRow]);have h8:=rd "marquetry/pexpr.operators" Rows.laid_marquetry_pexpr_operators (by simp[Rows.pexprParsesRow]);refine⟨?_,?_⟩
 ·obtain⟨cs,fuel,p,_,⟨e,z,k2⟩,k3⟩:=vU h8 (g:=0) (t:=163) (by kernel_rfl) (by kernel_rfl)
  refine⟨e,z,?_⟩;rw[k2]
  congr 2
  apply Array.ext'
  exact zFu k3
 ·obtain⟨cs,fuel,p,_,⟨e,z,k2⟩,k3⟩:=vU h7 (g:=7) (t:=258) (by kernel_rfl) (by kernel_rfl)
  refine⟨e,z,?_⟩;rw[k2]
  congr 2
  apply Array.ext'
  exact zK0 k3
theorem vV:ownKnob Tryz.prog.godebug=none:=by kernel_rfl
def laidL:List (String×DataW Unit):=Rows.pexprParsesRow.laid
theorem zFv:Rows.laid_unicode_utf8_first=Lib.firstData:=by kernel_rfl
theorem zK1:(Rows.laid_unicode_utf8_acceptRanges:DataW Unit)=Lib.acceptData:=by kernel_rfl
theorem yVw:(Rows.laid_internal_strconv_uint64pow10:DataW Unit)=Lib.tabData .u64 Lib.pow10Tab:=by kernel_rfl
theorem zFw:(Rows.laid_marquetry_lexer_signs:DataW Unit) = .agg (B.SIGNS.map fun x=>.lit (.string (B.u8 x))):=by kernel_rfl
theorem zFx {w:World} {n:String} {nm:String} {d:DataW Unit} (h:VarReads Tryz.prog w n (.iface nm d)) {g:Nat} {t:TypeId} (hg:Tryz.prog.globalNamed n=some g) (ht:(Tryz.prog.globals[g]?).map (·.type)=some t) {ms:Array (String×TypeId)} (hi:Tryz.prog.underlying t=some (.interface ms)):B.ErrIs w g:=by
 obtain⟨cs,fuel,p,h1,⟨e,z,h2⟩,h3⟩:=vU h hg ht;obtain⟨_,u,v,h4,_,_⟩:=iface_of_trod hi h3;refine⟨.iface u v,?_,.inr ⟨u,v,rfl⟩⟩;rw[cell_of_row w g 0 cs e z h2];have:cs[0]? = cs.toList[0]?:=by simp
 rw[this,h4]
 rfl
theorem zAx {w:World} {fuel:Nat} {t e:TypeId} {cs:List Value} {zs:List (List UInt8)} {p:List MemPlace} (ht:Tryz.prog.underlying t=some (.array zs.length e)) (he:Tryz.prog.underlying e=some .string) (hce:Tryz.prog.cellsOf e=1) (hct:Tryz.prog.cellsOf t=zs.length)
  (h:DataW.trod (fun _=>()) Tryz.prog w 0 (fun _=>true) false fuel t cs=some (.agg (zs.map fun z=>.lit (.string z)),p)):cs=zs.map fun z=>Value.string ⟨z.toArray⟩:=by
 obtain⟨xs,m,_,hx,hlen,hxl,hel⟩:=DataW.trod_array ht h;rw[hct] at hlen
 apply List.ext_getElem (by simpa using hlen)
 intro i h1 h2;have hi:i<zs.length:=by simpa using h2
 have hk:=hel i hi;rw[hce,Nat.mul_one] at hk;have hcs:(cs.drop i).take 1=[cs[i]]:=by
  rw[List.drop_eq_getElem_cons h1]
  rfl
 have hxi:xs[i]? = some (xs[i]'(by omega)):=List.getElem?_eq_getElem (by omega);rw[hcs,hxi] at hk;obtain⟨s,hs,hy,_⟩:=DataW.trod_string he hk;have e1:(xs.map (·.1))[i]? = (zs.map fun z=>(DataW.lit (.string z):DataW Unit))[i]?:=by
  have:=congrArg Prod.fst hx;simp only[DataW.agg.injEq] at this;rw[this]
 rw[List.getElem?_map,List.getElem?_map,hxi,List.getElem?_eq_getElem hi] at e1;simp only[Option.map_some,Option.some.injEq] at e1;rw[hy] at e1;simp only[DataW.lit.injEq,Lit.string.injEq] at e1;rw[(List.cons.inj hs).1,List.getElem_map,←e1]
theorem yVx:(B.sgV.toList)=(B.SIGNS.map B.u8).map fun z=>Value.string ⟨z.toArray⟩:=by kernel_rfl
theorem oN {W:World} {l:List (String×DataW Unit)} (h:laidMetH Tryz.prog l W) (hl:l=laidL) (hsh:W.ShapedOpen Tryz.prog):Vx7 W:=by
 subst hl;have h:laidMet Tryz.prog laidL W:=h;have rd:∀n d,(n,d)∈laidL→VarReads Tryz.prog W n d:=fun n d hm=>Lib.laidMet.reads h hm
 have h1:=rd "unicode/utf8.first" Rows.laid_unicode_utf8_first (by simp[laidL,Rows.pexprParsesRow])
 have h2:=rd "unicode/utf8.acceptRanges" Rows.laid_unicode_utf8_acceptRanges (by simp[laidL,Rows.pexprParsesRow]);have h3:=rd "internal/strconv.uint64pow10" Rows.laid_internal_strconv_uint64pow10 (by simp[laidL,Rows.pexprParsesRow]);have h4:=rd "strconv.ErrSyntax" Rows.laid_strconv_ErrSyntax (by simp[laidL,Rows.pexprParsesRow]);have h5:=rd "strconv.ErrRange" Rows.laid_strconv_ErrRange (by simp[laidL,Rows.pexprParsesRow]);have h6:=rd "marquetry/lexer.signs" Rows.laid_marquetry_lexer_signs (by simp[laidL,Rows.pexprParsesRow]);rw[zFv] at h1;rw[zK1] at h2;rw[yVw] at h3;rw[zFw] at h6;refine⟨⟨utf8Tabs_of_readsT (U8Types.of260 Tryz.lays260) ⟨by kernel_rfl,by kernel_rfl,by kernel_rfl,by kernel_rfl,by kernel_rfl,by kernel_rfl,by kernel_rfl⟩ h1 h2,?_,Tryz.laysM143.s1_3 W hsh,
  zFx h4 (g:=5) (by kernel_rfl) (by kernel_rfl) Tryz.underlying127,zFx h5 (g:=6) (by kernel_rfl) (by kernel_rfl) Tryz.underlying127,?_⟩,?_⟩
 ·obtain⟨cs,fuel,p,k1,_,k3⟩:=vU h3 (g:=8) (t:=265) (by kernel_rfl) (by kernel_rfl)
  unfold TabIs;rw[k1,←Lib.cells_of_tab (t:=265) (n:=20) (e:=233) (by kernel_rfl) (by kernel_rfl) (by kernel_rfl) (by kernel_rfl) k3]
 ·obtain⟨cs,fuel,p,_,⟨e,z,k2⟩,k3⟩:=vU h6 (g:=1) (t:=177) (by kernel_rfl) (by kernel_rfl)
  refine⟨e,z,?_⟩;have hm:(B.SIGNS.map fun x=>(DataW.lit (.string (B.u8 x)):DataW Unit))=(B.SIGNS.map B.u8).map fun z=>.lit (.string z):=by rw[List.map_map];rfl
  rw[hm] at k3;have k4:=zAx (t:=177) (e:=9) (by kernel_rfl) (by kernel_rfl) (by kernel_rfl) (by kernel_rfl) k3;rw[k2]
  congr 2
  apply Array.ext'
  rw[k4,yVx]
 ·exact yVv fun n d hm=>rd n d (by simpa [laidL] using hm)
def litV:DataW Unit→Value
 | .lit (.int k z)=>.int k z
 | .lit (.string l)=>.string ⟨l.toArray⟩
 | _=>undef
def rowV:DataW Unit→Array Value
 | .agg ds=>(ds.map litV).toArray
 | _=>#[]
def txtV:DataW Unit→Value
 | .iface _ (.ptr (.agg [d]))=>litV d
 | _=>undef
noncomputable def laidWorld (os:Os):World:=
 let w0:=World.holding Tryz.prog os ⟨#[],#[],[]⟩
 let put (h:Array Obj) (g:Nat) (cs:Array Value):Array Obj:=h.modify g fun
  | .cells _ t frozen=>.cells cs t frozen
  | o=>o
 let h1:=put w0.heap 2 (Lib.firstTab.map fun z=>Value.int .u8 z).toArray
 let h2:=put h1 3 ((List.range 16).flatMap fun i=>[Value.int .u8 (Lib.accLo i),Value.int .u8 (Lib.accHi i)]).toArray
 let h3:=put h2 8 (rowV Rows.laid_internal_strconv_uint64pow10)
 let h4:=put h3 9 (rowV Rows.laid_math_bits_deBruijn32tab)
 let h5:=put h4 10 (rowV Rows.laid_math_bits_deBruijn64tab)
 let h6:=put h5 1 (rowV Rows.laid_marquetry_lexer_signs)
 let h6:=put h6 7 plV
 let h6:=put h6 0 opV
 let n:=h6.size
 let h7:=put h6 6 #[.iface 270 (.pointer (some ⟨n,0,none⟩))]
 let h8:=put h7 5 #[.iface 270 (.pointer (some ⟨n+1,0,none⟩))]
 let h9:=(h8.push (.cells #[txtV Rows.laid_strconv_ErrRange] 272 (0,0))).push (.cells #[txtV Rows.laid_strconv_ErrSyntax] 272 (0,0))
 {w0 with heap:=h9}
end Go.Proofs.YtbpijnalmakfaaaGreatDoor
