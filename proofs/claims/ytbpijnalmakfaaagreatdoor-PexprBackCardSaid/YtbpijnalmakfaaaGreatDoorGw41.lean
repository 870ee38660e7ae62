/-
  Layer 7, the program's writer: writeLoosest: fn, let, if (written by gw7.py).
-/
import Derived.Test.YtbpijnalmakfaaaGreatDoorGw40
set_option maxHeartbeats 40000000
set_option maxRecDepth 100000
namespace Go.Proofs.YtbpijnalmakfaaaGreatDoor
open Go.RowKit
section
variable {W:World} {bw:Nat}
theorem yUg (s:ByteArray) (a b:Tr) (hB:W.heap.size≤bw) (hx:B.Nx W) (hp:Pl W) (hzT:szT a≤8192) (hdT:dpT a≤60) (hkT:okST a) (hT:isT B.nck B.long a 1=true) (eb:isT B.nck B.long b 2=true) (cB:WriC W bw b 0 (12*szT b)):LoC W bw (nd 24 s (fr2 a b)) (7+12*szT b):=fun X w n Ys v hv hs hn=>by
 have hzz:jL ([kFn,kOpen,s]++([zW,tB (tkT a)]++([kShut]++[kFat,atX qE b 0])))=(txE qE (nd 24 s (fr2 a b))).data.toList:=by
  rw[zFs hT eb,fE];simp only[List.cons_append,List.nil_append,jL,List.map_cons,List.map_nil,jT,nmT,qM,List.append_assoc]<;>rfl
 obtain⟨q,p,A,cp0,rfl,hq,k0,k1,k2,k3,k4,hcc,hkid⟩:=InT.open hv;obtain⟨kb,ko,rfl,hkb,⟨vaa,kaa,iaa⟩,⟨vbb,kbb,ibb⟩,-⟩:=hkid (by show 0<2;omega);obtain⟨qa,pa,rfl⟩:=InT.ptr iaa;obtain⟨qb,pb,rfl⟩:=InT.ptr ibb;have k4:W.cell? ⟨q,p+4,none⟩=some (.slice (some ⟨kb,ko,none⟩) 2 cp0):=k4;have kaa:W.cell? ⟨kb,ko,none⟩=some (.pointer (some ⟨qa,pa,none⟩)):=kaa;have HIa:Hid (HasT W (.pointer (some ⟨qa,pa,none⟩)) (some a)):=Lib.hid iaa;have HKa:=Lib.hid kaa;have kbb:W.cell? ⟨kb,ko+1,none⟩=some (.pointer (some ⟨qb,pb,none⟩)):=kbb;have HIb:Hid (HasT W (.pointer (some ⟨qb,pb,none⟩)) (some b)):=Lib.hid ibb;have HKb:=Lib.hid kbb;have HK4:=Lib.hid k4;have HK0:=Lib.hid k0;have HK2:=Lib.hid k2;have HS:=Lib.hid hs;have HN:=Lib.hid hn;have HZZ:=Lib.hid hzz;obtain⟨ZZ,hZZ⟩:∃ZZ,Ys++[txE qE (nd 24 s (fr2 a b))]=ZZ:=⟨_,rfl⟩;rw[hZZ];have HZ:=Lib.hid hZZ;have HhzT:=Lib.hid hzT;have HhdT:=Lib.hid hdT;have HhkT:=Lib.hid hkT;have HhT:=Lib.hid hT;have HcB:=Lib.hid cB;clear hv hs hn hzz hZZ k0 k1 k2 k3 k4 hkid kaa iaa kbb ibb hzT hdT hkT hT cB;have k0:w.cell? ⟨q,p,none⟩=_:=HS.out.1.cell HK0.out;have k2:w.cell? ⟨q,p+2,none⟩=_:=HS.out.1.cell HK2.out
 go_enter Tryz.func75,Tryz.ntmps75
 have c0:=zEh kFn kOpen s hB HS.out (by have:=HN.out;omega);go_wp2_with fail;refine Calls.mono c0 ?_;rintro en w3 ⟨⟨x3,rfl⟩,h3⟩;have H3:=Lib.hid h3;clear h3 c0 k0 k2;have c1:=zEi zW a hB hx hp HhzT.out HhdT.out HhkT.out HhT.out _ _ _ _ HIa.out H3.out (by have:=HN.out;omega);have m4:=H3.out.1.cell HK4.out;have ma:=H3.out.1.cell HKa.out;go_wp2_with fail;refine Calls.mono c1 ?_;rintro en w4 ⟨⟨x4,rfl⟩,h4⟩;have H4:=Lib.hid h4;clear h4 c1 m4 ma;have c2:=wQ kShut hB H4.out (by have:=HN.out;omega);go_wp2_with fail;refine Calls.mono c2 ?_;rintro en w5 ⟨⟨x5,rfl⟩,h5⟩;have H5:=Lib.hid h5;clear h5 c2;have c3:=kA kFat b 0 _ hB HcB.out _ _ _ _ HIb.out H5.out (by have:=HN.out;omega);have m4:=H5.out.1.cell HK4.out;have mb:=H5.out.1.cell HKb.out;go_wp2_with fail;refine Calls.mono c3 ?_;rintro en w6 ⟨⟨x6,rfl⟩,h6⟩;have H6:=Lib.hid h6;clear h6 c3 m4 mb;have hfin:=H6.out;simp only[List.append_assoc] at hfin;have HF:=Lib.hid (St7.more (m:=n+(7+12*szT b)) (St7.join (Ys:=Ys) (Zs:=[kFn,kOpen,s]++([zW,tB (tkT a)]++([kShut]++[kFat,atX qE b 0]))) hfin (by simp) HZZ.out) (by omega));clear hfin;go_wp2_with fail;go_end0;rw[←HZ.out];exact⟨⟨_,rfl⟩,HF.out⟩
theorem yUh (s:ByteArray) (a b:Tr) (hB:W.heap.size≤bw) (ea:isT B.nck B.long a 2=true) (eb:isT B.nck B.long b 2=true) (cA:WriC W bw a 0 (12*szT a)) (cB:WriC W bw b 0 (12*szT b)):LoC W bw (nd 29 s (fr2 a b)) (5+12*szT a+12*szT b):=fun X w n Ys v hv hs hn=>by
 have hzz:jL ([kLet,s]++([kEq,atX qE a 0]++([kIn,atX qE b 0]++[kEnd])))=(txE qE (nd 29 s (fr2 a b))).data.toList:=by
  rw[zFt ea eb,fE,fE];simp only[List.cons_append,List.nil_append,jL,List.map_cons,List.map_nil,jT,nmT,qM,List.append_assoc]<;>rfl
 obtain⟨q,p,A,cp0,rfl,hq,k0,k1,k2,k3,k4,hcc,hkid⟩:=InT.open hv;obtain⟨kb,ko,rfl,hkb,⟨vaa,kaa,iaa⟩,⟨vbb,kbb,ibb⟩,-⟩:=hkid (by show 0<2;omega);obtain⟨qa,pa,rfl⟩:=InT.ptr iaa;obtain⟨qb,pb,rfl⟩:=InT.ptr ibb;have k4:W.cell? ⟨q,p+4,none⟩=some (.slice (some ⟨kb,ko,none⟩) 2 cp0):=k4;have kaa:W.cell? ⟨kb,ko,none⟩=some (.pointer (some ⟨qa,pa,none⟩)):=kaa;have HIa:Hid (HasT W (.pointer (some ⟨qa,pa,none⟩)) (some a)):=Lib.hid iaa;have HKa:=Lib.hid kaa;have kbb:W.cell? ⟨kb,ko+1,none⟩=some (.pointer (some ⟨qb,pb,none⟩)):=kbb;have HIb:Hid (HasT W (.pointer (some ⟨qb,pb,none⟩)) (some b)):=Lib.hid ibb;have HKb:=Lib.hid kbb;have HK4:=Lib.hid k4;have HK0:=Lib.hid k0;have HK2:=Lib.hid k2;have HS:=Lib.hid hs;have HN:=Lib.hid hn;have HZZ:=Lib.hid hzz;obtain⟨ZZ,hZZ⟩:∃ZZ,Ys++[txE qE (nd 29 s (fr2 a b))]=ZZ:=⟨_,rfl⟩;rw[hZZ];have HZ:=Lib.hid hZZ;have HcA:=Lib.hid cA;have HcB:=Lib.hid cB;clear hv hs hn hzz hZZ k0 k1 k2 k3 k4 hkid kaa iaa kbb ibb cA cB;have k0:w.cell? ⟨q,p,none⟩=_:=HS.out.1.cell HK0.out;have k2:w.cell? ⟨q,p+2,none⟩=_:=HS.out.1.cell HK2.out
 go_enter Tryz.func75,Tryz.ntmps75
 have c0:=zQr kLet s hB HS.out (by have:=HN.out;omega);go_wp2_with fail;refine Calls.mono c0 ?_;rintro en w3 ⟨⟨x3,rfl⟩,h3⟩;have H3:=Lib.hid h3;clear h3 c0 k0 k2;have c1:=kA kEq a 0 _ hB HcA.out _ _ _ _ HIa.out H3.out (by have:=HN.out;omega);have m4:=H3.out.1.cell HK4.out;have ma:=H3.out.1.cell HKa.out;go_wp2_with fail;refine Calls.mono c1 ?_;rintro en w4 ⟨⟨x4,rfl⟩,h4⟩;have H4:=Lib.hid h4;clear h4 c1 m4 ma;have c2:=kA kIn b 0 _ hB HcB.out _ _ _ _ HIb.out H4.out (by have:=HN.out;omega);have m4:=H4.out.1.cell HK4.out;have mb:=H4.out.1.cell HKb.out;go_wp2_with fail;refine Calls.mono c2 ?_;rintro en w5 ⟨⟨x5,rfl⟩,h5⟩;have H5:=Lib.hid h5;clear h5 c2 m4 mb;have c3:=wQ kEnd hB H5.out (by have:=HN.out;omega);go_wp2_with fail;refine Calls.mono c3 ?_;rintro en w6 ⟨⟨x6,rfl⟩,h6⟩;have H6:=Lib.hid h6;clear h6 c3;have hfin:=H6.out;simp only[List.append_assoc] at hfin;have HF:=Lib.hid (St7.more (m:=n+(5+12*szT a+12*szT b)) (St7.join (Ys:=Ys) (Zs:=[kLet,s]++([kEq,atX qE a 0]++([kIn,atX qE b 0]++[kEnd]))) hfin (by simp) HZZ.out) (by omega));clear hfin;go_wp2_with fail;go_end0;rw[←HZ.out];exact⟨⟨_,rfl⟩,HF.out⟩
theorem lo_if (a b c:Tr) (hB:W.heap.size≤bw) (ea:isT B.nck B.long a 2=true) (eb:isT B.nck B.long b 2=true) (ec:isT B.nck B.long c 2=true) (cA:WriC W bw a 0 (12*szT a)) (cB:WriC W bw b 0 (12*szT b)) (cC:WriC W bw c 0 (12*szT c)):LoC W bw (nd 30 nob (fr3 a b c)) (3+12*szT a+12*szT b+12*szT c):=fun X w n Ys v hv hs hn=>by
 have hzz:jL ([kIf,atX qE a 0]++([kThen,atX qE b 0]++[kElse,atX qE c 0]))=(txE qE (nd 30 nob (fr3 a b c))).data.toList:=by
  rw[yX3 ea eb ec,fE,fE,fE];simp only[List.cons_append,List.nil_append,jL,List.map_cons,List.map_nil,jT,nmT,qM,List.append_assoc]<;>rfl
 obtain⟨q,p,A,cp0,rfl,hq,k0,k1,k2,k3,k4,hcc,hkid⟩:=InT.open hv;obtain⟨kb,ko,rfl,hkb,⟨vaa,kaa,iaa⟩,⟨vbb,kbb,ibb⟩,⟨vcc,kcc,icc⟩,-⟩:=hkid (by show 0<3;omega);obtain⟨qa,pa,rfl⟩:=InT.ptr iaa;obtain⟨qb,pb,rfl⟩:=InT.ptr ibb;obtain⟨qc,pc,rfl⟩:=InT.ptr icc;have k4:W.cell? ⟨q,p+4,none⟩=some (.slice (some ⟨kb,ko,none⟩) 3 cp0):=k4;have kaa:W.cell? ⟨kb,ko,none⟩=some (.pointer (some ⟨qa,pa,none⟩)):=kaa;have HIa:Hid (HasT W (.pointer (some ⟨qa,pa,none⟩)) (some a)):=Lib.hid iaa;have HKa:=Lib.hid kaa;have kbb:W.cell? ⟨kb,ko+1,none⟩=some (.pointer (some ⟨qb,pb,none⟩)):=kbb;have HIb:Hid (HasT W (.pointer (some ⟨qb,pb,none⟩)) (some b)):=Lib.hid ibb;have HKb:=Lib.hid kbb;have kcc:W.cell? ⟨kb,ko+2,none⟩=some (.pointer (some ⟨qc,pc,none⟩)):=kcc;have HIc:Hid (HasT W (.pointer (some ⟨qc,pc,none⟩)) (some c)):=Lib.hid icc;have HKc:=Lib.hid kcc;have HK4:=Lib.hid k4;have HK0:=Lib.hid k0;have HK2:=Lib.hid k2;have HS:=Lib.hid hs;have HN:=Lib.hid hn;have HZZ:=Lib.hid hzz;obtain⟨ZZ,hZZ⟩:∃ZZ,Ys++[txE qE (nd 30 nob (fr3 a b c))]=ZZ:=⟨_,rfl⟩;rw[hZZ];have HZ:=Lib.hid hZZ;have HcA:=Lib.hid cA;have HcB:=Lib.hid cB;have HcC:=Lib.hid cC;clear hv hs hn hzz hZZ k0 k1 k2 k3 k4 hkid kaa iaa kbb ibb kcc icc cA cB cC;have k0:w.cell? ⟨q,p,none⟩=_:=HS.out.1.cell HK0.out;have k2:w.cell? ⟨q,p+2,none⟩=_:=HS.out.1.cell HK2.out
 go_enter Tryz.func75,Tryz.ntmps75
 have c0:=kA kIf a 0 _ hB HcA.out _ _ _ _ HIa.out HS.out (by have:=HN.out;omega);have m4:=HS.out.1.cell HK4.out;have ma:=HS.out.1.cell HKa.out;go_wp2_with fail;refine Calls.mono c0 ?_;rintro en w3 ⟨⟨x3,rfl⟩,h3⟩;have H3:=Lib.hid h3;clear h3 c0 m4 ma k0 k2;have c1:=kA kThen b 0 _ hB HcB.out _ _ _ _ HIb.out H3.out (by have:=HN.out;omega);have m4:=H3.out.1.cell HK4.out;have mb:=H3.out.1.cell HKb.out;go_wp2_with fail;refine Calls.mono c1 ?_;rintro en w4 ⟨⟨x4,rfl⟩,h4⟩;have H4:=Lib.hid h4;clear h4 c1 m4 mb;have c2:=kA kElse c 0 _ hB HcC.out _ _ _ _ HIc.out H4.out (by have:=HN.out;omega);have m4:=H4.out.1.cell HK4.out;have mc:=H4.out.1.cell HKc.out;go_wp2_with fail;refine Calls.mono c2 ?_;rintro en w5 ⟨⟨x5,rfl⟩,h5⟩;have H5:=Lib.hid h5;clear h5 c2 m4 mc;have hfin:=H5.out;simp only[List.append_assoc] at hfin;have HF:=Lib.hid (St7.more (m:=n+(3+12*szT a+12*szT b+12*szT c)) (St7.join (Ys:=Ys) (Zs:=[kIf,atX qE a 0]++([kThen,atX qE b 0]++[kElse,atX qE c 0])) hfin (by simp) HZZ.out) (by omega));clear hfin;go_wp2_with fail;go_end0;rw[←HZ.out];exact⟨⟨_,rfl⟩,HF.out⟩
end
theorem zKm (x:Nod) (a b:Tr):dpT a<dpT (x,fr2 a b)∧dpT b<dpT (x,fr2 a b):=by
 unfold dpT;simp only[fr2,fr1,Fr.dp];omega
theorem zS8 {x:Nod} {a:Nod} {k r:Fr}:dpT (a,k)<dpT (x,.cons a k r)∧r.dp≤(Fr.cons a k r).dp:=by
 unfold dpT;simp only[Fr.dp];omega
section
variable {W:World} {bw:Nat}
theorem zKn {x:Nod} {a b:Tr} (h:okST (x,fr2 a b)):okST a∧okST b:=by
 obtain⟨_,_,h1,h2,h3,h4,h5,h6,_⟩:=h;exact⟨⟨h1,h2,h3⟩,h4,h5,h6⟩
theorem yZg {x:Nod} {a:Tr} {k:Fr} (h:okST (x,.cons a.1 a.2 k)):okST a∧okS k:=by
 obtain⟨_,_,h1,h2,h3,h4⟩:=h;exact⟨⟨h1,h2,h3⟩,h4⟩
theorem ok_f {a:Tr} {k:Fr} (h:okS (.cons a.1 a.2 k)):okST a∧okS k:=by
 obtain⟨h1,h2,h3,h4⟩:=h;exact⟨⟨h1,h2,h3⟩,h4⟩
structure Wt7 (t:Tr):Prop where
 is:isT B.nck B.long t 2=true
 dp:dpT t≤60
 ok:okST t
theorem zEp (hB:W.heap.size≤bw) (hx:B.Lx W) (hp:Pl W) (hO:Op7 W):∀(n:Nat) (t:Tr),szT t≤n→n≤8192→Wt7 t→∀r:Nat,WriC W bw t r (12*szT t)
 | 0,t,h,_,_=>absurd h (by unfold szT;omega)
 | n+1,t,h,hn,ht=>by
  have ih:=zEp hB hx hp hO n;have hnx:B.Nx W:=⟨hx.2.1,hx.2.2.1⟩;have main:(∀r:Nat,¬lvl t.1<r→∃c,c+2≤12*szT t∧WriC W bw t r c)→∀r:Nat,WriC W bw t r (12*szT t):=fun hh r=>by
   by_cases hc:lvl t.1<r
   ·obtain⟨c,h1,h2⟩:=hh 0 (Nat.not_lt_zero _)
    exact(zTj t r c hB hc (zEo hO ht.is) h2).more h1
   ·obtain⟨c,h1,h2⟩:=hh r hc
    exact h2.more (by omega)
  have hru:=zEo hO ht.is;have hid:=ht.is;have hdp:=ht.dp;have hok:=ht.ok;refine main fun r hc=>?_
  clear main ht
  cases wZ hid with
  | num k h1 h2=>exact⟨1,by unfold szT;omega,yU4 k h1 h2 hB hx r hc hru⟩
  | boo k hk=>exact⟨1,by unfold szT;omega,yVq k hB r hc hru⟩
  | unit=>exact⟨2,by unfold szT;omega,yZ9 hB r hc hru⟩
  | var s hs=>exact⟨1,by unfold szT;omega,zWl s hB r hc hru⟩
  | lam s hs a b hA hBb=>
   have hz:szT (nd 24 s (fr2 a b))=1+(szT a+szT b):=zQ _ a b;have hd:=zKm ⟨24,0,s,nob⟩ a b;have hd2:dpT (nd 24 s (fr2 a b))≤60:=hdp;have ho:=zKn (x:=⟨24,0,s,nob⟩) hok;have hd3:dpT (((⟨24,0,s,nob⟩:Nod),fr2 a b):Tr)≤60:=hdp;exact⟨_,by omega,nT _ _ (.inl rfl) (yUg s a b hB hnx hp (by omega) (by omega) ho.1 hA hBb (ih b (by omega) (by omega) ⟨hBb,by omega,ho.2⟩ 0)) r hc hru⟩
  | app a b hA hBb=>
   have hz:szT (nd 25 nob (fr2 a b))=1+(szT a+szT b):=zQ _ a b;have hd:=zKm ⟨25,0,nob,nob⟩ a b;have hd3:dpT (((⟨25,0,nob,nob⟩:Nod),fr2 a b):Tr)≤60:=hdp;have ho:=zKn (x:=⟨25,0,nob,nob⟩) hok;exact⟨_,by omega,zQ7 a b hB hA hBb (ih a (by omega) (by omega) ⟨hA,by omega,ho.1⟩ 4) (ih b (by omega) (by omega) ⟨hBb,by omega,ho.2⟩ 5) r hc hru⟩
  | pair a b hA hBb=>
   have hz:szT (nd 26 nob (fr2 a b))=1+(szT a+szT b):=zQ _ a b;have hd:=zKm ⟨26,0,nob,nob⟩ a b;have hd3:dpT (((⟨26,0,nob,nob⟩:Nod),fr2 a b):Tr)≤60:=hdp;have ho:=zKn (x:=⟨26,0,nob,nob⟩) hok;exact⟨_,by omega,yZ8 a b hB hA hBb (ih a (by omega) (by omega) ⟨hA,by omega,ho.1⟩ 0) (ih b (by omega) (by omega) ⟨hBb,by omega,ho.2⟩ 0) r hc hru⟩
  | sel k hk a hA=>
   have hz:szT (nd k nob (fr1 a))=1+szT a:=mE _ a;have hd:=zS8 (x:=⟨k,0,nob,nob⟩) (a:=a.1) (k:=a.2) (r:=.nil);have hd3:dpT (((⟨k,0,nob,nob⟩:Nod),.cons a.1 a.2 .nil):Tr)≤60:=hdp;have hda:dpT a=dpT (a.1,a.2):=rfl;have ho:=yZg (x:=⟨k,0,nob,nob⟩) (a:=a) (k:=.nil) hok;have cA:=ih a (by omega) (by omega) ⟨hA,by omega,ho.1⟩ 5
   rcases hk with rfl | rfl
   ·exact⟨_,by omega,yU2 a hB hA cA r hc hru⟩
   ·exact⟨_,by omega,yU3 a hB hA cA r hc hru⟩
  | letE s hs a b hA hBb=>
   have hz:szT (nd 29 s (fr2 a b))=1+(szT a+szT b):=zQ _ a b;have hd:=zKm ⟨29,0,s,nob⟩ a b;have hd3:dpT (((⟨29,0,s,nob⟩:Nod),fr2 a b):Tr)≤60:=hdp;have ho:=zKn (x:=⟨29,0,s,nob⟩) hok;exact⟨_,by omega,nT _ _ (.inr (.inl rfl)) (yUh s a b hB hA hBb (ih a (by omega) (by omega) ⟨hA,by omega,ho.1⟩ 0) (ih b (by omega) (by omega) ⟨hBb,by omega,ho.2⟩ 0)) r hc hru⟩
  | ifE a b c hA hBb hC=>
   have hz:szT (nd 30 nob (fr3 a b c))=1+(szT a+szT b+szT c):=dG _ a b c;have hd:=zS8 (x:=⟨30,0,nob,nob⟩) (a:=a.1) (k:=a.2) (r:=fr2 b c);have he:=zKm ⟨30,0,nob,nob⟩ b c;have hd3:dpT (((⟨30,0,nob,nob⟩:Nod),.cons a.1 a.2 (fr2 b c)):Tr)≤60:=hdp;have hd4:dpT (((⟨30,0,nob,nob⟩:Nod),fr2 b c):Tr)≤60:=by
    have h1:dpT (((⟨30,0,nob,nob⟩:Nod),.cons a.1 a.2 (fr2 b c)):Tr)=1+(Fr.cons a.1 a.2 (fr2 b c)).dp:=rfl;have h2:dpT (((⟨30,0,nob,nob⟩:Nod),fr2 b c):Tr)=1+(fr2 b c).dp:=rfl;have h3:=hd.2;omega
   have hda:dpT a=dpT (a.1,a.2):=rfl;have ho:=yZg (x:=⟨30,0,nob,nob⟩) (a:=a) (k:=fr2 b c) hok;have ho2:=zKn (x:=⟨30,0,nob,nob⟩) (a:=b) (b:=c) ⟨(by decide:nob.size≤1000000000),(by decide:nob.size≤1000000000),ho.2⟩;exact⟨_,by omega,nT _ _ (.inr (.inr (.inl rfl))) (lo_if a b c hB hA hBb hC (ih a (by omega) (by omega) ⟨hA,by omega,ho.1⟩ 0) (ih b (by omega) (by omega) ⟨hBb,by omega,ho2.1⟩ 0) (ih c (by omega) (by omega) ⟨hC,by omega,ho2.2⟩ 0)) r hc hru⟩
  | op k h1 h2 a b hA hBb=>
   have hz:szT (opN k,fr2 a b)=1+(szT a+szT b):=zQ _ a b;have hd:=zKm (opN k) a b;have ho:=zKn (x:=opN k) hok;obtain⟨m,rfl⟩:∃m:Nat,k=((m+1:Nat):Int):=⟨(k-1).toNat,by omega⟩;exact⟨_,by omega,wr_op m (by omega) a b hB hO hA hBb (ih a (by omega) (by omega) ⟨hA,by omega,ho.1⟩ _) (ih b (by omega) (by omega) ⟨hBb,by omega,ho.2⟩ _) r hc hru⟩
  | caseE a hA k hk h0=>
   have hz:szT (nd 32 nob (.cons a.1 a.2 k))=1+(szT a+k.sz):=rfl;have hl:=Fr.len_le k;have hd:=zS8 (x:=⟨32,0,nob,nob⟩) (a:=a.1) (k:=a.2) (r:=k);have hd3:dpT (((⟨32,0,nob,nob⟩:Nod),.cons a.1 a.2 k):Tr)≤60:=hdp;have hd4:dpT (((⟨32,0,nob,nob⟩:Nod),.cons a.1 a.2 k):Tr)=1+(Fr.cons a.1 a.2 k).dp:=rfl;have hda:dpT a=dpT (a.1,a.2):=rfl;have ho:=yZg (x:=⟨32,0,nob,nob⟩) (a:=a) (k:=k) hok;have hkd:=hd.2;exact⟨_,by omega,nT _ _ (.inr (.inr (.inr (.inl rfl)))) (yZe a k hB hA (ih a (by omega) (by omega) ⟨hA,by omega,ho.1⟩ 0) h0 (by omega) hk (zEn (n:=n) (d:=60) hk ho.2 (by omega) (by omega) fun b hb1 hb2=>ih b hb1 (by omega) ⟨hb2.1,hb2.2.1,hb2.2.2⟩ 0)) r hc hru⟩
  | foldE a t hA hT k hk h0=>
   have hz:szT (nd 33 nob (.cons a.1 a.2 (.cons t.1 t.2 k)))=1+(szT a+(szT t+k.sz)):=rfl;have hl:=Fr.len_le k;have hd:=zS8 (x:=⟨33,0,nob,nob⟩) (a:=a.1) (k:=a.2) (r:=.cons t.1 t.2 k);have he:=zS8 (x:=⟨33,0,nob,nob⟩) (a:=t.1) (k:=t.2) (r:=k);have hd3:dpT (((⟨33,0,nob,nob⟩:Nod),.cons a.1 a.2 (.cons t.1 t.2 k)):Tr)≤60:=hdp;have hd4:dpT (((⟨33,0,nob,nob⟩:Nod),.cons a.1 a.2 (.cons t.1 t.2 k)):Tr)=1+(Fr.cons a.1 a.2 (.cons t.1 t.2 k)).dp:=rfl;have he4:dpT (((⟨33,0,nob,nob⟩:Nod),.cons t.1 t.2 k):Tr)=1+(Fr.cons t.1 t.2 k).dp:=rfl;have hda:dpT a=dpT (a.1,a.2):=rfl;have hdt:dpT t=dpT (t.1,t.2):=rfl;have hkd:=hd.2;have hke:=he.2;have ho:=yZg (x:=⟨33,0,nob,nob⟩) (a:=a) (k:=.cons t.1 t.2 k) hok;have ho2:=ok_f (a:=t) (k:=k) ho.2;exact⟨_,by omega,nT _ _ (.inr (.inr (.inr (.inr rfl)))) (yZf a t k hB hnx hp (by omega) (by omega) ho2.1 hT hA (ih a (by omega) (by omega) ⟨hA,by omega,ho.1⟩ 0) h0 (by omega) hk (zEn (n:=n) (d:=60) hk ho2.2 (by omega) (by omega) fun b hb1 hb2=>ih b hb1 (by omega) ⟨hb2.1,hb2.2.1,hb2.2.2⟩ 0)) r hc hru⟩
theorem yZh (o:Option Tr) (hz:szO o≤60000) (hs:okSO o) (w:World) (v:Value) (hx:B.Lx w) (hp:Pl w) (hO:Op7 w) (hv:HasT w v o):Calls Tryz.prog 17 #[v] w (dT o w):=by
 have cS:=yZ4 o hz hs w w v ⟨hx.2.1,hx.2.2.1⟩ hv (Up.refl w);unfold dT
 by_cases hc:chk B.nck B.long o 2=0
 ·obtain⟨t,rfl,h1,h2,h3⟩:=zQq hc
  rw[hc] at cS ⊢;rw[if_pos rfl];have HS:Hid (zLb (some t)=txE qE t):=Lib.hid rfl;rw[HS.out];have hsz:=zQc (nb:=qE) oO lD wU h3;have HV:=Lib.hid hv;have HX:=Lib.hid hx;have HP:=Lib.hid hp;have HO:=Lib.hid hO;have H3:=Lib.hid (Wt7.mk h3 h2 (hs t rfl));have HSZ:=Lib.hid hsz;clear hc hv hp hO h2 h3 hsz hx hs hz
  go_enter Tryz.func17,Tryz.ntmps17
  go_wp2_with fail;refine Calls.mono cS ?_;rintro en w1 ⟨rfl,u1⟩;have hz1:=u1.size;have hWr:St7 w1 w1.heap.size (fun _ _=>False) 0 [] (w1.alloc (.cells #[.slice none 0 0] 82)):=⟨(Up.refl w1).alloc _,[],Nat.le_refl _,rfl,Iff.rfl,_,heap_alloc_new w1 _,World.ownsRow_nil _ _ _ _,fun _ _ h=>h.elim⟩;have cW:=zEp (W:=w1) (bw:=w1.heap.size) (Nat.le_refl _) (B.Lx.below HX.out u1) (HP.out.up u1) (HO.out.up u1) _ t (Nat.le_refl _) h1 H3.out 0 _ _ 0 [] v (HV.out.up u1) hWr (by omega);rw[fE] at cW;have U1:=Lib.hid u1;clear u1 hWr cS;go_wp2_with fail;refine Calls.mono cW ?_;rintro en w2 ⟨⟨u,rfl⟩,u2,ns,hn1,hn2,hn3,vs,r1,ho,-⟩;have hne:ns≠[]:=fun e=>by have:=hn3.1 e;cases this
  have hlen:0<ns.length:=List.length_pos_iff.2 hne;obtain⟨g,cp,rfl,hbg,hltg⟩:=ho.form hlen;have hcp:=lF ho;have c0:w2.cell? ⟨w1.heap.size,0,none⟩=some (.slice (some ⟨g,0,none⟩) ns.length cp):=cell_of_row w2 _ 0 _ _ _ r1;have hj:Lib.join (ns.map (·.data.toList)) (ByteArray.mk #[32]).data.toList=(txE qE t).data.toList:=by
   have h:=nK (ns.map nmT);have e:txt (ns.map nmT)=ns:=by unfold txt;rw[List.map_map];exact List.map_id ns
   rw[e] at h;exact h.trans hn2
  have hcs:∀(j:Nat) x,ns[j]? = some x→w2.cell? ⟨g,0+j,none⟩=some (.string x):=fun j x h=>by
   have h9:=ho.cells (g:=g) rfl j (.string x) (by rw[List.getElem?_map,h];rfl);have e1:(⟨g,0,none⟩:Addr).add j=⟨g,0+j,none⟩:=by unfold Addr.add;split<;>simp_all
   rwa [e1] at h9
  have hjl:(Lib.join (ns.map (·.data.toList)) (ByteArray.mk #[32]).data.toList).length=(txE qE t).size:=by rw[hj];show _=(jT (tks (tkE qE t))).toArray.size;simp[txE,tB]
  have cJ:=Tryz.strings_Join g 0 cp ns ⟨#[32]⟩ w2 hcs hltg (by omega) hcp (by rw[hjl];have:=HSZ.out;omega);rw[hj] at cJ;have hX:(⟨(txE qE t).data.toList.toArray⟩:ByteArray)=txE qE t:=rfl;rw[hX] at cJ;obtain⟨m,hm⟩:∃m,ns.length=m:=⟨_,rfl⟩;rw[hm] at c0 cJ;have U2:=Lib.hid (Up.trans U1.out u2);clear u2 r1 ho cW hcs hjl hj hn1 hn2 hn3 hne hlen hm hX;go_wp2_with fail;refine Calls.mono cJ ?_;rintro en w3 ⟨rfl,u3⟩;have U3:=Lib.hid u3;clear u3;go_wp2_with fail
  go_ret2
  exact⟨rfl,Up.trans U2.out U3.out⟩
 ·rw[if_neg hc]
  obtain⟨z,hzz⟩:∃z,chk B.nck B.long o 2=z:=⟨_,rfl⟩;rw[hzz] at hc cS ⊢;clear hv hp hx hs hz hzz hO
  go_enter Tryz.func17,Tryz.ntmps17
  go_wp2_with fail;refine Calls.mono cS ?_;rintro en w1 ⟨rfl,u1⟩;have U1:=Lib.hid u1;clear u1;go_wp2_with fail
  go_ret2
  exact⟨rfl,U1.out⟩
end
theorem zEq:PxAll:=⟨fun l i hl hz m hm w v hx hv=>pExpr l i hl hz m hm w v hv hx.nx hx.px.2 hx.px.1,fun o hz hs _ w v hx hv hu=>(yZh o hz hs w v hx.lx hx.px.2 hx.px.1 (hv.up hu)).mono fun _ _ h=>⟨h.1,hu.trans h.2⟩⟩
end Go.Proofs.YtbpijnalmakfaaaGreatDoor
