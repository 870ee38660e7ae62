/-
  The program's again, alike, EqualFunc over alike, Same: what they tell of trees.
-/
import Derived.Test.YtbpijnalmakfaaaGreatDoorGw09
import Derived.Test.YtbpijnalmakfaaaGreatDoorGw39
import Derived.Test.YtbpijnalmakfaaaGreatDoorGw44
set_option maxHeartbeats 40000000
set_option maxRecDepth 100000
namespace Go.Proofs.YtbpijnalmakfaaaGreatDoor
open Go.RowKit
theorem zNn {w:World} {S S':Nat→Prop} {v:Value} {x y:Nod} {ks ls:Fr} (hU:∀{b o:Nat},ks.len=ls.len→InF w S ks b o→InF w S' ls b o→ks=ls)
  (h:Nd w S v x ks.len (InF w S ks)) (h':Nd w S' v y ls.len (InF w S' ls)):x=y∧ks=ls:=by
 obtain⟨q,p,A,c,e,_,_,h0,h1,h2,h3,h4,_,hk⟩:=h;obtain⟨q',p',A',c',e',_,_,h0',h1',h2',h3',h4',_,hk'⟩:=h';subst e;injection e' with e';injection e' with e';injection e' with e1 e2;subst e1 e2;have k0:x.k=y.k:=by rw[h0] at h0';injection h0' with h;injection h
 have k1:x.n=y.n:=by rw[h1] at h1';injection h1' with h;injection h
 have k2:x.a=y.a:=by rw[h2] at h2';injection h2' with h;injection h
 have k3:x.m=y.m:=by rw[h3] at h3';injection h3' with h;injection h
 rw[h4] at h4';injection h4' with h4';injection h4' with hA hl _;subst hA;refine⟨zWq k0 k1 k2 k3,?_⟩
 rcases Nat.eq_zero_or_pos ks.len with hz | hp
 ·cases ks with
  | nil=>cases ls with
   | nil=>rfl
   | cons _ _ _=>simp[Fr.len] at hl
  | cons _ _ _=>simp[Fr.len] at hz
 ·obtain⟨kb,ko,hA1,_,hkk⟩:=hk hp
  obtain⟨kb',ko',hA2,_,hkk'⟩:=hk' (by omega);rw[hA1] at hA2;injection hA2 with hA2;injection hA2 with e1 e2;subst e1 e2;exact hU hl hkk hkk'
theorem InF.uniq {w:World} {S S':Nat→Prop}:∀{f g:Fr} {b o:Nat},f.len=g.len→InF w S f b o→InF w S' g b o→f=g
 | .nil,.nil,_,_,_,_,_=>rfl
 | .nil,.cons _ _ _,_,_,h,_,_=>by simp[Fr.len] at h
 | .cons _ _ _,.nil,_,_,h,_,_=>by simp[Fr.len] at h
 | .cons x ks rs,.cons y ls ss,b,o,hlen,h,h'=>by
  obtain⟨⟨v,hv,hn⟩,hr⟩:=h;obtain⟨⟨v',hv',hn'⟩,hr'⟩:=h';obtain rfl:v=v':=by rw[hv] at hv';injection hv'
  have hr2:rs=ss:=InF.uniq (f:=rs) (g:=ss) (by simp only[Fr.len] at hlen;omega) hr hr';obtain⟨e1,e2⟩:=zNn (fun hl h1 h2=>InF.uniq (f:=ks) (g:=ls) hl h1 h2) hn hn';rw[e1,e2,hr2]
theorem InT.uniq {w:World} {S S':Nat→Prop} {v:Value} {t u:Tr} (h:InT w S v t) (h':InT w S' v u):t=u:=by
 obtain⟨e1,e2⟩:=zNn (fun hl h1 h2=>InF.uniq hl h1 h2) h h';exact Prod.ext e1 e2
def Cm (w:World) (cb k:Nat):Prop:=w.heap[cb]? = some (.cells #[.int .i64 (k:Int),.map none] 95 (0,0))
theorem zKq (cb k:Nat) (p:Array Value) (w:World) (h:Cm w cb k) (hk:k<65536) :
  Calls Tryz.prog 98 #[.pointer (some ⟨cb,0,none⟩),.agg p] w fun e w'=>e = .returned (.bool false)∧Cm w' cb (k+1)∧w.grownBy w' (some cb):=by
 have c0:=cell_of_row w cb 0 _ _ _ h;have f0:=frozen_of_row w cb 0 _ _ h;have hcb:=qC h;have h1:(k:Int)+1≤65536:=by omega
 have HC:=Lib.hid h;clear h
 go_enter Tryz.func98,Tryz.ntmps98
 go_wp2_with fail
 go_ret
 refine⟨rfl,?_,gD (mC (jF w _) _ _ (.inr rfl)) _⟩;have e1:((k+1:Nat):Int)=(k:Int)+1:=by omega
 refine yD _ ?_;rw[e1,yQ _ HC.out]
 rfl
def zQs (b:Bool) (cb k M:Nat) (w:World) (e:Ending) (w':World):Prop:=e = .returned (.bool b)∧(∃m,m≤M∧Cm w' cb (k+m))∧w.grownBy w' (some cb)
theorem mO {b b':Bool} {cb k M m:Nat} {w w':World} (hb:b=b') (hm:m≤M) (h:Cm w' cb (k+m)) (hg:w.grownBy w' (some cb)):zQs b cb k M w (.returned (.bool b')) w':=⟨by rw[hb],⟨m,hm,h⟩,hg⟩
def zNo (n:Nat):Prop:=∀(t u:Tr),szT t≤n→∀(w:World) (Sq Sq':Nat→Prop) (v v':Value) (cb k:Nat),Bel Sq w.heap.size→Bel Sq' w.heap.size→¬Sq cb→¬Sq' cb→InT w Sq v t→InT w Sq' v' u→Cm w cb k→k+szT t≤65536→∀b:Bool,(b=true↔t=u)→
    Calls Tryz.prog 44 #[.pointer (some ⟨cb,0,none⟩),v,v'] w (zQs b cb k (szT t) w)
theorem Cm.drew {w:World} {cb k:Nat} (h:Cm w cb k) (q:Nat):Cm (w.drewN q) cb k:=h
theorem zKr (n:Nat) (ih:zNo n) (ks ls:Fr) (hn:ks.sz≤n) (w:World) (Sq Sq':Nat→Prop) (A A':Option Addr) (c c' cb k:Nat) (hS:Bel Sq w.heap.size) (hS':Bel Sq' w.heap.size) (hcS:¬Sq cb) (hcS':¬Sq' cb)
  (hkid:Kid w Sq A ks 0) (hkid':Kid w Sq' A' ls 0) (hcm:Cm w cb k) (hk:k+ks.sz≤65536) (ANS:Bool) (hans:ANS=true↔ks=ls) :
  Calls Tryz.prog 99 #[.slice A ks.len c,.slice A' ls.len c',.func (.func 44) #[.pointer (some ⟨cb,0,none⟩)] #[]] w (zQs ANS cb k ks.sz w):=by
 have HA:=Lib.hid hans;have HK:=Lib.hid hkid;have HK':=Lib.hid hkid';have HIH:=Lib.hid ih;have HCM:=Lib.hid hcm;have HB:=Lib.hid hS;have HB':=Lib.hid hS';have HC:=Lib.hid hcS;have HC':=Lib.hid hcS';have hll:=Fr.len_le ks;obtain⟨N,hN⟩:∃N,ks.len=N:=⟨_,rfl⟩;obtain⟨M,hM⟩:∃M,ls.len=M:=⟨_,rfl⟩;obtain⟨Z,hZ⟩:∃Z,ks.sz=Z:=⟨_,rfl⟩;rw[hN,hZ] at hll;rw[hZ] at hk hn;rw[hN,hM,hZ];have HNN:=Lib.hid hN;have HMM:=Lib.hid hM;have HZ:=Lib.hid hZ;clear hans hkid hkid' ih hcm hS hS' hcS hcS' hN hM hZ
 by_cases d4:N=M
 ·subst d4
  go_enter Tryz.func99,Tryz.ntmps99
  go_wp2_with fail
  go_loopw [7,8,9,17] (fun _ _ _ i wr=>∃(j:Nat) (done r1 r2:Fr) (m:Nat),i = .int .i64 j∧j=done.len∧ks=done.app r1∧ls=done.app r2∧Kid wr Sq A r1 j∧Kid wr Sq' A' r2 j∧m≤done.sz∧Cm wr cb (k+m)∧w.grownBy wr (some cb)) (fun _ _ _ i _=>N-(intOf i).toNat)
  case atStart=>exact⟨0,.nil,ks,ls,0,rfl,rfl,rfl,rfl,HK.out,HK'.out,Nat.zero_le _,HCM.out,jF _ _⟩
  case round=>
   obtain⟨j,done,r1,r2,m,rfl,hj,hks,hls,hkid,hkid',hm,hcm,hgw⟩:=hrel;have hl:N=done.len+r1.len:=by rw[←HNN.out,hks,Fr.len_app]
   have hl':N=done.len+r2.len:=by rw[←HMM.out,hls,Fr.len_app]
   have hs:Z=done.sz+r1.sz:=by rw[←HZ.out,hks,Fr.sz_app]
   have hrw:=hgw.size;have HKS:=Lib.hid hks;have HLS:=Lib.hid hls
   by_cases hlt:0<r1.len
   ·obtain⟨y1,l1,s1,rfl⟩:=Fr.cut hlt
    obtain⟨y2,l2,s2,rfl⟩:=Fr.cut (f:=r2) (by omega);obtain⟨kb,ko,u1,rfl,hkb,hcell,hu1,hnext⟩:=hkid.next;obtain⟨kb',ko',u2,rfl,hkb',hcell',hu2,hnext'⟩:=hkid'.next;have hyl:szT (y1,l1)=1+l1.sz:=rfl;have hsr:(Fr.cons y1 l1 s1).sz=1+l1.sz+s1.sz:=rfl;have hlr:(Fr.cons y1 l1 s1).len=s1.len+1:=rfl;have hbr:Bel Sq wr.heap.size:=fun q h=>by have:=HB.out q h;omega
    have hbr':Bel Sq' wr.heap.size:=fun q h=>by have:=HB'.out q h;omega
    have hjz:(j:Int)<(N:Int):=by omega
    have hjN:j<N:=by omega
    have HSN:Hid (m+szT (y1,l1)≤(done.app (.cons y1 l1 .nil)).sz∧m+szT (y1,l1)≤Z):=Lib.hid (by rw[Fr.sz_app];simp only[Fr.sz];omega);have HLN:Hid (j+1=(done.app (.cons y1 l1 .nil)).len):=Lib.hid (by rw[Fr.len_app];simp only[Fr.len];omega);have HNX:Hid (∀w2,wr.grownBy w2 (some cb)→Kid w2 Sq (some ⟨kb,ko,none⟩) s1 (j+1)∧Kid w2 Sq' (some ⟨kb',ko',none⟩) s2 (j+1)):=Lib.hid fun w2 hw2=>⟨hnext.gb hbr HC.out hw2,hnext'.gb hbr' HC'.out hw2⟩
    have cI:=fun b hb=>HIH.out (y1,l1) (y2,l2) (by omega) wr Sq Sq' u1 u2 cb (k+m) hbr hbr' HC.out HC'.out hu1 hu2 hcm (by omega) b hb
    have HGW:=Lib.hid hgw;clear hkid hkid' hnext hnext' hu1 hu2 hks hls hj hl hl' hs hlr hsr hyl hbr hbr' hgw hcm
    by_cases heq:((y1,l1):Tr)=(y2,l2)
    ·have cI:=cI true ⟨fun _=>heq,fun _=>rfl⟩
     have HEQ:=Lib.hid heq;clear heq
     go_wp2_with (go_at_call 44;refine cI.mono ?_;rintro e w2 ⟨rfl,hc2,hg2⟩;have HC2:=Lib.hid hc2;have HG2:=Lib.hid hg2;clear hc2 hg2)
     go_roundw
     case rel=>
      obtain⟨m2,hm2,hc2⟩:=HC2.out;exact⟨j+1,done.app (.cons y1 l1 .nil),s1,s2,m+m2,by go_num,HLN.out,by rw[HKS.out,Fr.app_cons],by
       rw[HLS.out,Fr.app_cons];have:=HEQ.out;simp only[Prod.mk.injEq] at this;rw[this.1,this.2],(HNX.out _ HG2.out).1,(HNX.out _ HG2.out).2,by have:=HSN.out.1;omega,by rw[←Nat.add_assoc];exact hc2,yT HGW.out HG2.out⟩
     case measure=>simp[intOf];omega
    ·have cI:=cI false ⟨fun h=>(by cases h),fun h=>absurd h heq⟩
     have HE:Hid (ANS=false):=Lib.hid (yM HA.out fun e2=>heq (by
      rw[HKS.out,HLS.out] at e2;have e3:=Fr.app_inj done e2;simp only[Fr.cons.injEq] at e3;rw[e3.1,e3.2.1]))
     clear heq
     go_wp2_with (go_at_call 44;refine cI.mono ?_;rintro e w2 ⟨rfl,hc2,hg2⟩;have HC2:=Lib.hid hc2;have HG2:=Lib.hid hg2;clear hc2 hg2)
     go_ret
     obtain⟨m2,hm2,hc2⟩:=HC2.out;exact mO (m:=m+m2) HE.out (by have:=HSN.out.2;omega) (by rw[←Nat.add_assoc];exact hc2) (yT HGW.out HG2.out)
   ·have h1:r1 = .nil:=by
     cases r1 with
     | nil=>rfl
     | cons y l r=>exact absurd (Nat.succ_pos _) hlt
    subst h1;have hl1:N=done.len:=by simpa [Fr.len] using hl
    have h2:r2 = .nil:=by
     cases r2 with
     | nil=>rfl
     | cons y l r=>simp only[Fr.len] at hl';omega
    subst h2;have hjz:¬(j:Int)<(N:Int):=by omega
    have HE:Hid (ANS=true):=Lib.hid (zTk HA.out (by rw[HKS.out,HLS.out]));have HGW:=Lib.hid hgw;have HCR:=Lib.hid hcm;have hsn:(Fr.nil).sz=0:=rfl;have hmz:m≤Z:=by omega
    clear hkid hkid' hks hls hj hl hl' hl1 hs hgw hcm hsn;go_wp2_with fail
    go_ret
    exact mO HE.out hmz HCR.out HGW.out
 ·have e4:((N:Int)==(M:Int))=false:=by rw[beq_eq_false_iff_ne];omega
  have f4:((N:Int) != (M:Int))=true:=by rw[bne_iff_ne];omega
  have HE:Hid (ANS=false):=Lib.hid (yM HA.out fun e=>d4 (by rw[←HNN.out,←HMM.out,e]));clear d4
  go_enter Tryz.func99,Tryz.ntmps99
  go_wp2_with fail
  go_ret
  exact mO (m:=0) HE.out (Nat.zero_le _) HCM.out (jF _ _)
theorem zSa:∃j:TypeInfo,Tryz.prog.info? 57=some j∧j.size≠0:=by
 have h:(Tryz.prog.info? 57).map (·.size)=some 5:=by kernel_rfl
 obtain⟨j,hj,hs⟩:=Option.map_eq_some_iff.1 h;exact⟨j,hj,by omega⟩
theorem zKs {w:World} {a b:Addr} (hne:a≠b) (ha:Pln w a.block) (hb:Pln w b.block):(binOp .eql 24 (.pointer (some a)) (.pointer (some b))).run Tryz.prog w = .ok (.bool false) w:=by
 obtain⟨j,hj,hs⟩:=zSa;obtain⟨ca,ta,ha⟩:=ha;obtain⟨cb,tb,hb⟩:=hb;exact run_eql_ptr_other w Tryz.underlying24 hj hs hne ha hb
theorem zEx (w:World) (a:Addr):(binOp .eql 24 (.pointer (some a)) (.pointer (some a))).run Tryz.prog w = .ok (.bool true) w:=by
 obtain⟨j,hj,hs⟩:=zSa;exact run_eql_ptr_same w a Tryz.underlying24 hj
theorem zYt:∀n,n≤65536→zNo n
 | 0,_=>fun t _ h=>absurd h (by unfold szT;omega)
 | n+1,hbig=>by
  have ih:=zYt n (by omega);rintro⟨x,ks⟩ ⟨y,ls⟩ hn w Sq Sq' v v' cb k hS hS' hcS hcS' hin hin' hcm hk ANS hans;have huq:v=v'→ANS=true:=fun e=>hans.2 (by subst e;exact hin.uniq hin')
  obtain⟨q,p,A,c,rfl,hq1,c0,c1,c2,c3,c4,hc,hkid⟩:=hin.open;obtain⟨q',p',A',c',rfl,hq1',c0',c1',c2',c3',c4',hc',hkid'⟩:=hin'.open
  by_cases hsame:q=q'∧p=p'
  ·obtain⟨rfl,rfl⟩:=hsame
   have HE:Hid (ANS=true):=Lib.hid (huq rfl);have heq:=zEx w ⟨q,p,none⟩;clear huq hans ih hin hin' hkid hkid'
   go_enter Tryz.func44,Tryz.ntmps44
   go_wp2_with fail
   go_ret
   exact mO (m:=0) HE.out (Nat.zero_le _) hcm (jF _ _)
  ·have heq:=zKs (w:=w) (a:=⟨q,p,none⟩) (b:=⟨q',p',none⟩) (fun e=>hsame (by injection e with e1 e2;exact⟨e1,e2⟩)) hin.pln hin'.pln
   have hq:=yL c4;have hqq:=yL c4';have hcb:=qC hcm;have HA:=Lib.hid hans;have HIH:=Lib.hid ih;have HCM:=Lib.hid hcm;have HK:=Lib.hid hkid;have HK':=Lib.hid hkid';have HB:=Lib.hid hS;have HB':=Lib.hid hS';have HC:=Lib.hid hcS;have HC':=Lib.hid hcS';have hqc:q≠cb:=fun e=>hcS (by rw[←e];exact hq1)
   have hqc':q'≠cb:=fun e=>hcS' (by rw[←e];exact hq1')
   have hsz:szT (x,ks)=1+ks.sz:=rfl;obtain⟨Z,hZ⟩:∃Z,szT (x,ks)=Z:=⟨_,rfl⟩;rw[hZ] at hn hk hsz ⊢;obtain⟨N,hN⟩:∃N,ks.len=N:=⟨_,rfl⟩;obtain⟨M,hM⟩:∃M,ls.len=M:=⟨_,rfl⟩;rw[hN] at c4 hc;rw[hM] at c4' hc';have HNN:=Lib.hid hN;have HMM:=Lib.hid hM;have HSZ:=Lib.hid hsz;have hk1:k<65536:=by omega
   clear huq hans ih hin hin' hcm hkid hkid' hS hS' hcS hcS' hsz hZ hN hM hsame
   by_cases d0:x.k=y.k
   ·by_cases d1:x.n=y.n
    ·by_cases d2:x.a=y.a
     ·by_cases d3:x.m=y.m
      ·have HXY:=Lib.hid (zWq d0 d1 d2 d3)
       obtain⟨e0,f0⟩:=xV d0;obtain⟨e1,f1⟩:=xV d1;obtain⟨e2,f2⟩:=sN d2;obtain⟨e3,f3⟩:=sN d3;have HANS:Hid (ANS=true↔ks=ls):=Lib.hid (HA.out.trans ⟨fun e=>(Prod.mk.inj e).2,fun e=>by rw[e,HXY.out]⟩);have cA:=fun W (h:Cm W cb k)=>zKq cb k #[.pointer (some ⟨q,p,none⟩),.pointer (some ⟨q',p',none⟩)] W h hk1
       have cE:=fun W (hg:w.grownBy W (some cb)) (h:Cm W cb (k+1))=>zKr n HIH.out ks ls (by have:=HSZ.out;omega) W Sq Sq' A A' c c' cb (k+1) (fun q h=>by have:=HB.out q h;have:=hg.size;omega) (fun q h=>by have:=HB'.out q h;have:=hg.size;omega) HC.out HC'.out (HK.out.gb HB.out HC.out hg) (HK'.out.gb HB'.out HC'.out hg) h (by have:=HSZ.out;omega) ANS HANS.out
       rw[HNN.out,HMM.out] at cE;have HCA:=Lib.hid cA;have HCE:=Lib.hid cE;clear d0 d1 d2 d3 cA cE
       go_enter Tryz.func44,Tryz.ntmps44
       go_wp2_with fail
       go_quiet (fail)
       go_wp2_with fail
       go_region_held3 (fun w'=>w'.cell? ⟨q,p+4,none⟩=some (.slice A N c)∧w'.cell? ⟨q',p'+4,none⟩=some (.slice A' M c')) (go_keep)
        (first
         | (go_at_call 98;refine(HCA.out _ (by exact HCM.out)).mono ?_;rintro e w2 ⟨rfl,hc2,hg2⟩;have hgw:w.grownBy w2 (some cb):=⟨hg2.os,hg2.tape,hg2.output,hg2.size,hg2.block⟩;have k4:=tQ hgw c4 hqc;have k4':=tQ hgw c4' hqc';have HC2:=Lib.hid hc2;have HG2:=Lib.hid hgw;clear hc2 hg2 hgw)
         | (go_at_call 99;refine(HCE.out _ (by exact⟨HG2.out.os,HG2.out.tape,HG2.out.output,HG2.out.size,HG2.out.block⟩) (by exact HC2.out)).mono ?_;rintro e w3 ⟨rfl,hc3,hg3⟩;have hgw:w.grownBy w3 (some cb):=yT HG2.out ⟨hg3.os,hg3.tape,hg3.output,hg3.size,hg3.block⟩;have m4:=tQ hgw c4 hqc;have m4':=tQ hgw c4' hqc';have HC3:=Lib.hid hc3;have HG3:=Lib.hid hgw;clear hc3 hg3 hgw))
       go_wp2_with fail
       go_ret
       obtain⟨m3,hm3,hc3⟩:=HC3.out;exact mO (m:=1+m3) rfl (by have:=HSZ.out;omega) (by rw[←Nat.add_assoc];exact hc3) HG3.out
      ·obtain⟨e0,f0⟩:=xV d0
       obtain⟨e1,f1⟩:=xV d1;obtain⟨e2,f2⟩:=sN d2;obtain⟨e3,f3⟩:=iZ d3;have HE:Hid (ANS=false):=Lib.hid (yM HA.out fun e=>d3 (by rw[(Prod.mk.inj e).1]));clear d0 d1 d2 d3
       go_enter Tryz.func44,Tryz.ntmps44
       go_wp2_with fail
       go_quiet (fail)
       go_wp2_with fail
       go_ret
       exact mO (m:=0) HE.out (Nat.zero_le _) (HCM.out.drew _) (eP (jF _ _) _)
     ·obtain⟨e0,f0⟩:=xV d0
      obtain⟨e1,f1⟩:=xV d1;obtain⟨e2,f2⟩:=iZ d2;have HE:Hid (ANS=false):=Lib.hid (yM HA.out fun e=>d2 (by rw[(Prod.mk.inj e).1]));clear d0 d1 d2
      go_enter Tryz.func44,Tryz.ntmps44
      go_wp2_with fail
      go_quiet (fail)
      go_wp2_with fail
      go_ret
      exact mO (m:=0) HE.out (Nat.zero_le _) (HCM.out.drew _) (eP (jF _ _) _)
    ·obtain⟨e0,f0⟩:=xV d0
     obtain⟨e1,f1⟩:=zWp d1;have HE:Hid (ANS=false):=Lib.hid (yM HA.out fun e=>d1 (by rw[(Prod.mk.inj e).1]));clear d0 d1
     go_enter Tryz.func44,Tryz.ntmps44
     go_wp2_with fail
     go_quiet (fail)
     go_wp2_with fail
     go_ret
     exact mO (m:=0) HE.out (Nat.zero_le _) (HCM.out.drew _) (eP (jF _ _) _)
   ·obtain⟨e0,f0⟩:=zWp d0
    have HE:Hid (ANS=false):=Lib.hid (yM HA.out fun e=>d0 (by rw[(Prod.mk.inj e).1]));clear d0
    go_enter Tryz.func44,Tryz.ntmps44
    go_wp2_with fail
    go_quiet (fail)
    go_wp2_with fail
    go_ret
    exact mO (m:=0) HE.out (Nat.zero_le _) (HCM.out.drew _) (eP (jF _ _) _)
theorem zV2 (w:World) (a:Addr):(binOp .eql 24 (.pointer none) (.pointer (some a))).run Tryz.prog w = .ok (.bool false) w:=by
 have h:∀d:Nat,(Op.equalIn (d+1) 24 (.pointer none) (.pointer (some a))).run Tryz.prog w = .ok false w:=fun d=>by simp[Op.equalIn,run_underlying Tryz.underlying24]
 simp only[binOp]
 simp[Op.equal,Op.maxDepth,h 9999]
theorem zZa (w:World) (a:Addr):(binOp .eql 24 (.pointer (some a)) (.pointer none)).run Tryz.prog w = .ok (.bool false) w:=by
 have h:∀d:Nat,(Op.equalIn (d+1) 24 (.pointer (some a)) (.pointer none)).run Tryz.prog w = .ok false w:=fun d=>by simp[Op.equalIn,run_underlying Tryz.underlying24]
 simp only[binOp]
 simp[Op.equal,Op.maxDepth,h 9999]
def yUq (b:Bool) (w:World) (e:Ending) (w':World):Prop:=e = .returned (.bool b)∧Below w.heap.size w w'
theorem yUr (t u:Option Tr) (hno:t=none∨u=none) (cb:Nat) (w:World) (Sq Sq':Nat→Prop) (v v':Value) (hin:InO w Sq v t) (hin':InO w Sq' v' u) (b:Bool) (hb:b=true↔t=u) :
  Calls Tryz.prog 44 #[.pointer (some ⟨cb,0,none⟩),v,v'] w fun e w'=>e = .returned (.bool b)∧∃n,w'=w.drewN n:=by
 cases t with
 | none=>
  have hv:v = .pointer none:=hin;subst hv
  cases u with
  | none=>
   have hv:v' = .pointer none:=hin';subst hv;have HE:Hid (b=true):=Lib.hid (hb.2 rfl);clear hb hin hin' hno
   go_enter Tryz.func44,Tryz.ntmps44
   go_wp2_with fail
   go_ret
   exact vE HE.out ⟨0,rfl⟩
  | some u=>
   obtain⟨q,p,rfl⟩:=InT.ptr hin';have HE:Hid (b=false):=Lib.hid (yM hb (by simp));have heq:=zV2 w ⟨q,p,none⟩;clear hb hin hin' hno
   go_enter Tryz.func44,Tryz.ntmps44
   go_wp2_with fail
   go_quiet (fail)
   go_wp2_with fail
   go_ret
   exact vE HE.out ⟨_,rfl⟩
 | some t=>
  obtain rfl:u=none:=hno.resolve_left (by simp);have hv:v' = .pointer none:=hin';subst hv;obtain⟨q,p,rfl⟩:=InT.ptr hin;have HE:Hid (b=false):=Lib.hid (yM hb (by simp));have heq:=zZa w ⟨q,p,none⟩;clear hb hin hin' hno
  go_enter Tryz.func44,Tryz.ntmps44
  go_wp2_with fail
  go_quiet (fail)
  go_wp2_with fail
  go_ret
  exact vE HE.out ⟨_,rfl⟩
theorem yUs (t u:Option Tr) (w:World) (Sq Sq':Nat→Prop) (v v':Value) (hS:Bel Sq w.heap.size) (hS':Bel Sq' w.heap.size) (hin:InO w Sq v t) (hin':InO w Sq' v' u) (hsz:szO t≤65536) (b:Bool) (hb:b=true↔t=u) :
  Calls Tryz.prog 21 #[v,v'] w (yUq b w):=by
 obtain⟨H,hH⟩:∃H,w.heap.size=H:=⟨_,rfl⟩;have hbel:=(Below.refl w.heap.size w).alloc (Nat.le_refl _) (.cells #[.int .i64 0,.map none] 95);have key:Calls Tryz.prog 44 #[.pointer (some ⟨H,0,none⟩),v,v'] (w.alloc (.cells #[.int .i64 0,.map none] 95)) fun e w'=>e = .returned (.bool b)∧Below w.heap.size w w':=by
  by_cases hno:t=none∨u=none
  ·refine(yUr t u hno H _ Sq Sq' v v' (hin.below hS hbel) (hin'.below hS' hbel) b hb).mono ?_
   rintro e w' ⟨rfl,n,rfl⟩;exact⟨rfl,qD hbel n⟩
  ·cases t with
   | none=>exact absurd (.inl rfl) hno
   | some t=>
    cases u with
    | none=>exact absurd (.inr rfl) hno
    | some u=>
     have hs1:(w.alloc (.cells #[.int .i64 0,.map none] 95)).heap.size=H+1:=by simp;omega
     have hszt:szO (some t)=szT t:=rfl;refine(zYt 65536 (Nat.le_refl _) t u (by omega) _ Sq Sq' v v' H 0 (fun q h=>by have:=hS q h;omega) (fun q h=>by have:=hS' q h;omega) (fun h=>by have:=hS _ h;omega) (fun h=>by have:=hS' _ h;omega) (InT.below hin hS hbel) (InT.below hin' hS' hbel) (by rw[←hH];exact heap_alloc_new w _) (by omega) b (by rw[hb];simp)).mono ?_;rintro e w' ⟨rfl,-,hg⟩;exact⟨rfl,zO1 hbel hg (by omega) fun g h=>by injection h with h;omega⟩
 rw[←hH] at key;clear hin hin' hS hS' hbel hb hsz hH
 go_enter Tryz.func21,Tryz.ntmps21
 go_wp2_with fail;refine key.mono ?_;rintro e w1 ⟨rfl,hb1⟩;go_wp2_with fail
 go_ret
 exact⟨rfl,hb1⟩
theorem uSame (o o':Option Tr) {W w:World} {v v':Value} (h:HasT W v o) (h':HasT W v' o') (hz:szO o≤65536) (b:Bool) (hb:b=true↔o=o') (u:Up W w) :
  Calls Tryz.prog 21 #[v,v'] w (BoP b W):=
 (yUs o o' w _ _ v v' HasT.bel HasT.bel (h.up u) (h'.up u) hz b hb).mono fun _ _ k=>⟨k.1,u.of k.2⟩
def wS:List Tk→Nat
 | []=>0
 | a::r=>a.s.size+1+wS r
theorem bH:∀(a b:List Tk),wS (a++b)=wS a+wS b
 | [],b=>by show wS b=0+wS b;omega
 | x::a,b=>by show x.s.size+1+wS (a++b)=x.s.size+1+wS a+wS b;rw[bH a b];omega
theorem zEy (b:Bool) (ts:List Tk):wS (wi b ts)≤wS ts+4:=by
 cases b with
 | false=>show wS ts≤_;omega
 | true=>
  show wS (ky kOpen::(ts++[ky kShut]))≤_
  have e:wS (ky kOpen::(ts++[ky kShut]))=1+1+wS (ts++[ky kShut]):=rfl;rw[e,bH]
  show 1+1+(wS ts+(1+1+0))≤_
  omega
theorem zNp:∀(f:Fr),(∀(j:Nat) t,f.get j=some t→wS (tkT t)+2≤150*szT t)→wS (bars (segF f))≤150*f.sz
 | .nil,_=>Nat.zero_le _
 | .cons x k .nil,h=>by
  have h0:=h 0 (x,k) rfl;have hz:szT (x,k)=1+k.sz:=rfl
  show wS (tkT (x,k))≤150*(1+k.sz+0)
  omega
 | .cons x k (.cons y m q),h=>by
  have h0:=h 0 (x,k) rfl;have hz:szT (x,k)=1+k.sz:=rfl;have ih:=zNp (.cons y m q) fun j t hj=>h (j+1) t hj
  have e:bars (segF (.cons x k (.cons y m q)))=tkT (x,k)++ky kBar::bars (segF (.cons y m q)):=rfl;rw[e,bH]
  show wS (tkT (x,k))+(1+1+wS (bars (segF (.cons y m q))))≤150*(1+k.sz+(Fr.cons y m q).sz)
  omega
theorem yUt:∀(n:Nat) (t:Tr),szT t≤n→isT B.nck B.long t 1=true→wS (tkT t)≤150*szT t
 | 0,t,h,_=>absurd h (by unfold szT;omega)
 | n+1,t,h,ht=>by
  have ih:=yUt n
  cases wC ht with
  | leaf k hk=>rcases hk with rfl | rfl | rfl<;>decide
  | name s hs=>
   have h1:=mM s hs
   show s.size+1+0≤150*(1+0)
   omega
  | two k hk a b hA hB=>
   have hz:szT (nd k nob (fr2 a b))=1+(szT a+szT b):=by unfold szT;simp only[nd,fr2,fr1,Fr.sz];omega
   have iA:=ih a (by omega) hA;have iB:=ih b (by omega) hB
   rcases hk with rfl | rfl
   ·rw[fF,bH]
    have w1:=zEy (is5 a.1) (tkT a)
    show _+(2+1+wS (tkT b))≤_
    omega
   ·rw[fG,bH]
    have w1:=zEy (nG a.1) (tkT a);have w2:=zEy (is5 b.1) (tkT b)
    show _+(1+1+wS (wi (is5 b.1) (tkT b)))≤_
    omega
  | mu s hs c hc h0=>
   have hz:szT (nd 7 s c)=1+c.sz:=rfl;have h1:=fS s hs;have hb:=zNp c fun j t' hj=>by
    obtain⟨s',u,rfl,hs',hu⟩:=wR (gM hc.1 hj);have hg:=Fr.get_sz hj;have hz2:szT (nd 8 s' (fr1 u))=1+szT u:=by unfold szT;simp only[nd,fr1,Fr.sz];omega
    have iu:=ih u (by omega) hu;have h2:=fS s' hs';rw[fP]
    show s'.size+1+(2+1+wS (tkT u))+2≤_
    omega
   rw[lS]
   show 2+1+(s.size+1+(1+1+wS (bars (segF c)++[ky zY])))≤_
   rw[bH]
   show 2+1+(s.size+1+(1+1+(wS (bars (segF c))+(1+1+0))))≤_
   omega
structure TkOk (k:Tk):Prop where
 ex:∃t:B.Tok,t.k=k.k∧B.T t.x=k.s∧B.Made t∧B.okl t.x∧∀r∈t.x,B.rdb (r:Int)=true
theorem vW (x:List Nat) (hx:x∈B.TKEYS):TkOk (ky (B.T x)):=⟨⟨⟨3,x,0⟩,rfl,rfl,⟨x,_,B.zIz x hx⟩,B.xK (by revert x;decide),fun r hr=>by
 have h:∀x∈B.TKEYS,∀r∈x,33≤r∧r≤126:=by decide
 exact B.pH (h x hx r hr)⟩⟩
theorem zV3 {s:ByteArray} (h:B.long s=true):TkOk (nmT s):=by
 obtain⟨x,h1,h2,h3,h4⟩:=B.zU3 h;exact⟨⟨⟨1,x,0⟩,rfl,h1,⟨x,_,h3⟩,h2,h4⟩⟩
theorem uZ {s:ByteArray} (h:B.nck s=true):B.long s=true:=by
 have h1:=B.zB5 (l:=[s]) (by simp) (by simp[h]);rw[B.yW4] at h1;rw[h1];exact decide_eq_true (fS s h)
theorem okI:TkOk (ky kInt):=vW [105,110,116] (by decide)
theorem okBo:TkOk (ky kBool):=vW [98,111,111,108] (by decide)
theorem okU:TkOk (ky kUnit):=vW [117,110,105,116] (by decide)
theorem okOp:TkOk (ky kOpen):=vW [40] (by decide)
theorem okSh:TkOk (ky kShut):=vW [41] (by decide)
theorem okMu:TkOk (ky kMu):=vW [109,117] (by decide)
theorem okLe:TkOk (ky kLeft):=vW [123] (by decide)
theorem okRi:TkOk (ky zY):=vW [125] (by decide)
theorem okOf:TkOk (ky kOf):=vW [111,102] (by decide)
theorem okBa:TkOk (ky kBar):=vW [124] (by decide)
theorem okAr:TkOk (ky zI):=vW [45,62] (by decide)
theorem okSt:TkOk (ky kStar):=vW [42] (by decide)
theorem zEz {b:Bool} {ts:List Tk} (h:∀x∈ts,TkOk x):∀x∈wi b ts,TkOk x:=fun x hx=>by
 rcases zEw hx with h1 | rfl | rfl
 ·exact h x h1
 ·exact okOp
 ·exact okSh
theorem zNq:∀(f:Fr),(∀(j:Nat) t,f.get j=some t→∀x∈tkT t,TkOk x)→∀x∈bars (segF f),TkOk x
 | .nil,_,x,hx=>by cases hx
 | .cons y k .nil,h,x,hx=>h 0 (y,k) rfl x hx
 | .cons y k (.cons z m q),h,x,hx=>by
  have e:bars (segF (.cons y k (.cons z m q)))=tkT (y,k)++ky kBar::bars (segF (.cons z m q)):=rfl;rw[e] at hx
  rcases List.mem_append.1 hx with hx | hx
  ·exact h 0 (y,k) rfl x hx
  ·rcases List.mem_cons.1 hx with rfl | hx
   ·exact okBa
   ·exact zNq (.cons z m q) (fun j t hj=>h (j+1) t hj) x hx
theorem zD0:∀(n:Nat) (t:Tr),szT t≤n→isT B.nck B.long t 1=true→∀x∈tkT t,TkOk x
 | 0,t,h,_=>absurd h (by unfold szT;omega)
 | n+1,t,h,ht=>by
  have ih:=zD0 n
  cases wC ht with
  | leaf k hk=>
   rcases hk with rfl | rfl | rfl<;>intro x hx
   ·rw[List.mem_singleton.1 (show x∈[ky kInt] from hx)];exact okI
   ·rw[List.mem_singleton.1 (show x∈[ky kBool] from hx)];exact okBo
   ·rw[List.mem_singleton.1 (show x∈[ky kUnit] from hx)];exact okU
  | name s hs=>
   intro x hx;rw[List.mem_singleton.1 (show x∈[nmT s] from hx)];exact zV3 hs
  | two k hk a b hA hB=>
   have hz:szT (nd k nob (fr2 a b))=1+(szT a+szT b):=by unfold szT;simp only[nd,fr2,fr1,Fr.sz];omega
   have iA:=ih a (by omega) hA;have iB:=ih b (by omega) hB
   rcases hk with rfl | rfl
   ·rw[fF]
    intro x hx
    rcases List.mem_append.1 hx with hx | hx
    ·exact zEz iA x hx
    ·rcases List.mem_cons.1 hx with rfl | hx
     ·exact okAr
     ·exact iB x hx
   ·rw[fG]
    intro x hx
    rcases List.mem_append.1 hx with hx | hx
    ·exact zEz iA x hx
    ·rcases List.mem_cons.1 hx with rfl | hx
     ·exact okSt
     ·exact zEz iB x hx
  | mu s hs c hc h0=>
   have hz:szT (nd 7 s c)=1+c.sz:=rfl;have hb:=zNq c fun j t' hj=>by
    obtain⟨s',u,rfl,hs',hu⟩:=wR (gM hc.1 hj);have hg:=Fr.get_sz hj;have hz2:szT (nd 8 s' (fr1 u))=1+szT u:=by unfold szT;simp only[nd,fr1,Fr.sz];omega
    have iu:=ih u (by omega) hu;rw[fP];intro x hx
    rcases List.mem_cons.1 hx with rfl | hx
    ·exact zV3 (uZ hs')
    ·rcases List.mem_cons.1 hx with rfl | hx
     ·exact okOf
     ·exact iu x hx
   rw[lS];intro x hx
   rcases List.mem_cons.1 hx with rfl | hx
   ·exact okMu
   ·rcases List.mem_cons.1 hx with rfl | hx
    ·exact zV3 (uZ hs)
    ·rcases List.mem_cons.1 hx with rfl | hx
     ·exact okLe
     ·rcases List.mem_append.1 hx with hx | hx
      ·exact hb x hx
      ·rw[List.mem_singleton.1 hx];exact okRi
structure TeOk (k:Te):Prop where
 ex:∃t:B.Tok,t.k=k.t.k∧B.T t.x=k.t.s∧t.n=k.n∧B.Made t∧B.okl t.x∧∀r∈t.x,B.rdb (r:Int)=true
def EKEYS:List (List Nat):=[[102,110],[58],[61,62],[108,101,116],[61],[105,110],[101,110,100],[105,102],[116,104,101,110],[101,108,115,101],[99,97,115,101],[102,111,108,100],[116,111],[60],[43],[45],[116,114,117,101],[102,97,108,115,101],[44],[35,49],[35,50],[40],[41],[42],[124],[111,102]]
theorem zKt:∀x∈EKEYS,B.tokT x=some (⟨3,x,0⟩,x.length):=by decide
theorem zSb:∀x∈EKEYS,∀r∈x,33≤r∧r≤126:=by decide
theorem oke (x:List Nat) (hx:x∈EKEYS) {s:ByteArray} (hs:B.T x=s):TeOk (ke s):=⟨⟨⟨3,x,0⟩,rfl,hs,rfl,⟨x,_,zKt x hx⟩,B.xK fun r hr=>by have:=zSb x hx r hr;omega,fun r hr=>B.pH (zSb x hx r hr)⟩⟩
theorem yUu:TeOk (ke kFn):=oke [102,110] (by decide) rfl
theorem zKu:TeOk (ke zW):=oke [58] (by decide) rfl
theorem zNr:TeOk (ke kFat):=oke [61,62] (by decide) rfl
theorem yZo:TeOk (ke kLet):=oke [108,101,116] (by decide) rfl
theorem zD1:TeOk (ke kEq):=oke [61] (by decide) rfl
theorem yUv:TeOk (ke kIn):=oke [105,110] (by decide) rfl
theorem zV4:TeOk (ke kEnd):=oke [101,110,100] (by decide) rfl
theorem yUw:TeOk (ke kIf):=oke [105,102] (by decide) rfl
theorem zD2:TeOk (ke kThen):=oke [116,104,101,110] (by decide) rfl
theorem zD3:TeOk (ke kElse):=oke [101,108,115,101] (by decide) rfl
theorem zD4:TeOk (ke kCase):=oke [99,97,115,101] (by decide) rfl
theorem zD5:TeOk (ke kFold):=oke [102,111,108,100] (by decide) rfl
theorem yUx:TeOk (ke kTo):=oke [116,111] (by decide) rfl
theorem zD6:TeOk (ke kLess):=oke [60] (by decide) rfl
theorem zD7:TeOk (ke kPlus):=oke [43] (by decide) rfl
theorem zKv:TeOk (ke vU):=oke [45] (by decide) rfl
theorem zD8:TeOk (ke kTrue):=oke [116,114,117,101] (by decide) rfl
theorem zKw:TeOk (ke yH):=oke [102,97,108,115,101] (by decide) rfl
theorem zKx:TeOk (ke zN):=oke [44] (by decide) rfl
theorem yZp:TeOk (ke kOne):=oke [35,49] (by decide) rfl
theorem yZq:TeOk (ke kTwo):=oke [35,50] (by decide) rfl
theorem rD:TeOk (ke kOpen):=oke [40] (by decide) rfl
theorem rG:TeOk (ke kShut):=oke [41] (by decide) rfl
theorem zD9:TeOk (ke kStar):=oke [42] (by decide) rfl
theorem yZr:TeOk (ke kBar):=oke [124] (by decide) rfl
theorem zDa:TeOk (ke kOf):=oke [111,102] (by decide) rfl
theorem yZs (k:Int):TeOk (ke (signB k)):=by
 unfold signB
 repeat' split
 ·exact zD7
 ·exact zKv
 ·exact zD9
 ·exact zD1
 ·exact zD6
theorem zSc {s:ByteArray} (h:B.long s=true):TeOk (ne s):=by
 obtain⟨x,h1,h2,h3,h4⟩:=B.zU3 h;exact⟨⟨⟨1,x,0⟩,rfl,h1,rfl,⟨x,_,h3⟩,h2,h4⟩⟩
theorem rH {s:ByteArray} (h:B.nck s=true):TeOk (ne s):=zSc (uZ h)
theorem zNs {l:List Nat} {r:Nat} {t:List Nat} (e:l=r::t) (h:B.dig r=true∨r=126):B.tokT l=B.numT l:=by
 subst e;have hc:¬B.cls r=1:=by
  rcases h with h | h
  ·have:=(B.mV r).1 h
   unfold B.cls;omega
  ·subst h
   decide
 have h2:B.cls r=2∨r=126:=by
  rcases h with h | h
  ·have:=(B.mV r).1 h
   left
   unfold B.cls;omega
  ·exact .inr h
 show(if B.cls r=1 then B.nameT (r::t) else if B.cls r=2∨r=126 then B.numT (r::t) else if B.opens (r::t) then none else B.signT (r::t))=_
 rw[if_neg hc,if_pos h2]
theorem yZt (n:Int) (h1 : -1073741824≤n) (h2:n≤1073741824):TeOk ⟨⟨2,qE n⟩,n⟩:=by
 have ho:=B.zU0 n ⟨h1,h2⟩ (y:=[]) (.inl rfl);rw[List.append_nil] at ho;refine⟨⟨⟨2,B.numb n,n⟩,rfl,rfl,rfl,⟨B.numb n,(B.numb n).length,?_⟩,B.xK fun r hr=>by have:=B.sL n r hr;omega,fun r hr=>B.pH (B.sL n r hr)⟩⟩;rw[←ho]
 by_cases hn:n<0
 ·have e1:B.numb n=126::B.dgs n.natAbs:=by unfold B.numb;rw[if_pos hn]
  exact zNs e1 (.inr rfl)
 ·have e1:B.numb n=B.dgs n.toNat:=by unfold B.numb;rw[if_neg hn]
  cases hd:B.dgs n.toNat with
  | nil=>exact absurd hd (B.zXp _)
  | cons r t=>
   exact zNs (by rw[e1,hd]) (.inl ((B.mV r).2 (B.jE _ r (by rw[hd];exact List.mem_cons_self ..))))
theorem zZ0 {b:Bool} {ts:List Te} (h:∀x∈ts,TeOk x):∀x∈wie b ts,TeOk x:=fun x hx=>by
 cases b with
 | false=>exact h x hx
 | true=>
  rcases List.mem_cons.1 hx with rfl | hx
  ·exact rD
  ·rcases List.mem_append.1 hx with hx | hx
   ·exact h x hx
   ·rw[List.mem_singleton.1 hx];exact rG
theorem qU {a:Te} {ts:List Te} (ha:TeOk a) (h:∀x∈ts,TeOk x):∀x∈a::ts,TeOk x:=fun x hx=>by
 rcases List.mem_cons.1 hx with rfl | hx
 ·exact ha
 ·exact h x hx
theorem xD {a b:List Te} (ha:∀x∈a,TeOk x) (hb:∀x∈b,TeOk x):∀x∈a++b,TeOk x:=fun x hx=>by
 rcases List.mem_append.1 hx with hx | hx
 ·exact ha x hx
 ·exact hb x hx
theorem nU:∀x∈([]:List Te),TeOk x:=fun x hx=>by cases hx
theorem yUy {d:List Nat} {u:B.Tok} {m:Nat} (h:B.tokT d=some (u,m)) (hk:¬u.k=2):u.n=0:=by
 cases d with
 | nil=>cases h
 | cons r t=>
  have h:(if B.cls r=1 then B.nameT (r::t) else if B.cls r=2∨r=126 then B.numT (r::t) else if B.opens (r::t) then none else B.signT (r::t))=some (u,m):=h
  split at h
  ·unfold B.nameT at h
   repeat' split at h
   all_goals first
    | (cases h;done)
    | (injection h with h;injection h with h _;subst h;rfl)
  ·split at h
   ·exfalso
    have hd:∀(b:Bool) (x:List Nat),B.digT b x=some (u,m)→u.k=2:=fun b x hx=>by
     unfold B.digT at hx
     repeat' split at hx
     all_goals first
      | (cases hx;done)
      | (injection hx with hx;injection hx with hx _;subst hx;rfl)
    unfold B.numT at h
    split at h
    ·exact hk (hd _ _ h)
    ·exact hk (hd _ _ h)
   ·split at h
    ·cases h
    ·unfold B.signT at h
     obtain⟨x,_,hx⟩:=Option.map_eq_some_iff.1 h;injection hx with hx _;subst hx
     rfl
theorem zZ1:∀(f:Fr),(∀(j:Nat) t,f.get j=some t→∀x∈tkT t,¬x.k=2)→∀x∈bars (segF f),¬x.k=2
 | .nil,_,x,hx=>by cases hx
 | .cons y k .nil,h,x,hx=>h 0 (y,k) rfl x hx
 | .cons y k (.cons z m q),h,x,hx=>by
  have e:bars (segF (.cons y k (.cons z m q)))=tkT (y,k)++ky kBar::bars (segF (.cons z m q)):=rfl;rw[e] at hx
  rcases List.mem_append.1 hx with hx | hx
  ·exact h 0 (y,k) rfl x hx
  ·rcases List.mem_cons.1 hx with rfl | hx
   ·show ¬(3:Int)=2;decide
   ·exact zZ1 (.cons z m q) (fun j t hj=>h (j+1) t hj) x hx
theorem zZ2 (s:ByteArray):¬(ky s).k=2:=by show ¬(3:Int)=2;decide
theorem yUz (s:ByteArray):¬(nmT s).k=2:=by show ¬(1:Int)=2;decide
theorem yT0 {b:Bool} {ts:List Tk} (h:∀x∈ts,¬x.k=2):∀x∈wi b ts,¬x.k=2:=fun x hx=>by
 rcases zEw hx with h1 | rfl | rfl
 ·exact h x h1
 ·exact zZ2 _
 ·exact zZ2 _
theorem zSd:∀(n:Nat) (t:Tr),szT t≤n→isT B.nck B.long t 1=true→∀x∈tkT t,¬x.k=2
 | 0,t,h,_=>absurd h (by unfold szT;omega)
 | n+1,t,h,ht=>by
  have ih:=zSd n
  cases wC ht with
  | leaf k hk=>
   rcases hk with rfl | rfl | rfl<;>intro x hx
   ·rw[List.mem_singleton.1 (show x∈[ky kInt] from hx)];exact zZ2 _
   ·rw[List.mem_singleton.1 (show x∈[ky kBool] from hx)];exact zZ2 _
   ·rw[List.mem_singleton.1 (show x∈[ky kUnit] from hx)];exact zZ2 _
  | name s hs=>
   intro x hx;rw[List.mem_singleton.1 (show x∈[nmT s] from hx)];exact yUz _
  | two k hk a b hA hB=>
   have hz:szT (nd k nob (fr2 a b))=1+(szT a+szT b):=by unfold szT;simp only[nd,fr2,fr1,Fr.sz];omega
   have iA:=ih a (by omega) hA;have iB:=ih b (by omega) hB
   rcases hk with rfl | rfl
   ·rw[fF]
    intro x hx
    rcases List.mem_append.1 hx with hx | hx
    ·exact yT0 iA x hx
    ·rcases List.mem_cons.1 hx with rfl | hx
     ·exact zZ2 _
     ·exact iB x hx
   ·rw[fG]
    intro x hx
    rcases List.mem_append.1 hx with hx | hx
    ·exact yT0 iA x hx
    ·rcases List.mem_cons.1 hx with rfl | hx
     ·exact zZ2 _
     ·exact yT0 iB x hx
  | mu s hs c hc h0=>
   have hz:szT (nd 7 s c)=1+c.sz:=rfl;have hb:=zZ1 c fun j t' hj=>by
    obtain⟨s',u,rfl,hs',hu⟩:=wR (gM hc.1 hj);have hg:=Fr.get_sz hj;have hz2:szT (nd 8 s' (fr1 u))=1+szT u:=by unfold szT;simp only[nd,fr1,Fr.sz];omega
    have iu:=ih u (by omega) hu;rw[fP];intro x hx
    rcases List.mem_cons.1 hx with rfl | hx
    ·exact yUz _
    ·rcases List.mem_cons.1 hx with rfl | hx
     ·exact zZ2 _
     ·exact iu x hx
   rw[lS];intro x hx
   rcases List.mem_cons.1 hx with rfl | hx
   ·exact zZ2 _
   ·rcases List.mem_cons.1 hx with rfl | hx
    ·exact yUz _
    ·rcases List.mem_cons.1 hx with rfl | hx
     ·exact zZ2 _
     ·rcases List.mem_append.1 hx with hx | hx
      ·exact hb x hx
      ·rw[List.mem_singleton.1 hx];exact zZ2 _
theorem yX8 {t:Tr} (h:isT B.nck B.long t 1=true):∀x∈tyE (tkT t),TeOk x:=fun x hx=>by
 obtain⟨k,hk,rfl⟩:=List.mem_map.1 hx;obtain⟨u,e1,e2,⟨d,m,hd⟩,e4,e5⟩:=(zD0 _ t (Nat.le_refl _) h k hk).ex;have hn:u.n=0:=yUy hd (by rw[e1];exact zSd _ t (Nat.le_refl _) h k hk);exact⟨⟨u,e1,e2,hn,⟨d,m,hd⟩,e4,e5⟩⟩
theorem zV5:∀(f:Fr),ArmOk B.nck B.long f→(∀t,szT t<f.sz→isT B.nck B.long t 2=true→∀x∈tkE qE t,TeOk x)→∀x∈barsE (yZ qE f),TeOk x
 | .nil,_,_,x,hx=>by cases hx
 | .cons y k r,hok,ih,x,hx=>by
  obtain⟨h9,hr⟩:=zQb hok;obtain⟨c,z,b,hxb,hc,hz,hb⟩:=vR h9;injection hxb with e1 e2;subst e1;subst e2;have hzz:(Fr.cons ⟨34,0,c,z⟩ (fr1 b) r).sz=1+szT b+r.sz:=by unfold szT;simp only[fr1,Fr.sz];omega
  have fu:=ih b (by omega) hb;have es:yZ qE (.cons ⟨34,0,c,z⟩ (fr1 b) r)=(ne c::ne z::ke kFat::tkE qE b)::yZ qE r:=by unfold yZ;rw[dY hb];rfl
  have f1:=qU (rH hc) (qU (rH hz) (qU zNr fu));rw[es] at hx
  cases r with
  | nil=>exact f1 x hx
  | cons y2 m q=>
   have f2:=zV5 (.cons y2 m q) hr (fun t ht=>ih t (by omega));exact xD f1 (qU yZr f2) x hx
theorem zNt:∀(n:Nat) (t:Tr),szT t≤n→isT B.nck B.long t 2=true→∀x∈tkE qE t,TeOk x
 | 0,t,h,_=>absurd h (by unfold szT;omega)
 | n+1,t,h,ht=>by
  have ih:=zNt n
  cases wZ ht with
  | num k h1 h2=>rw[zW1];exact qU (yZt k h1 h2) nU
  | boo k hk=>
   rw[oI];refine qU ?_ nU
   split
   ·exact zD8
   ·exact zKw
  | unit=>rw[eD];exact qU rD (qU rG nU)
  | var s hs=>rw[zW2];exact qU (zSc hs) nU
  | lam s hs a b hA hB=>
   have hz:szT (nd 24 s (fr2 a b))=1+(szT a+szT b):=zQ _ a b;rw[oJ hA hB];exact qU yUu (qU rD (qU (rH hs) (qU zKu (xD (yX8 hA) (qU rG (qU zNr (ih b (by omega) hB)))))))
  | app a b hA hB=>
   have hz:szT (nd 25 nob (fr2 a b))=1+(szT a+szT b):=zQ _ a b;rw[oK hA hB];exact xD (zZ0 (ih a (by omega) hA)) (zZ0 (ih b (by omega) hB))
  | pair a b hA hB=>
   have hz:szT (nd 26 nob (fr2 a b))=1+(szT a+szT b):=zQ _ a b;rw[tX hA hB];exact qU rD (xD (ih a (by omega) hA) (qU zKx (xD (ih b (by omega) hB) (qU rG nU))))
  | sel k hk a hA=>
   have hz:szT (nd k nob (fr1 a))=1+szT a:=mE _ a;rw[oL hk hA];refine qU ?_ (zZ0 (ih a (by omega) hA))
   rcases hk with rfl | rfl
   ·exact yZp
   ·exact yZq
  | letE s hs a b hA hB=>
   have hz:szT (nd 29 s (fr2 a b))=1+(szT a+szT b):=zQ _ a b;rw[oM hA hB];exact qU yZo (qU (rH hs) (qU zD1 (xD (ih a (by omega) hA) (qU yUv (xD (ih b (by omega) hB) (qU zV4 nU))))))
  | ifE a b c hA hB hC=>
   have hz:szT (nd 30 nob (fr3 a b c))=1+(szT a+szT b+szT c):=dG _ a b c;rw[zUh hA hB hC];exact qU yUw (xD (ih a (by omega) hA) (qU zD2 (xD (ih b (by omega) hB) (qU zD3 (ih c (by omega) hC)))))
  | op k h1 h2 a b hA hB=>
   have hz:szT (opN k,fr2 a b)=1+(szT a+szT b):=zQ _ a b;rw[zUi hA hB];exact xD (zZ0 (ih a (by omega) hA)) (qU (yZs k) (zZ0 (ih b (by omega) hB)))
  | caseE a hA k hk h0=>
   have hz:szT (nd 32 nob (.cons a.1 a.2 k))=1+(szT a+k.sz):=rfl;rw[tY hA];exact qU zD4 (xD (ih a (by omega) hA) (qU zDa (xD (zV5 k hk fun t ht h=>ih t (by omega) h) (qU zV4 nU))))
  | foldE a t hA hT k hk h0=>
   have hz:szT (nd 33 nob (.cons a.1 a.2 (.cons t.1 t.2 k)))=1+(szT a+(szT t+k.sz)):=rfl;rw[tZ hA hT];exact qU zD5 (xD (ih a (by omega) hA) (qU yUx (xD (yX8 hT) (qU zDa (xD (zV5 k hk fun t ht h=>ih t (by omega) h) (qU zV4 nU))))))
theorem zSe:∀(ts:List Te),(∀x∈ts,TeOk x)→∃us:List B.Tok,us.map (fun u=>(⟨⟨u.k,B.T u.x⟩,u.n⟩:Te))=ts∧(∀u∈us,B.Made u)∧(∀u∈us,B.okl u.x∧∀r∈u.x,B.rdb (r:Int)=true)
 | [],_=>⟨[],rfl,(fun u h=>by cases h),(fun u h=>by cases h)⟩
 | k::ts,h=>by
  obtain⟨us,h1,h2,h3⟩:=zSe ts fun x hx=>h x (List.mem_cons_of_mem _ hx)
  obtain⟨u,e1,e2,e0,e3,e4,e5⟩:=(h k (List.mem_cons_self ..)).ex;refine⟨u::us,?_,?_,?_⟩
  ·rw[List.map_cons,h1,e1,e2,e0]
  ·intro x hx
   rcases List.mem_cons.1 hx with rfl | hx
   ·exact e3
   ·exact h2 x hx
  ·intro x hx
   rcases List.mem_cons.1 hx with rfl | hx
   ·exact⟨e4,e5⟩
   ·exact h3 x hx
theorem zKy {ts:List Te} (h:∀x∈ts,TeOk x) (hz:(tB (tks ts)).size≤16384):∃r,B.lexR (tB (tks ts))=(r,0,0)∧r.map teq=ts:=by
 obtain⟨us,h1,h2,h3⟩:=zSe ts h;obtain⟨r,h4,h5⟩:=B.zIu us 0 h2;have hT:tB (tks ts)=B.T (B.jnL (us.map (·.x))):=by
  unfold tB B.T;rw[B.zIv,←nK,←h1];have e:(txt (tks (us.map fun u=>(⟨⟨u.k,B.T u.x⟩,u.n⟩:Te)))).map (fun x=>x.data.toList)=(us.map (·.x)).map B.enc:=by
   simp[txt,tks,B.yX]
  rw[e]
 have hok:∀r∈B.jnL (us.map (·.x)),B.ok r∧B.rdb (r:Int)=true:=by
  intro r hr
  rcases B.zIw _ r hr with rfl | ⟨x,hx,hrx⟩
  ·exact⟨B.xK (l:=[32]) (by decide) 32 (by simp),by decide⟩
  ·obtain⟨u,hu,rfl⟩:=List.mem_map.1 hx
   exact⟨(h3 u hu).1 r hrx,(h3 u hu).2 r hrx⟩
 have hs:B.sz (B.jnL (us.map (·.x)))≤16384:=by
  rw[←B.qO,←hT];exact hz
 refine⟨r,?_,?_⟩
 ·rw[hT,B.yW6 (fun r hr=>(hok r hr).1) (fun r hr=>(hok r hr).2) hs,h4]
 ·have e:r.map teq=(r.map (·.1)).map fun u=>(⟨⟨u.k,B.T u.x⟩,u.n⟩:Te):=by rw[List.map_map];rfl
  rw[e,h5,h1]
theorem zKz {s:ByteArray} (h:16384<s.size):B.lexR s=([],0,3):=by
 have e:B.ckr s=(0,3):=by unfold B.ckr;rw[if_pos h]
 unfold B.lexR;rw[e]
 rfl
theorem zXl:(Tryz.prog.info? 53).map (fun i=>(i.zero,i.size,i.bytes))=some (some (.agg #[.int .i64 0,.string ⟨#[]⟩,.int .i64 0,.int .i64 0]),4,40):=by kernel_rfl
theorem yT1:nob.toList=[]:=by rw[Lib.toList_data];rfl
theorem zDb (P:PxAll) (cs:List Cel) (w:World) (cv:Value) (hx:Vx7 w) (hcl:Cls w w.heap.size cv cs) (hfit:∀c∈cs,fitC c) :
  Calls Tryz.prog 6 #[.agg #[cv]] w (BoP true w):=by
 obtain⟨H,hH⟩:∃H,w.heap.size=H:=⟨_,rfl⟩;obtain⟨CA,cc,hcv,-,-⟩:=id hcl;have u0:Up w (w.alloc (.cells #[cv] 38)):=(Up.refl w).alloc _;obtain⟨W0,hW0⟩:∃W0,w.alloc (.cells #[cv] 38)=W0:=⟨_,rfl⟩;have hx0:W0.heap[H]? = some (.cells #[cv] 38 (0,0)):=by rw[←hW0,←hH];exact heap_alloc_new w _
 rw[hW0] at u0;have hcl0:=hcl.upp u0;have kc:W0.cell? ⟨H,0,none⟩=some cv:=cell_of_row _ H 0 _ _ _ hx0;obtain⟨o,z,ho,hs,hk,h2⟩:=zEf cs;have H2:=Lib.hid h2;have HW0:=Lib.hid hW0;have U0:=Lib.hid u0;have HCL:=Lib.hid hcl0;have HF:=Lib.hid hfit;have HO:=Lib.hid ho;have HS:=Lib.hid hs;have HK:=Lib.hid hk;have HX:=Lib.hid hx;have hnob:=yT1;clear hcl u0 hW0 hcl0 hfit ho hs hk hx0 hx h2;subst hcv
 go_enter Tryz.func6,Tryz.ntmps6
 go_wp2_with fail;rw[HW0.out];refine(zNi cs HCL.out HF.out (Up.refl _)).mono ?_;rintro e w1 ⟨v1,rfl,h1,u1⟩;have H1:=Lib.hid h1;have U1:=Lib.hid (U0.out.trans u1);clear h1 u1 kc;go_wp2_with fail;refine(uOpen (fewL cs) H1.out (zS7 cs) (zEg cs) (Up.refl _)).mono ?_;rw[HO.out];rintro e w2 ⟨n,rfl,h2,u2⟩;have HN:=Lib.hid h2;have U2:=Lib.hid (U1.out.trans u2);clear h2 u2;go_wp2_with fail;refine(P.write o (by have:=HS.out;omega) HK.out w2 w2 n (HX.out.up U2.out) HN.out (Up.refl _)).mono ?_;unfold dT
 rcases H2.out with ⟨t,rfl,rfl⟩ | ⟨rfl,hz⟩
 ·by_cases hc:chk B.nck B.long (some t) 2=0
  ·obtain⟨t',ht',h1,h2,h3⟩:=zQq hc
   have ht':=Option.some.inj ht';subst ht';rw[hc,if_pos rfl];have hw:zLb (some t)=txE qE t:=rfl;rw[hw];have hs80:szT t≤80:=HS.out;have hok:=zNt _ t (Nat.le_refl _) h3;have hft:=lW oO lD wU _ t (Nat.le_refl _) h3;have hzz:(txE qE t).size≤1000000000:=by have:=zQc oO lD wU h3;omega
   have hfl:(tkE qE t).length≤800:=by have h:=hft.1;rw[yV] at h;omega
   have hfs:∀x∈tkE qE t,x.t.s.size≤1000000000:=fun x hx=>by have:=hft.2 x.t (List.mem_map.2 ⟨x,hx,rfl⟩);omega
   have HFL:=Lib.hid hfl;have HFS:=Lib.hid hfs
   by_cases hlong:(txE qE t).size≤16384
   ·obtain⟨r,hr,hrm⟩:=zKy hok hlong
    have hbk:=zKp (nk:=B.nck) (lg:=B.long) (nb:=qE) h3 (n:=2*(tkE qE t).length+2) (Nat.le_refl _);have htz:expZ B.nck B.long (tkE qE t) (2*(tkE qE t).length+2) 0 = .inl (t,(tkE qE t).length):=by
     unfold expZ;rw[if_neg (by omega)];exact hbk
    have hxe:txE qE t=tB (tks (tkE qE t)):=rfl;rw[←hxe] at hr;obtain⟨X,hX⟩:∃X,txE qE t=X:=⟨_,rfl⟩;rw[hX] at hr hzz ⊢;have HR:=Lib.hid hr;have HRM:=Lib.hid hrm;have HTZ:=Lib.hid htz;clear hc h1 h2 h3 hw hok hr hrm hbk htz hX hft hfl hfs hxe hlong;rintro e w3 ⟨rfl,u3⟩;have cL:=B.aR X hzz w3 (HX.out.up (U2.out.trans u3)).lx;rw[HR.out] at cL;have U3:=Lib.hid (U2.out.trans u3);have HN3:=Lib.hid (HN.out.up u3);clear u3;go_wp2_with fail;refine Calls.mono cL ?_;rintro e w4 ⟨v,rfl,ht,hb4⟩;have hv4:Up w3 w4:=hb4;have ht:=uE ht;rw[HRM.out] at ht;have cT:=P.expr (tkE qE t) 0 (by have:=HFL.out;omega) HFS.out _ (Nat.le_refl _) w4 v (HX.out.up (U3.out.trans hv4)) ht;rw[HTZ.out] at cT;obtain⟨A,c,rfl,-⟩:=ht;obtain⟨len,hlen⟩:∃len,(tkE qE t).length=len:=⟨_,rfl⟩;rw[hlen] at cT ⊢;have U4:=Lib.hid (U3.out.trans hv4);have HN4:=Lib.hid (HN3.out.up hv4);clear hb4 hv4 hlen cL;go_wp2_with fail;refine cT.mono ?_;rintro e w5 ⟨v5,j5,e5,rfl,⟨n5,rfl,rfl⟩,u5⟩;have cS:=uSame (some t) (some t) (HN4.out.up u5) n5.has (by show szT t≤65536;omega) true (by simp) (Up.refl _);have U5:=Lib.hid (U4.out.trans u5);clear n5 u5 cT;go_wp2_with fail;refine cS.mono ?_;rintro e w6 ⟨rfl,u6⟩;have cW:=uW P HX.out (U5.out.trans u6);clear u6 cS;go_wp2_with fail;refine cW.mono ?_;rintro e w7 ⟨rfl,u7⟩;go_wp2_with fail
    go_ret
    exact qZ rfl u7
   ·have hr:=zKz (s:=txE qE t) (by omega)
    obtain⟨X,hX⟩:∃X,txE qE t=X:=⟨_,rfl⟩;rw[hX] at hr hzz ⊢;have HR:=Lib.hid hr;clear hc h1 h2 h3 hw hok hr hX hft hfl hfs hlong;rintro e w3 ⟨rfl,u3⟩;have cL:=B.aR X hzz w3 (HX.out.up (U2.out.trans u3)).lx;rw[HR.out] at cL;have U3:=Lib.hid (U2.out.trans u3);clear u3;go_wp2_with fail;refine Calls.mono cL ?_;rintro e w4 ⟨v,rfl,ht,hb4⟩;have hv4:Up w3 w4:=hb4;have cW:=uW P HX.out (U3.out.trans hv4);clear ht hb4 hv4 cL;go_wp2_with fail;refine cW.mono ?_;rintro e w7 ⟨rfl,u7⟩;go_wp2_with fail
    go_ret
    exact qZ rfl u7
  ·rw[if_neg hc]
   have hc9:(chk B.nck B.long (some t) 2 != 0)=true:=by rw[bne_iff_ne];exact hc
   obtain⟨Z,hZ⟩:∃Z,chk B.nck B.long (some t) 2=Z:=⟨_,rfl⟩;rw[hZ] at hc9 ⊢;clear hZ hc;rintro e w3 ⟨rfl,u3⟩;have cW:=uW P HX.out (U2.out.trans u3);clear u3;go_wp2_with fail;refine cW.mono ?_;rintro e w4 ⟨rfl,u4⟩;go_wp2_with fail
   go_ret
   exact qZ rfl u4
 ·have hz1:(z != 0)=true:=by rw[bne_iff_ne];exact hz
  have h1:chk B.nck B.long none 2=1:=rfl;rw[h1,if_neg (by decide)];clear hz;rintro e w3 ⟨rfl,u3⟩;have cW:=uW P HX.out (U2.out.trans u3);clear u3;go_wp2_with fail;refine cW.mono ?_;rintro e w4 ⟨rfl,u4⟩;go_wp2_with fail
  go_ret
  exact qZ rfl u4
end Go.Proofs.YtbpijnalmakfaaaGreatDoor
