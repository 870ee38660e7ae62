/-
  Trees in memory: what lies there reads as a tree.
-/
import Derived.Test.YtnjgnbofcbhngaaGreatDoorGs06
import Derived.Test.YtnjgnbofcbhngaaGreatDoorGs30
set_option maxHeartbeats 40000000
set_option maxRecDepth 100000
namespace Go.Proofs.YtnjgnbofcbhngaaGreatDoor
open Go.RowKit
theorem InO.below {w w':World} {S:Nat→Prop} {B:Nat} {v:Value} {t:Option Tr} (h:InO w S v t) (hS:Bel S B) (hb:Below B w w'):InO w' S v t:=h.keep (fun _ h=>h) fun _ hp=>hb.block _ (hS _ hp)
theorem InT.pln {w:World} {S:Nat→Prop} {q p:Nat} {t:Tr} (h:InT w S (.pointer (some ⟨q,p,none⟩)) t):Pln w q:=by
 obtain⟨q',p',A,c,hv,_,hp,_⟩:=h;injection hv with hv;injection hv with hv;injection hv with hv;rw[hv];exact hp
theorem ba_eq {s t:ByteArray} (h:s.data.toList=t.data.toList):s=t:=by
 apply ByteArray.ext
 exact Array.ext' h
theorem zZw {x y:ByteArray} (h:x=y):(x.toList==y.toList)=true∧(x.toList != y.toList)=false:=by subst h;simp
theorem zQm {x y:ByteArray} (h:x≠y):(x.toList==y.toList)=false∧(x.toList != y.toList)=true:=by
 have:(x.toList==y.toList)=false:=by
  rw[beq_eq_false_iff_ne];intro e;rw[Lib.toList_data,Lib.toList_data] at e;exact h (ba_eq e)
 exact⟨this,by unfold bne;rw[this];rfl⟩
theorem fD {x y:Int} (h:x=y):(x==y)=true∧(x != y)=false:=by subst h;simp
theorem zQn {x y:Int} (h:x≠y):(x==y)=false∧(x != y)=true:=by simp[h]
def zJn (b:Bool) (w:World) (e:Ending) (w':World):Prop:=e = .returned (.bool b)∧∃q,w'=w.drewN q
theorem zZx {a b:Bool} {w w':World} (h:b=a) (hw:∃q,w'=w.drewN q):zJn b w (.returned (.bool a)) w':=⟨by rw[h],hw⟩
theorem jZ {b:Bool} {P:Prop} (h:b=true↔P) (hn:¬P):b=false:=by cases b;rfl;exact absurd (h.1 rfl) hn
theorem zQo {b:Bool} {P:Prop} (h:b=true↔P) (hp:P):b=true:=h.2 hp
theorem Fr.app_inj (a:Fr) {b c:Fr} (h:a.app b=a.app c):b=c:=by
 induction a with
 | nil=>exact h
 | cons x k r _ ih=>simp only[Fr.app,Fr.cons.injEq] at h;exact ih h.2.2
theorem zXv {x y:Nod} (h1:x.k=y.k) (h2:x.n=y.n) (h3:x.a=y.a) (h4:x.m=y.m):x=y:=by
 cases x;cases y;simp only at h1 h2 h3 h4;subst h1 h2 h3 h4;rfl
theorem pM {a b:World} {r:Option Nat} (h:a.grownBy b r) (n:Nat):a.grownBy (b.drewN n) r:=kV h ⟨rfl,rfl,rfl,Nat.le_refl _,fun _ _ _=>rfl⟩
theorem zXw {w:World} {S S':Nat→Prop} {v:Value} {x y:Nod} {ks ls:Fr} (hU:∀{b o:Nat},ks.len=ls.len→InF w S ks b o→InF w S' ls b o→ks=ls)
  (h:Nd w S v x ks.len (InF w S ks)) (h':Nd w S' v y ls.len (InF w S' ls)):x=y∧ks=ls:=by
 obtain⟨q,p,A,c,e,_,_,h0,h1,h2,h3,h4,_,hk⟩:=h;obtain⟨q',p',A',c',e',_,_,h0',h1',h2',h3',h4',_,hk'⟩:=h';subst e;injection e' with e';injection e' with e';injection e' with e1 e2;subst e1 e2;have k0:x.k=y.k:=by rw[h0] at h0';injection h0' with h;injection h
 have k1:x.n=y.n:=by rw[h1] at h1';injection h1' with h;injection h
 have k2:x.a=y.a:=by rw[h2] at h2';injection h2' with h;injection h
 have k3:x.m=y.m:=by rw[h3] at h3';injection h3' with h;injection h
 rw[h4] at h4';injection h4' with h4';injection h4' with hA hl _;subst hA;refine⟨zXv k0 k1 k2 k3,?_⟩
 rcases Nat.eq_zero_or_pos ks.len with hz | hp
 ·cases ks with
  | nil=>cases ls with
   | nil=>rfl
   | cons _ _ _=>simp[Fr.len] at hl
  | cons _ _ _=>simp[Fr.len] at hz
 ·obtain⟨kb,ko,hA1,_,hkk⟩:=hk hp
  obtain⟨kb',ko',hA2,_,hkk'⟩:=hk' (by omega);rw[hA1] at hA2;injection hA2 with hA2;injection hA2 with e1 e2;subst e1 e2;exact hU hl hkk hkk'
theorem InF.uniq {w:World} {S S':Nat→Prop}:∀{f g:Fr} {b o:Nat},f.len=g.len→InF w S f b o→InF w S' g b o→f=g
 | .nil,.nil,_,_,_,_,_=>rfl
 | .nil,.cons _ _ _,_,_,h,_,_=>by simp[Fr.len] at h
 | .cons _ _ _,.nil,_,_,h,_,_=>by simp[Fr.len] at h
 | .cons x ks rs,.cons y ls ss,b,o,hlen,h,h'=>by
  obtain⟨⟨v,hv,hn⟩,hr⟩:=h;obtain⟨⟨v',hv',hn'⟩,hr'⟩:=h';obtain rfl:v=v':=by rw[hv] at hv';injection hv'
  have hr2:rs=ss:=InF.uniq (f:=rs) (g:=ss) (by simp only[Fr.len] at hlen;omega) hr hr';obtain⟨e1,e2⟩:=zXw (fun hl h1 h2=>InF.uniq (f:=ks) (g:=ls) hl h1 h2) hn hn';rw[e1,e2,hr2]
theorem InT.uniq {w:World} {S S':Nat→Prop} {v:Value} {t u:Tr} (h:InT w S v t) (h':InT w S' v u):t=u:=by
 obtain⟨e1,e2⟩:=zXw (fun hl h1 h2=>InF.uniq hl h1 h2) h h';exact Prod.ext e1 e2
def Cm (w:World) (cb k:Nat):Prop:=w.heap[cb]? = some (.cells #[.int .i64 (k:Int),.map none] 87 (0,0))
theorem zUb (cb k:Nat) (p:Array Value) (w:World) (h:Cm w cb k) (hk:k<65536) :
  Calls Tryz.prog 86 #[.pointer (some ⟨cb,0,none⟩),.agg p] w fun e w'=>e = .returned (.bool false)∧Cm w' cb (k+1)∧w.grownBy w' (some cb):=by
 have c0:=cell_of_row w cb 0 _ _ _ h;have f0:=frozen_of_row w cb 0 _ _ h;have hcb:=qC h;have h1:(k:Int)+1≤65536:=by omega
 have HC:=Lib.hid h;clear h
 go_enter Tryz.func86,Tryz.ntmps86
 go_wp2_with fail
 go_ret
 refine⟨rfl,?_,xH (xT (jC w _) _ _ (.inr rfl)) _⟩;have e1:((k+1:Nat):Int)=(k:Int)+1:=by omega
 refine zK _ ?_;rw[e1,jF _ HC.out]
 rfl
def zZy (b:Bool) (cb k M:Nat) (w:World) (e:Ending) (w':World):Prop:=e = .returned (.bool b)∧(∃m,m≤M∧Cm w' cb (k+m))∧w.grownBy w' (some cb)
theorem vE {b b':Bool} {cb k M m:Nat} {w w':World} (hb:b=b') (hm:m≤M) (h:Cm w' cb (k+m)) (hg:w.grownBy w' (some cb)):zZy b cb k M w (.returned (.bool b')) w':=⟨by rw[hb],⟨m,hm,h⟩,hg⟩
def zXx (n:Nat):Prop:=∀(t u:Tr),szT t≤n→∀(w:World) (Sq Sq':Nat→Prop) (v v':Value) (cb k:Nat),Bel Sq w.heap.size→Bel Sq' w.heap.size→¬Sq cb→¬Sq' cb→InT w Sq v t→InT w Sq' v' u→Cm w cb k→k+szT t≤65536→∀b:Bool,(b=true↔t=u)→
    Calls Tryz.prog 48 #[.pointer (some ⟨cb,0,none⟩),v,v'] w (zZy b cb k (szT t) w)
theorem Cm.drew {w:World} {cb k:Nat} (h:Cm w cb k) (q:Nat):Cm (w.drewN q) cb k:=h
theorem zUc (n:Nat) (ih:zXx n) (ks ls:Fr) (hn:ks.sz≤n) (w:World) (Sq Sq':Nat→Prop) (A A':Option Addr) (c c' cb k:Nat) (hS:Bel Sq w.heap.size) (hS':Bel Sq' w.heap.size) (hcS:¬Sq cb) (hcS':¬Sq' cb)
  (hkid:Kid w Sq A ks 0) (hkid':Kid w Sq' A' ls 0) (hcm:Cm w cb k) (hk:k+ks.sz≤65536) (ANS:Bool) (hans:ANS=true↔ks=ls) :
  Calls Tryz.prog 87 #[.slice A ks.len c,.slice A' ls.len c',.func (.func 48) #[.pointer (some ⟨cb,0,none⟩)] #[]] w (zZy ANS cb k ks.sz w):=by
 have HA:=Lib.hid hans;have HK:=Lib.hid hkid;have HK':=Lib.hid hkid';have HIH:=Lib.hid ih;have HCM:=Lib.hid hcm;have HB:=Lib.hid hS;have HB':=Lib.hid hS';have HC:=Lib.hid hcS;have HC':=Lib.hid hcS';have hll:=Fr.len_le ks;obtain⟨N,hN⟩:∃N,ks.len=N:=⟨_,rfl⟩;obtain⟨M,hM⟩:∃M,ls.len=M:=⟨_,rfl⟩;obtain⟨Z,hZ⟩:∃Z,ks.sz=Z:=⟨_,rfl⟩;rw[hN,hZ] at hll;rw[hZ] at hk hn;rw[hN,hM,hZ];have HNN:=Lib.hid hN;have HMM:=Lib.hid hM;have HZ:=Lib.hid hZ;clear hans hkid hkid' ih hcm hS hS' hcS hcS' hN hM hZ
 by_cases d4:N=M
 ·subst d4
  go_enter Tryz.func87,Tryz.ntmps87
  go_wp2_with fail
  go_loopw [7,8,9,17] (fun _ _ _ i wr=>∃(j:Nat) (done r1 r2:Fr) (m:Nat),i = .int .i64 j∧j=done.len∧ks=done.app r1∧ls=done.app r2∧Kid wr Sq A r1 j∧Kid wr Sq' A' r2 j∧m≤done.sz∧Cm wr cb (k+m)∧w.grownBy wr (some cb)) (fun _ _ _ i _=>N-(intOf i).toNat)
  case atStart=>exact⟨0,.nil,ks,ls,0,rfl,rfl,rfl,rfl,HK.out,HK'.out,Nat.zero_le _,HCM.out,jC _ _⟩
  case round=>
   obtain⟨j,done,r1,r2,m,rfl,hj,hks,hls,hkid,hkid',hm,hcm,hgw⟩:=hrel;have hl:N=done.len+r1.len:=by rw[←HNN.out,hks,Fr.len_app]
   have hl':N=done.len+r2.len:=by rw[←HMM.out,hls,Fr.len_app]
   have hs:Z=done.sz+r1.sz:=by rw[←HZ.out,hks,Fr.sz_app]
   have hrw:=hgw.size;have HKS:=Lib.hid hks;have HLS:=Lib.hid hls
   by_cases hlt:0<r1.len
   ·obtain⟨y1,l1,s1,rfl⟩:=Fr.cut hlt
    obtain⟨y2,l2,s2,rfl⟩:=Fr.cut (f:=r2) (by omega);obtain⟨kb,ko,u1,rfl,hkb,hcell,hu1,hnext⟩:=hkid.next;obtain⟨kb',ko',u2,rfl,hkb',hcell',hu2,hnext'⟩:=hkid'.next;have hyl:szT (y1,l1)=1+l1.sz:=rfl;have hsr:(Fr.cons y1 l1 s1).sz=1+l1.sz+s1.sz:=rfl;have hlr:(Fr.cons y1 l1 s1).len=s1.len+1:=rfl;have hbr:Bel Sq wr.heap.size:=fun q h=>by have:=HB.out q h;omega
    have hbr':Bel Sq' wr.heap.size:=fun q h=>by have:=HB'.out q h;omega
    have hjz:(j:Int)<(N:Int):=by omega
    have hjN:j<N:=by omega
    have HSN:Hid (m+szT (y1,l1)≤(done.app (.cons y1 l1 .nil)).sz∧m+szT (y1,l1)≤Z):=Lib.hid (by rw[Fr.sz_app];simp only[Fr.sz];omega);have HLN:Hid (j+1=(done.app (.cons y1 l1 .nil)).len):=Lib.hid (by rw[Fr.len_app];simp only[Fr.len];omega);have HNX:Hid (∀w2,wr.grownBy w2 (some cb)→Kid w2 Sq (some ⟨kb,ko,none⟩) s1 (j+1)∧Kid w2 Sq' (some ⟨kb',ko',none⟩) s2 (j+1)):=Lib.hid fun w2 hw2=>⟨hnext.gb hbr HC.out hw2,hnext'.gb hbr' HC'.out hw2⟩
    have cI:=fun b hb=>HIH.out (y1,l1) (y2,l2) (by omega) wr Sq Sq' u1 u2 cb (k+m) hbr hbr' HC.out HC'.out hu1 hu2 hcm (by omega) b hb
    have HGW:=Lib.hid hgw;clear hkid hkid' hnext hnext' hu1 hu2 hks hls hj hl hl' hs hlr hsr hyl hbr hbr' hgw hcm
    by_cases heq:((y1,l1):Tr)=(y2,l2)
    ·have cI:=cI true ⟨fun _=>heq,fun _=>rfl⟩
     have HEQ:=Lib.hid heq;clear heq
     go_wp2_with (go_at_call 48;refine cI.mono ?_;rintro e w2 ⟨rfl,hc2,hg2⟩;have HC2:=Lib.hid hc2;have HG2:=Lib.hid hg2;clear hc2 hg2)
     go_roundw
     case rel=>
      obtain⟨m2,hm2,hc2⟩:=HC2.out;exact⟨j+1,done.app (.cons y1 l1 .nil),s1,s2,m+m2,by go_num,HLN.out,by rw[HKS.out,Fr.app_cons],by
       rw[HLS.out,Fr.app_cons];have:=HEQ.out;simp only[Prod.mk.injEq] at this;rw[this.1,this.2],(HNX.out _ HG2.out).1,(HNX.out _ HG2.out).2,by have:=HSN.out.1;omega,by rw[←Nat.add_assoc];exact hc2,kV HGW.out HG2.out⟩
     case measure=>simp[intOf];omega
    ·have cI:=cI false ⟨fun h=>(by cases h),fun h=>absurd h heq⟩
     have HE:Hid (ANS=false):=Lib.hid (jZ HA.out fun e2=>heq (by
      rw[HKS.out,HLS.out] at e2;have e3:=Fr.app_inj done e2;simp only[Fr.cons.injEq] at e3;rw[e3.1,e3.2.1]))
     clear heq
     go_wp2_with (go_at_call 48;refine cI.mono ?_;rintro e w2 ⟨rfl,hc2,hg2⟩;have HC2:=Lib.hid hc2;have HG2:=Lib.hid hg2;clear hc2 hg2)
     go_ret
     obtain⟨m2,hm2,hc2⟩:=HC2.out;exact vE (m:=m+m2) HE.out (by have:=HSN.out.2;omega) (by rw[←Nat.add_assoc];exact hc2) (kV HGW.out HG2.out)
   ·have h1:r1 = .nil:=by
     cases r1 with
     | nil=>rfl
     | cons y l r=>exact absurd (Nat.succ_pos _) hlt
    subst h1;have hl1:N=done.len:=by simpa [Fr.len] using hl
    have h2:r2 = .nil:=by
     cases r2 with
     | nil=>rfl
     | cons y l r=>simp only[Fr.len] at hl';omega
    subst h2;have hjz:¬(j:Int)<(N:Int):=by omega
    have HE:Hid (ANS=true):=Lib.hid (zQo HA.out (by rw[HKS.out,HLS.out]));have HGW:=Lib.hid hgw;have HCR:=Lib.hid hcm;have hsn:(Fr.nil).sz=0:=rfl;have hmz:m≤Z:=by omega
    clear hkid hkid' hks hls hj hl hl' hl1 hs hgw hcm hsn;go_wp2_with fail
    go_ret
    exact vE HE.out hmz HCR.out HGW.out
 ·have e4:((N:Int)==(M:Int))=false:=by rw[beq_eq_false_iff_ne];omega
  have f4:((N:Int) != (M:Int))=true:=by rw[bne_iff_ne];omega
  have HE:Hid (ANS=false):=Lib.hid (jZ HA.out fun e=>d4 (by rw[←HNN.out,←HMM.out,e]));clear d4
  go_enter Tryz.func87,Tryz.ntmps87
  go_wp2_with fail
  go_ret
  exact vE (m:=0) HE.out (Nat.zero_le _) HCM.out (jC _ _)
theorem oK:∃j:TypeInfo,Tryz.prog.info? 50=some j∧j.size≠0:=by
 have h:(Tryz.prog.info? 50).map (·.size)=some 5:=by kernel_rfl
 obtain⟨j,hj,hs⟩:=Option.map_eq_some_iff.1 h;exact⟨j,hj,by omega⟩
theorem zUd {w:World} {a b:Addr} (hne:a≠b) (ha:Pln w a.block) (hb:Pln w b.block):(binOp .eql 24 (.pointer (some a)) (.pointer (some b))).run Tryz.prog w = .ok (.bool false) w:=by
 obtain⟨j,hj,hs⟩:=oK;obtain⟨ca,ta,ha⟩:=ha;obtain⟨cb,tb,hb⟩:=hb;exact run_eql_ptr_other w Tryz.underlying24 hj hs hne ha hb
theorem zQp (w:World) (a:Addr):(binOp .eql 24 (.pointer (some a)) (.pointer (some a))).run Tryz.prog w = .ok (.bool true) w:=by
 obtain⟨j,hj,hs⟩:=oK;exact run_eql_ptr_same w a Tryz.underlying24 hj
theorem dE:∀n,n≤65536→zXx n
 | 0,_=>fun t _ h=>absurd h (by unfold szT;omega)
 | n+1,hbig=>by
  have ih:=dE n (by omega);rintro⟨x,ks⟩ ⟨y,ls⟩ hn w Sq Sq' v v' cb k hS hS' hcS hcS' hin hin' hcm hk ANS hans;have huq:v=v'→ANS=true:=fun e=>hans.2 (by subst e;exact hin.uniq hin')
  obtain⟨q,p,A,c,rfl,hq1,c0,c1,c2,c3,c4,hc,hkid⟩:=hin.open;obtain⟨q',p',A',c',rfl,hq1',c0',c1',c2',c3',c4',hc',hkid'⟩:=hin'.open
  by_cases hsame:q=q'∧p=p'
  ·obtain⟨rfl,rfl⟩:=hsame
   have HE:Hid (ANS=true):=Lib.hid (huq rfl);have heq:=zQp w ⟨q,p,none⟩;clear huq hans ih hin hin' hkid hkid'
   go_enter Tryz.func48,Tryz.ntmps48
   go_wp2_with fail
   go_ret
   exact vE (m:=0) HE.out (Nat.zero_le _) hcm (jC _ _)
  ·have heq:=zUd (w:=w) (a:=⟨q,p,none⟩) (b:=⟨q',p',none⟩) (fun e=>hsame (by injection e with e1 e2;exact⟨e1,e2⟩)) hin.pln hin'.pln
   have hq:=zO c4;have hqq:=zO c4';have hcb:=qC hcm;have HA:=Lib.hid hans;have HIH:=Lib.hid ih;have HCM:=Lib.hid hcm;have HK:=Lib.hid hkid;have HK':=Lib.hid hkid';have HB:=Lib.hid hS;have HB':=Lib.hid hS';have HC:=Lib.hid hcS;have HC':=Lib.hid hcS';have hqc:q≠cb:=fun e=>hcS (by rw[←e];exact hq1)
   have hqc':q'≠cb:=fun e=>hcS' (by rw[←e];exact hq1')
   have hsz:szT (x,ks)=1+ks.sz:=rfl;obtain⟨Z,hZ⟩:∃Z,szT (x,ks)=Z:=⟨_,rfl⟩;rw[hZ] at hn hk hsz ⊢;obtain⟨N,hN⟩:∃N,ks.len=N:=⟨_,rfl⟩;obtain⟨M,hM⟩:∃M,ls.len=M:=⟨_,rfl⟩;rw[hN] at c4 hc;rw[hM] at c4' hc';have HNN:=Lib.hid hN;have HMM:=Lib.hid hM;have HSZ:=Lib.hid hsz;have hk1:k<65536:=by omega
   clear huq hans ih hin hin' hcm hkid hkid' hS hS' hcS hcS' hsz hZ hN hM hsame
   by_cases d0:x.k=y.k
   ·by_cases d1:x.n=y.n
    ·by_cases d2:x.a=y.a
     ·by_cases d3:x.m=y.m
      ·have HXY:=Lib.hid (zXv d0 d1 d2 d3)
       obtain⟨e0,f0⟩:=fD d0;obtain⟨e1,f1⟩:=fD d1;obtain⟨e2,f2⟩:=zZw d2;obtain⟨e3,f3⟩:=zZw d3;have HANS:Hid (ANS=true↔ks=ls):=Lib.hid (HA.out.trans ⟨fun e=>(Prod.mk.inj e).2,fun e=>by rw[e,HXY.out]⟩);have cA:=fun W (h:Cm W cb k)=>zUb cb k #[.pointer (some ⟨q,p,none⟩),.pointer (some ⟨q',p',none⟩)] W h hk1
       have cE:=fun W (hg:w.grownBy W (some cb)) (h:Cm W cb (k+1))=>zUc n HIH.out ks ls (by have:=HSZ.out;omega) W Sq Sq' A A' c c' cb (k+1) (fun q h=>by have:=HB.out q h;have:=hg.size;omega) (fun q h=>by have:=HB'.out q h;have:=hg.size;omega) HC.out HC'.out (HK.out.gb HB.out HC.out hg) (HK'.out.gb HB'.out HC'.out hg) h (by have:=HSZ.out;omega) ANS HANS.out
       rw[HNN.out,HMM.out] at cE;have HCA:=Lib.hid cA;have HCE:=Lib.hid cE;clear d0 d1 d2 d3 cA cE
       go_enter Tryz.func48,Tryz.ntmps48
       go_wp2_with fail
       go_quiet (fail)
       go_wp2_with fail
       go_region_held3 (fun w'=>w'.cell? ⟨q,p+4,none⟩=some (.slice A N c)∧w'.cell? ⟨q',p'+4,none⟩=some (.slice A' M c')) (go_keep)
        (first
         | (go_at_call 86;refine(HCA.out _ (by exact HCM.out)).mono ?_;rintro e w2 ⟨rfl,hc2,hg2⟩;have hgw:w.grownBy w2 (some cb):=⟨hg2.os,hg2.tape,hg2.output,hg2.size,hg2.block⟩;have k4:=fQ hgw c4 hqc;have k4':=fQ hgw c4' hqc';have HC2:=Lib.hid hc2;have HG2:=Lib.hid hgw;clear hc2 hg2 hgw)
         | (go_at_call 87;refine(HCE.out _ (by exact⟨HG2.out.os,HG2.out.tape,HG2.out.output,HG2.out.size,HG2.out.block⟩) (by exact HC2.out)).mono ?_;rintro e w3 ⟨rfl,hc3,hg3⟩;have hgw:w.grownBy w3 (some cb):=kV HG2.out ⟨hg3.os,hg3.tape,hg3.output,hg3.size,hg3.block⟩;have m4:=fQ hgw c4 hqc;have m4':=fQ hgw c4' hqc';have HC3:=Lib.hid hc3;have HG3:=Lib.hid hgw;clear hc3 hg3 hgw))
       go_wp2_with fail
       go_ret
       obtain⟨m3,hm3,hc3⟩:=HC3.out;exact vE (m:=1+m3) rfl (by have:=HSZ.out;omega) (by rw[←Nat.add_assoc];exact hc3) HG3.out
      ·obtain⟨e0,f0⟩:=fD d0
       obtain⟨e1,f1⟩:=fD d1;obtain⟨e2,f2⟩:=zZw d2;obtain⟨e3,f3⟩:=zQm d3;have HE:Hid (ANS=false):=Lib.hid (jZ HA.out fun e=>d3 (by rw[(Prod.mk.inj e).1]));clear d0 d1 d2 d3
       go_enter Tryz.func48,Tryz.ntmps48
       go_wp2_with fail
       go_quiet (fail)
       go_wp2_with fail
       go_ret
       exact vE (m:=0) HE.out (Nat.zero_le _) (HCM.out.drew _) (pM (jC _ _) _)
     ·obtain⟨e0,f0⟩:=fD d0
      obtain⟨e1,f1⟩:=fD d1;obtain⟨e2,f2⟩:=zQm d2;have HE:Hid (ANS=false):=Lib.hid (jZ HA.out fun e=>d2 (by rw[(Prod.mk.inj e).1]));clear d0 d1 d2
      go_enter Tryz.func48,Tryz.ntmps48
      go_wp2_with fail
      go_quiet (fail)
      go_wp2_with fail
      go_ret
      exact vE (m:=0) HE.out (Nat.zero_le _) (HCM.out.drew _) (pM (jC _ _) _)
    ·obtain⟨e0,f0⟩:=fD d0
     obtain⟨e1,f1⟩:=zQn d1;have HE:Hid (ANS=false):=Lib.hid (jZ HA.out fun e=>d1 (by rw[(Prod.mk.inj e).1]));clear d0 d1
     go_enter Tryz.func48,Tryz.ntmps48
     go_wp2_with fail
     go_quiet (fail)
     go_wp2_with fail
     go_ret
     exact vE (m:=0) HE.out (Nat.zero_le _) (HCM.out.drew _) (pM (jC _ _) _)
   ·obtain⟨e0,f0⟩:=zQn d0
    have HE:Hid (ANS=false):=Lib.hid (jZ HA.out fun e=>d0 (by rw[(Prod.mk.inj e).1]));clear d0
    go_enter Tryz.func48,Tryz.ntmps48
    go_wp2_with fail
    go_quiet (fail)
    go_wp2_with fail
    go_ret
    exact vE (m:=0) HE.out (Nat.zero_le _) (HCM.out.drew _) (pM (jC _ _) _)
theorem aU (w:World) (a:Addr):(binOp .eql 24 (.pointer none) (.pointer (some a))).run Tryz.prog w = .ok (.bool false) w:=by
 have h:∀d:Nat,(Op.equalIn (d+1) 24 (.pointer none) (.pointer (some a))).run Tryz.prog w = .ok false w:=fun d=>by simp[Op.equalIn,run_underlying Tryz.underlying24]
 simp only[binOp]
 simp[Op.equal,Op.maxDepth,h 9999]
theorem lK (w:World) (a:Addr):(binOp .eql 24 (.pointer (some a)) (.pointer none)).run Tryz.prog w = .ok (.bool false) w:=by
 have h:∀d:Nat,(Op.equalIn (d+1) 24 (.pointer (some a)) (.pointer none)).run Tryz.prog w = .ok false w:=fun d=>by simp[Op.equalIn,run_underlying Tryz.underlying24]
 simp only[binOp]
 simp[Op.equal,Op.maxDepth,h 9999]
def zJo (b:Bool) (w:World) (e:Ending) (w':World):Prop:=e = .returned (.bool b)∧Below w.heap.size w w'
theorem zJp (t u:Option Tr) (hno:t=none∨u=none) (cb:Nat) (w:World) (Sq Sq':Nat→Prop) (v v':Value) (hin:InO w Sq v t) (hin':InO w Sq' v' u) (b:Bool) (hb:b=true↔t=u) :
  Calls Tryz.prog 48 #[.pointer (some ⟨cb,0,none⟩),v,v'] w fun e w'=>e = .returned (.bool b)∧∃n,w'=w.drewN n:=by
 cases t with
 | none=>
  have hv:v = .pointer none:=hin;subst hv
  cases u with
  | none=>
   have hv:v' = .pointer none:=hin';subst hv;have HE:Hid (b=true):=Lib.hid (hb.2 rfl);clear hb hin hin' hno
   go_enter Tryz.func48,Tryz.ntmps48
   go_wp2_with fail
   go_ret
   exact zZx HE.out ⟨0,rfl⟩
  | some u=>
   obtain⟨q,p,rfl⟩:=InT.ptr hin';have HE:Hid (b=false):=Lib.hid (jZ hb (by simp));have heq:=aU w ⟨q,p,none⟩;clear hb hin hin' hno
   go_enter Tryz.func48,Tryz.ntmps48
   go_wp2_with fail
   go_quiet (fail)
   go_wp2_with fail
   go_ret
   exact zZx HE.out ⟨_,rfl⟩
 | some t=>
  obtain rfl:u=none:=hno.resolve_left (by simp);have hv:v' = .pointer none:=hin';subst hv;obtain⟨q,p,rfl⟩:=InT.ptr hin;have HE:Hid (b=false):=Lib.hid (jZ hb (by simp));have heq:=lK w ⟨q,p,none⟩;clear hb hin hin' hno
  go_enter Tryz.func48,Tryz.ntmps48
  go_wp2_with fail
  go_quiet (fail)
  go_wp2_with fail
  go_ret
  exact zZx HE.out ⟨_,rfl⟩
theorem zJq (t u:Option Tr) (w:World) (Sq Sq':Nat→Prop) (v v':Value) (hS:Bel Sq w.heap.size) (hS':Bel Sq' w.heap.size) (hin:InO w Sq v t) (hin':InO w Sq' v' u) (hsz:szO t≤65536) (b:Bool) (hb:b=true↔t=u) :
  Calls Tryz.prog 23 #[v,v'] w (zJo b w):=by
 obtain⟨H,hH⟩:∃H,w.heap.size=H:=⟨_,rfl⟩;have hbel:=(Below.refl w.heap.size w).alloc (Nat.le_refl _) (.cells #[.int .i64 0,.map none] 87);have key:Calls Tryz.prog 48 #[.pointer (some ⟨H,0,none⟩),v,v'] (w.alloc (.cells #[.int .i64 0,.map none] 87)) fun e w'=>e = .returned (.bool b)∧Below w.heap.size w w':=by
  by_cases hno:t=none∨u=none
  ·refine(zJp t u hno H _ Sq Sq' v v' (hin.below hS hbel) (hin'.below hS' hbel) b hb).mono ?_
   rintro e w' ⟨rfl,n,rfl⟩;exact⟨rfl,qD hbel n⟩
  ·cases t with
   | none=>exact absurd (.inl rfl) hno
   | some t=>
    cases u with
    | none=>exact absurd (.inr rfl) hno
    | some u=>
     have hs1:(w.alloc (.cells #[.int .i64 0,.map none] 87)).heap.size=H+1:=by simp;omega
     have hszt:szO (some t)=szT t:=rfl;refine(dE 65536 (Nat.le_refl _) t u (by omega) _ Sq Sq' v v' H 0 (fun q h=>by have:=hS q h;omega) (fun q h=>by have:=hS' q h;omega) (fun h=>by have:=hS _ h;omega) (fun h=>by have:=hS' _ h;omega) (InT.below hin hS hbel) (InT.below hin' hS' hbel) (by rw[←hH];exact heap_alloc_new w _) (by omega) b (by rw[hb];simp)).mono ?_;rintro e w' ⟨rfl,-,hg⟩;exact⟨rfl,zYu hbel hg (by omega) fun g h=>by injection h with h;omega⟩
 rw[←hH] at key;clear hin hin' hS hS' hbel hb hsz hH
 go_enter Tryz.func23,Tryz.ntmps23
 go_wp2_with fail;refine key.mono ?_;rintro e w1 ⟨rfl,hb1⟩;go_wp2_with fail
 go_ret
 exact⟨rfl,hb1⟩
theorem uSame (o o':Option Tr) {W w:World} {v v':Value} (h:HasT W v o) (h':HasT W v' o') (hz:szO o≤65536) (b:Bool) (hb:b=true↔o=o') (u:Up W w) :
  Calls Tryz.prog 23 #[v,v'] w (BoP b W):=
 (zJq o o' w _ _ v v' HasT.bel HasT.bel (h.up u) (h'.up u) hz b hb).mono fun _ _ k=>⟨k.1,u.of k.2⟩
theorem zUe {s:ByteArray} (h:16384<s.size):B.lexR s=([],0,3):=by
 have e:B.ckr s=(0,3):=by unfold B.ckr;rw[if_pos h]
 unfold B.lexR;rw[e]
 rfl
end Go.Proofs.YtnjgnbofcbhngaaGreatDoor
namespace Go.Proofs.YtnjgnbofcbhngaaGreatDoor
open Go.Lib
def gapB:List Nat:=[32,40,42,32,98,32,42,41,10]
def gapA:List Nat:=[40,42,32,97,32,42,41,10]
def jnG:List (List Nat)→List Nat
 | []=>[]
 | [x]=>x
 | x::y::r=>x++(gapB++jnG (y::r))
theorem zQq:B.btw gapB=gapB.length:=by decide
theorem zQr:B.btw gapA=gapA.length:=by decide
theorem zXy:∀(ts:List B.Tok) (p:Nat),(∀t∈ts,B.Made t)→∃r,B.lexL (jnG (ts.map (·.x))) p = .inl r∧r.map (·.1)=ts
 | [],p,_=>⟨[],B.jB (l:=[]) rfl,rfl⟩
 | [t],p,h=>by
  obtain⟨d,n,hd⟩:=h t (by simp);exact⟨[(t,p)],B.zTq hd p,rfl⟩
 | t::u::r,p,h=>by
  obtain⟨d,n,hd⟩:=h t (by simp);have hB:B.Bl (gapB++jnG ((u::r).map (·.x))):=.inr ⟨_,rfl⟩;obtain⟨h1,h2,h3⟩:=B.zYp hd hB;obtain⟨r',h4,h5⟩:=zXy (u::r) (p+B.sz t.x+B.sz gapB) (fun x hx=>h x (by simp[hx]));refine⟨(t,p)::r',?_,by simp[h5]⟩
  show B.lexL (t.x++(gapB++jnG ((u::r).map (·.x)))) p=_
  have hsk:B.lexL (gapB++jnG ((u::r).map (·.x))) (p+B.sz t.x) = .inl r':=by
   rw[←h4];exact B.wO zQq (jnG ((u::r).map (·.x))) (p+B.sz t.x)
  rw[B.kE (by rw[h2];exact List.append_ne_nil_of_right_ne_nil _ (List.cons_ne_nil _ _)) (by rw[h2];exact h1),h2];simp only[List.drop_zero,List.take_zero,B.zZ,Nat.add_zero,List.drop_left,List.take_left,hsk]
theorem zQs (x y:List Nat) (r:List (List Nat)):jnG (x::y::r)=x++(gapB++jnG (y::r)):=rfl
theorem zQt:B.enc gapB=[32,40,42,32,98,32,42,41,10]:=by decide
theorem zQu:B.enc gapA=[40,42,32,97,32,42,41,10]:=by decide
theorem zXz:∀(xs:List (List Nat)),∀r∈jnG xs,r∈gapB∨∃x∈xs,r∈x
 | [],r,h=>by cases h
 | [x],r,h=>.inr ⟨x,by simp,h⟩
 | x::y::z,r,h=>by
  rw[zQs] at h
  rcases List.mem_append.1 h with h | h
  ·exact .inr ⟨x,by simp,h⟩
  ·rcases List.mem_append.1 h with h | h
   ·exact .inl h
   ·rcases zXz (y::z) r h with h | ⟨w,h1,h2⟩
    ·exact .inl h
    ·exact .inr ⟨w,by simp at h1 ⊢;right;exact h1,h2⟩
theorem zQv:∀r∈gapA++gapB,B.ok r∧B.rdb (r:Int)=true:=fun r hr=>
 ⟨B.fI (l:=gapA++gapB) (by decide) r hr,by revert r hr;decide⟩
theorem zQw {us:List B.Tok} (hm:∀u∈us,B.Made u) (hr:∀u∈us,B.okl u.x∧∀r∈u.x,B.rdb (r:Int)=true) (hz:(B.T (gapA++jnG (us.map (·.x)))).size≤16384) :
  ∃r,B.lexR (B.T (gapA++jnG (us.map (·.x))))=(r,0,0)∧r.map (·.1)=us:=by
 obtain⟨r,h4,h5⟩:=zXy us (0+B.sz gapA) hm;have hok:∀r∈gapA++jnG (us.map (·.x)),B.ok r∧B.rdb (r:Int)=true:=by
  intro r hr'
  rcases List.mem_append.1 hr' with h | h
  ·exact zQv r (List.mem_append_left _ h)
  ·rcases zXz _ r h with h | ⟨x,hx,hrx⟩
   ·exact zQv r (List.mem_append_right _ h)
   ·obtain⟨u,hu,rfl⟩:=List.mem_map.1 hx
    exact⟨(hr u hu).1 r hrx,(hr u hu).2 r hrx⟩
 have hs:B.sz (gapA++jnG (us.map (·.x)))≤16384:=by rw[←B.qK];exact hz
 refine⟨r,?_,h5⟩;rw[B.uK (fun r hr=>(hok r hr).1) (fun r hr=>(hok r hr).2) hs,B.wO zQr,h4]
end Go.Proofs.YtnjgnbofcbhngaaGreatDoor
namespace Go.Proofs.YtnjgnbofcbhngaaGreatDoor
theorem zMd {r r':List (B.Tok×Nat)} (h:r.map (·.1)=r'.map (·.1)):tqs r=tqs r':=by
 have e:∀x:List (B.Tok×Nat),tqs x=(x.map (·.1)).map fun u=>(⟨⟨u.k,B.T u.x⟩,u.n⟩:Te):=fun x=>by unfold tqs;rw[List.map_map];rfl
 rw[e,e,h]
theorem zUf {s s':ByteArray} {r r':List (B.Tok×Nat)} (h:r.length=r'.length) (R:Rs Fr):(srcD s r R).1=(srcD s' r' R).1∧(srcD s r R).2.2=(srcD s' r' R).2.2:=by
 unfold srcD
 cases R with
 | inr e=>exact⟨rfl,rfl⟩
 | inl p=>
  simp only;rw[h]
  repeat' split
  all_goals exact⟨rfl,rfl⟩
theorem zQx {m:Nat} {s:ByteArray} {l:List (B.Tok×Nat)} (h:B.lexR s=(l,0,0)) {s':ByteArray} (hs:s'=B.T (gapA++jnG ((l.map (·.1)).map (·.x)))) :
  (srcZ m s').2.2=3∨((srcZ m s').1=(srcZ m s).1∧(srcZ m s').2.2=(srcZ m s).2.2):=by
 by_cases hz:s'.size≤16384
 ·right
  rcases B.xF h with ⟨_,_,L,tL,lL⟩ | ⟨h,_⟩
  ·have ht:=(B.nV _ L 0 l (Nat.le_refl _) tL.ok tL.rd lL).2
   obtain⟨r,h1,h2⟩:=zQw (us:=l.map (·.1)) (fun u hu=>by obtain⟨x,hx,rfl⟩:=List.mem_map.1 hu;exact(ht x hx).1) (fun u hu=>by obtain⟨x,hx,rfl⟩:=List.mem_map.1 hu;exact(ht x hx).2) (by rw[←hs];exact hz);rw[←hs] at h1;have e1:srcZ m s'=srcD s' r (declF B.nck B.long (tqs r) m true 0):=by unfold srcZ;rw[h1];exact if_pos rfl
   have e2:srcZ m s=srcD s l (declF B.nck B.long (tqs l) m true 0):=by unfold srcZ;rw[h];exact if_pos rfl
   have hlen:r.length=l.length:=by have:=congrArg List.length h2;rw[List.length_map,List.length_map] at this;exact this
   rw[e1,e2,zMd h2];exact zUf hlen _
  ·exact absurd rfl h
 ·left
  have:=zUe (s:=s') (by omega);unfold srcZ;rw[this]
  rfl
theorem zQy {m:Nat} {s:ByteArray} {t:Tr} {a e:Int} (h:srcZ m s=(some t,a,e)):∃l f,B.lexR s=(l,0,0)∧declF B.nck B.long (tqs l) m true 0 = .inl (f,l.length)∧t=progT f∧szT t≤8192∧dpT t≤60:=by
 obtain⟨l,b,c,hl⟩:∃l b c,B.lexR s=(l,b,c):=⟨_,_,_,rfl⟩;unfold srcZ at h;rw[hl] at h;simp only at h
 split at h
 ·rename_i hc
  subst hc;have hb:b=0:=by
   rcases B.xF hl with ⟨_,hb,_⟩ | ⟨h,_⟩
   ·exact hb
   ·exact absurd rfl h
  subst hb;unfold srcD at h
  split at h
  ·cases h
  ·rename_i f j hd
   have hin:=vO (nk:=B.nck) (lg:=B.long) (l:=tqs l) (n:=m) (i:=0) (top:=true) (Nat.zero_le _);rw[hd] at hin;have hj:=hin.2;rw[vD] at hj
   split at h
   ·cases h
   ·split at h
    ·cases h
    ·split at h
     ·cases h
     ·injection h with h3 h4
      injection h3 with h3;subst h3;have e:j=l.length:=by omega
      subst e;exact⟨l,f,hl,hd,rfl,by omega,by omega⟩
 ·cases h
end Go.Proofs.YtnjgnbofcbhngaaGreatDoor
namespace Go.Proofs.YtnjgnbofcbhngaaGreatDoor
open Go.RowKit
def Tkr (w:World) (v:Value) (l:List B.RTok):Prop:=∃A c,v = .slice A l.length c∧∀(j:Nat) t,l[j]? = some t→∃b o,A=some ⟨b,o,none⟩∧b<w.heap.size∧w.cell? ⟨b,o+j*4,none⟩=some (.int .i64 t.k)∧w.cell? ⟨b,o+j*4+1,none⟩=some (.string t.s)∧w.cell? ⟨b,o+j*4+2,none⟩=some (.int .i64 t.n)∧w.cell? ⟨b,o+j*4+3,none⟩=some (.int .i64 t.a)
theorem zYk:(Tryz.prog.info? 47).map (fun i=>(i.zero,i.size,i.bytes))=some (some (.agg #[.int .i64 0,.string ⟨#[]⟩,.int .i64 0,.int .i64 0]),4,40):=by kernel_rfl
def rq8 (x:B.Tok×Nat):B.RTok:=⟨x.1.k,B.T x.1.x,x.1.n,(x.2:Int)⟩
theorem zMe {w:World} {v:Value} {l:List (B.Tok×Nat)} (h:B.Tks w w.heap.size v l):Tkr w v (l.map rq8):=by
 obtain⟨A,c,hv,hc⟩:=zQa h;obtain⟨A',c',hv',hc'⟩:=zQg h;rw[List.length_map] at hv;rw[hv] at hv';injection hv' with e1 e2 e3;subst e1 e3;refine⟨A,c,by rw[hv,List.length_map],fun j t ht=>?_⟩;rw[List.getElem?_map] at ht;obtain⟨x,hx,rfl⟩:=Option.map_eq_some_iff.1 ht;obtain⟨b,o,h1,h2,h3,h4,h5,-⟩:=hc j (teq x) (by rw[List.getElem?_map,hx];rfl);obtain⟨b',o',k1,k2,k3⟩:=hc' j x hx;rw[h1] at k1;have k1:=Option.some.inj k1;injection k1 with k1 k4;subst k1 k4;exact⟨b,o,h1,h2,h3,h4,h5,k3⟩
theorem zUg {s:ByteArray} (hs:s.size≤16384) {l:List (B.Tok×Nat)} {a b:Int} (h:B.lexR s=(l,a,b)):l.length≤16384∧B.tot (l.map (·.1.x))≤400000:=by
 rcases B.xF h with ⟨_,_,L,hL,hl⟩ | ⟨_,rfl⟩
 ·have h1:=B.eS hL hl
  have h2:=(B.nV _ L 0 l (Nat.le_refl _) hL.ok hL.rd hl).1;have hsz:B.sz L≤16384:=by rw[←B.qK,hL.txt];exact hs
  exact⟨by omega,by omega⟩
 ·exact⟨Nat.zero_le _,Nat.zero_le _⟩
theorem lE:∀L:List (List Nat),Lib.join (L.map fun x=>(B.T x).data.toList) [32,40,42,32,98,32,42,41,10]=B.enc (jnG L)
 | []=>rfl
 | [x]=>by
  show Lib.join [(B.T x).data.toList] _=B.enc x
  rw[Lib.join_one]
  rfl
 | x::y::r=>by
  have ih:=lE (y::r)
  show Lib.join ((B.T x).data.toList::(B.T y).data.toList::r.map fun x=>(B.T x).data.toList) _=B.enc (x++(gapB++jnG (y::r)))
  rw[B.xP,B.xP,←ih,zQt]
  show _=B.enc x++(_++Lib.join ((B.T y).data.toList::r.map fun x=>(B.T x).data.toList) _)
  rw[Lib.join_cons,Lib.join_cons];unfold Lib.joinTail;rw[List.map_cons,List.flatten_cons,List.append_assoc]
  rfl
theorem zZz:∀(L:List (List Nat)),B.sz (jnG L)≤B.tot L+9*L.length
 | []=>Nat.le_refl _
 | [x]=>by show B.sz x≤(B.sz x+1+B.tot [])+9*1;omega
 | x::y::r=>by
  have ih:=zZz (y::r)
  show B.sz (x++(gapB++jnG (y::r)))≤(B.sz x+1+B.tot (y::r))+9*((y::r).length+1)
  rw[B.sz_app,B.sz_app,show B.sz gapB=9 from by decide];omega
theorem zMf (L:List (List Nat)):(⟨#[40,42,32,97,32,42,41,10]⟩:ByteArray)++⟨(Lib.join (L.map fun x=>(B.T x).data.toList) [32,40,42,32,98,32,42,41,10]).toArray⟩=B.T (gapA++jnG L):=by
 rw[lE]
 apply ByteArray.ext
 apply Array.ext'
 rw[B.yF,B.xP,zQu];simp only[ByteArray.data_append,Array.toList_append]
theorem zW0 {m:Nat} {s:ByteArray} (h:¬(srcZ m s).2.2=0):(srcZ m s).1=none:=by
 unfold srcZ at h ⊢
 split
 ·rename_i h0
  rw[if_pos h0] at h;unfold srcD at h ⊢
  split
  ·rfl
  ·split
   ·rfl
   ·split
    ·rfl
    ·split
     ·rfl
     ·rename_i hd h1 h2 h3
      rw[hd] at h;simp only at h;rw[if_neg h1,if_neg h2,if_neg h3] at h;exact absurd rfl h
 ·rfl
theorem zMg (m:Nat) (s:ByteArray):szO (srcZ m s).1≤8192:=by
 obtain⟨o,a,e,h⟩:∃o a e,srcZ m s=(o,a,e):=⟨_,_,_,rfl⟩;rw[h]
 cases o with
 | none=>exact Nat.zero_le _
 | some t=>obtain⟨_,_,_,_,_,h3,_⟩:=zQy h;exact h3
theorem SouP.has {o:Option Tr} {a e:Int} {w w':World} {en:Ending} (h:SouP (o,a,e) w en w'):∃v,en = .returned (.tuple #[v,.int .i64 a,.int .i64 e])∧Up w w'∧HasT w' v o:=by
 obtain⟨v,h1,h2,h3⟩:=h;refine⟨v,h1,h2,?_⟩
 cases o with
 | none=>exact h3
 | some t=>exact NewT.has h3
def strL (l:List (B.Tok×Nat)):List Value:=l.map fun x=>.string (B.T x.1.x)
theorem zQz:(Tryz.prog.info? 9).map (fun i=>(i.zero,i.size,i.bytes))=some (some (.string ⟨#[]⟩),1,16):=by kernel_rfl
theorem zY0 (s:ByteArray) (w:World) (hx:Vx7 w) (hs:s.size≤9223372036854775807) :
  Calls Tryz.prog 6 #[.string s] w (BoP true w):=by
 have HX:=Lib.hid hx;clear hx;obtain⟨M,hM⟩:∃M:Nat,min s.size 1000=M:=⟨_,rfl⟩;have hm1:(if (1000:Int)<(s.size:Int) then (1000:Int) else (s.size:Int))=(M:Int):=by split<;>omega
 have hm2:min (s.size:Int) 1000=(M:Int):=by omega
 have hm3:(M:Int)≤(s.size:Int):=by omega
 have hzs:(s.extract 0 M).size≤1000:=by rw[Lib.size_eq,Lib.extract_data,List.length_take];omega
 go_enter Tryz.func6,Tryz.ntmps6
 go_wp2_with fail;obtain⟨X,hX⟩:∃X,s.extract 0 M=X:=⟨_,rfl⟩;rw[hX] at hzs ⊢;clear hX hm1 hm2 hm3 hM;obtain⟨l,a,b,hr⟩:∃l a b,B.lexR X=(l,a,b):=⟨_,_,_,rfl⟩;obtain⟨hl,hlz⟩:=zUg (s:=X) (by omega) hr;have hab:b=0→a=0:=fun h0=>by
  rcases B.xF hr with ⟨_,hb,_⟩ | ⟨h,_⟩
  ·exact hb
  ·exact absurd h0 h
 have cL:=B.zYl X (by omega) w HX.out.lx;rw[hr] at cL;have HR:=Lib.hid hr;have HLZ:=Lib.hid hlz;have HAB:=Lib.hid hab;clear hr hlz hab;refine Calls.mono cL ?_;rintro e w1 ⟨v,rfl,ht,hb1⟩;have u1:Up w w1:=hb1
 by_cases hb:b=0
 ·have ha:=HAB.out hb
  subst ha hb;have tr:=zMe ht;obtain⟨A,c,hv,hc⟩:=tr;rw[List.length_map] at hv;subst hv;obtain⟨N,hN⟩:∃N,l.length=N:=⟨_,rfl⟩;have HN:=Lib.hid hN;rw[hN] at hl ⊢;have HC:=Lib.hid hc;have U1:=Lib.hid u1;obtain⟨i0,hi0,hz0,hz1,hz2⟩:=info_parts zQz;clear hN hc ht hb1 u1 cL HAB;go_wp2_with fail
  go_loopw [6,31] (fun vo x wr=>∃k:Nat,x = .int .i64 (k:Int)∧k≤N∧wr.ownsRow w1.heap.size 9 1 vo k (strL (l.take k))∧Up w1 wr) (fun _ x _=>N-(intOf x).toNat)
  case atStart=>exact⟨0,rfl,Nat.zero_le _,World.ownsRow_nil _ _ _ _,Up.refl _⟩
  case round=>
   obtain⟨k,rfl,hk,ho,hur⟩:=hrel;have HO:=Lib.hid ho;have HUR:=Lib.hid hur;have hzr:=hur.size;clear ho
   by_cases hlt:k<N
   ·have hkz:(k:Int)<(N:Int):=by omega
    obtain⟨x,hxk⟩:∃x,l[k]? = some x:=⟨_,List.getElem?_eq_getElem (by rw[HN.out];exact hlt)⟩;obtain⟨b,o,rfl,hb,m0,m1,m2,m3⟩:=HC.out k (rq8 x) (by rw[List.getElem?_map,hxk];rfl);have a0:=hur.cell m0;have a1:=hur.cell m1;have a2:=hur.cell m2;have a3:=hur.cell m3;have hw1:IntKind.i64.wrap ((k:Int)+1)=((k+1:Nat):Int):=by rw[IntKind.wrap_i64];omega
    have hbr:b<wr.heap.size:=by omega
    obtain⟨XK,hXK⟩:∃z,(rq8 x).k=z:=⟨_,rfl⟩;obtain⟨XS,hXS⟩:∃z,(rq8 x).s=z:=⟨_,rfl⟩;obtain⟨XN,hXN⟩:∃z,(rq8 x).n=z:=⟨_,rfl⟩;obtain⟨XA,hXA⟩:∃z,(rq8 x).a=z:=⟨_,rfl⟩;rw[hXK] at a0;rw[hXS] at a1;rw[hXN] at a2;rw[hXA] at a3;obtain⟨w5,hw5⟩:∃x,(wr.alloc (.cells #[.int .i64 XK,.string XS,.int .i64 XN,.int .i64 XA] 47)).alloc (.cells #[.string XS] 9)=x:=⟨_,rfl⟩;have u5:Up wr w5:=by rw[←hw5];exact((Up.refl wr).alloc _).alloc _
    have hz5:w5.heap.size=wr.heap.size+2:=by rw[←hw5];simp
    have HCE:Hid (∀(j:Nat) u,[Value.string XS][j]? = some u→w5.cell? ((⟨wr.heap.size+1,0,none⟩:Addr).add j)=some u):=Lib.hid (by
     rw[←hw5];have e:wr.heap.size+1=(wr.alloc (.cells #[.int .i64 XK,.string XS,.int .i64 XN,.int .i64 XA] 47)).heap.size:=by simp
     rw[e];exact cell_one_new _ _ _)
    have HT:Hid (strL (l.take (k+1))=strL (l.take k)++[.string XS]):=Lib.hid (by
     unfold strL;rw[List.take_add_one,hxk,List.map_append,←hXS]
     rfl)
    have HOW:=Lib.hid (aE HO.out u5);have HW5:=Lib.hid hw5;have U5:=Lib.hid u5;have hW5:w1.heap.size≤w5.heap.size:=by omega
    clear m0 m1 m2 m3 hxk hur hXK hXS hXN hXA hw5 u5
    go_wp2_with (at_builtin;rw[HW5.out];refine wpList_append_lies _ rfl _ _ 45 rfl w1.heap.size 9 i0 _ 1 16 Tryz.underlying45 hi0 hz0 hz1 hz2 rfl (by omega) u6 k (strL (l.take k)) rfl HOW.out ⟨wr.heap.size+1,0,none⟩ 1 1 [.string XS] rfl rfl HCE.out (by intro u hu;rw[List.mem_singleton.1 hu];rfl) (by omega) (by unfold maxLen;omega) (by omega) hW5 w5.heap.size rfl ?_;intro g6 cap6 w6 ho6 hg6 hat6 hlt6)
    rw[←HT.out] at ho6
    go_roundw
    case rel=>exact⟨k+1,by go_num,by omega,ho6,(HUR.out.trans U5.out).grown hg6 hW5 fun g hg=>(World.ownsRow.lt HO.out g hg).1⟩
    case measure=>simp[intOf];omega
   ·have hkz:¬(k:Int)<(N:Int):=by omega
    have hke:k=N:=by omega
    subst hke;obtain⟨L,hL⟩:∃L,(l.map (·.1)).map (·.x)=L:=⟨_,rfl⟩;have hsl:strL (l.take k)=L.map fun x=>.string (B.T x):=by
     rw[List.take_of_length_le (by rw[HN.out];exact Nat.le_refl _),←hL];unfold strL;rw[List.map_map,List.map_map]
     rfl
    have hLl:L.length=k:=by rw[←hL,List.length_map,List.length_map];exact HN.out
    have hLt:B.tot L≤400000:=by rw[←hL,List.map_map];exact HLZ.out
    have hjl:(Lib.join (L.map fun x=>(B.T x).data.toList) [32,40,42,32,98,32,42,41,10]).length≤1000000:=by
     rw[lE];have h1:(B.enc (jnG L)).length=B.sz (jnG L):=by rw[←B.qK];rfl
     have h2:=zZz L;omega
    have r1:¬9223372036854775807<8+(Lib.join (L.map fun x=>(B.T x).data.toList) [32,40,42,32,98,32,42,41,10]).length:=by omega
    have hxz:(B.T (gapA++jnG L)).size≤1000000000:=by
     rw[B.qK,B.sz_app,show B.sz gapA=8 from by decide];have h2:=zZz L;omega
    have ho2:=HO.out;rw[hsl] at ho2;have HJ:Hid (∀w',Up wr w'→Calls Tryz.prog 22 #[u6,.string ⟨#[32,40,42,32,98,32,42,41,10]⟩] w' fun e w''=>e = .returned (.string ⟨(Lib.join (L.map fun x=>(B.T x).data.toList) [32,40,42,32,98,32,42,41,10]).toArray⟩)∧Up w' w''):=Lib.hid fun w' u=>by
     have ho3:=aE ho2 u
     by_cases hk0:k=0
     ·have hLn:L=[]:=List.length_eq_zero_iff.1 (by omega)
      rcases ho3.2 with ⟨h1,-⟩ | ⟨g,cap,cur,h1,_⟩
      ·rw[h1,hLn]
       exact(Tryz.strings_Join_none none 0 ⟨#[32,40,42,32,98,32,42,41,10]⟩ w').mono fun e w'' ⟨k1,k2⟩=>⟨k1,k2▸Up.refl _⟩
      ·rw[h1,hLn,hk0]
       exact(Tryz.strings_Join_none (some ⟨g,0,none⟩) cap ⟨#[32,40,42,32,98,32,42,41,10]⟩ w').mono fun e w'' ⟨k1,k2⟩=>⟨k1,k2▸Up.refl _⟩
     ·rcases ho3.2 with ⟨h1,h0⟩ | ⟨g,cap,cur,h1,_,_,hnc,_⟩
      ·exact absurd h0 hk0
      ·have hlt3:=(World.ownsRow.lt ho3 g (by rw[h1];rfl)).2
       have hcl:=fun(j:Nat) (u:Value) hu=>ho3.cells (g:=g) (by rw[h1];rfl) j u hu
       have c:=Tryz.strings_Join g 0 cap (L.map B.T) ⟨#[32,40,42,32,98,32,42,41,10]⟩ w' (fun j x hx=>by
        rw[List.getElem?_map] at hx;obtain⟨y,hy,rfl⟩:=Option.map_eq_some_iff.1 hx;have h9:=hcl j (.string (B.T y)) (by rw[List.getElem?_map,hy];rfl);have e1:(⟨g,0,none⟩:Addr).add j=⟨g,0+j,none⟩:=by unfold Addr.add;split<;>(try simp_all)
        rwa [e1] at h9) hlt3 (by rw[List.length_map];omega) (by rw[List.length_map,hLl];exact hnc) (by rw[List.map_map];exact Nat.le_trans hjl (by omega))
       rw[List.length_map,hLl,List.map_map] at c;rw[h1];exact c.mono fun e w'' ⟨k1,k2⟩=>⟨k1,k2⟩
    obtain⟨m,hm⟩:∃m,3*(B.lexR X).1.length+4+(3*(B.lexR (B.T (gapA++jnG L))).1.length+4)=m:=⟨_,rfl⟩;have hgap:=zQx (m:=m) HR.out (s':=B.T (gapA++jnG L)) (by rw[hL]);have hU:=HX.out.up (U1.out.trans hur);have cS1:=jS X (by omega) m (by omega) wr hU;have HS2:Hid (∀w',Up wr w'→Calls Tryz.prog 19 #[.string (B.T (gapA++jnG L))] w' (SouP (srcZ m (B.T (gapA++jnG L))) w')):=Lib.hid fun w' u=>jS _ hxz m (by omega) w' (hU.up u)
    have he1:=zW0 (m:=m) (s:=X);have he2:=zW0 (m:=m) (s:=B.T (gapA++jnG L));have hz1:=zMg m X;obtain⟨o1,at1,f,hR1⟩:∃o a e,srcZ m X=(o,a,e):=⟨_,_,_,rfl⟩;obtain⟨o2,at2,g,hR2⟩:∃o a e,srcZ m (B.T (gapA++jnG L))=(o,a,e):=⟨_,_,_,rfl⟩;rw[hR1,hR2] at hgap;rw[hR1] at cS1 he1 hz1;rw[hR2] at HS2 he2;simp only at hgap he1 he2 hz1;have HFG:Hid ((f=g→o2=o1)∧(¬f=g→g=3)):=Lib.hid ⟨fun hfg=>by
     rcases hgap with h3 | ⟨h3,_⟩
     ·rw[he1 (by rw[hfg,h3];decide),he2 (by rw[h3];decide)]
     ·exact h3,fun hfg=>by
     rcases hgap with h3 | ⟨_,h3⟩
     ·exact h3
     ·exact absurd h3.symm hfg⟩
    have HZ1:=Lib.hid hz1;have HU:=Lib.hid (U1.out.trans hur);clear hgap he1 he2 hz1 hR1 hR2 hm hL hsl hLl hLt hjl hxz ho2 hur hU HO;go_wp2_with fail;refine cS1.mono ?_;rintro e w2 hP;obtain⟨v1,rfl,u2,h1⟩:=hP.has;have cJ:=HJ.out w2 u2;have H1:=Lib.hid h1;have U2:=Lib.hid u2;clear h1 u2 hP cS1;go_wp2_with fail;refine cJ.mono ?_;rintro e w3 ⟨rfl,u3⟩;have cS2:=HS2.out w3 (U2.out.trans u3);have U23:=Lib.hid u3;have U3:=Lib.hid (U2.out.trans u3);clear u3 cJ HS2 HJ;go_wp2_with fail;rw[zMf];refine cS2.mono ?_;rintro e w4 hP;obtain⟨v2,rfl,u4,h2⟩:=hP.has;have H2:=Lib.hid h2;have U4:=Lib.hid (U3.out.trans u4);have UW:=Lib.hid (HU.out.trans (U3.out.trans u4));have U24:=Lib.hid u4;have H14:Hid (HasT w4 v1 o1):=Lib.hid (H1.out.up (U23.out.trans u4));clear h2 u4 hP cS2
    by_cases hfg:f=g
    ·subst hfg
     have ho:=HFG.out.1 rfl;have cM:=uSame o1 o2 (W:=w4) (w:=w4) H14.out H2.out (by have:=HZ1.out;omega) true ⟨fun _=>ho.symm,fun _=>rfl⟩ (Up.refl _);clear ho HFG;go_wp2_with fail;refine cM.mono ?_;rintro e w5 ⟨rfl,u5⟩;have cW:=fC HX.out (UW.out.trans u5);clear u5 cM;go_wp2_with fail;refine cW.mono ?_;rintro e w6 ⟨rfl,u6⟩;go_wp2_with fail
     go_ret
     exact jU rfl u6
    ·have hg:=HFG.out.2 hfg
     subst hg;have cW:=fC HX.out UW.out;clear HFG;go_wp2_with fail;refine cW.mono ?_;rintro e w6 ⟨rfl,u6⟩;go_wp2_with fail
     go_ret
     exact jU rfl u6
 ·have cW:=fC HX.out u1
  clear ht hb1 cL;go_wp2_with fail;refine cW.mono ?_;rintro e w5 ⟨rfl,u5⟩;go_wp2_with fail
  go_ret
  exact jU rfl u5
end Go.Proofs.YtnjgnbofcbhngaaGreatDoor
