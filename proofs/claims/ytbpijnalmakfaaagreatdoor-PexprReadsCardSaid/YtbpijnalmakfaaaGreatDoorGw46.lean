/-
  Trees in memory: what lies there reads as a tree.
-/
import Derived.Test.YtbpijnalmakfaaaGreatDoorGw32
set_option maxHeartbeats 40000000
set_option maxRecDepth 100000
namespace Go.Proofs.YtbpijnalmakfaaaGreatDoor
open Go.RowKit
theorem InT.drew {w:World} {S:Nat→Prop} {v:Value} {t:Tr} (h:InT w S v t) (q:Nat):InT (w.drewN q) S v t:=h.keep (fun _ h=>h) fun _ _=>rfl
theorem zYu {P:Program} {f:FuncId} {args:Array Value} {w:World} {q x:Nat} {v:Value} (h:Calls P f args (w.drewN (q+x)) fun e w'=>e = .returned v∧∃m,w'=(w.drewN (q+x)).drewN m) :
  Calls P f args (w.drewN (q+x)) fun e w''=>e = .returned v∧∃n,w''=w.drewN (q+n):=h.mono fun _ _ ⟨he,m,hm⟩=>⟨he,x+m,by rw[hm,World.drewN_drewN,Nat.add_assoc]⟩
theorem zNu:∀(n:Nat) (t u:Tr),szT t≤n→n≤1000000000→∀(w:World) (Sq Sq':Nat→Prop) (v v':Value),InT w Sq v t→InT w Sq' v' u→∀b:Bool,(b=true↔t=u)→
  Calls Tryz.prog 12 #[v,v'] w (zQ9 b w)
 | 0,t,_,h,_,_,_,_,_,_,_,_,_,_=>absurd h (by unfold szT;omega)
 | n+1,(x,ks),(y,ls),hn,hbig,w,Sq,Sq',v,v',hin,hin',ANS,hans=>by
  have ih:=zNu n;obtain⟨q,p,A,c,rfl,hq1,c0,c1,c2,c3,c4,hc,hkid⟩:=hin.open;obtain⟨q',p',A',c',rfl,hq1',c0',c1',c2',c3',c4',hc',hkid'⟩:=hin'.open;have HA:=Lib.hid hans;have HK:=Lib.hid hkid;have HK':=Lib.hid hkid';have hsz:szT (x,ks)=1+ks.sz:=rfl;have hll:=Fr.len_le ks;obtain⟨S,hS⟩:∃S,szT (x,ks)=S:=⟨_,rfl⟩;rw[hS] at hn hsz;obtain⟨N,hN⟩:∃N,ks.len=N:=⟨_,rfl⟩;obtain⟨M,hM⟩:∃M,ls.len=M:=⟨_,rfl⟩;rw[hN] at c4 hll;rw[hM] at c4';have hN1:N≤1000000000:=by omega
  have HNN:=Lib.hid hN;have HMM:=Lib.hid hM;have HSZ:=Lib.hid hsz;clear hin hin' hkid hkid' hS hc hc' hN hM hsz hans
  by_cases d0:x.k=y.k
  ·by_cases d1:x.n=y.n
   ·by_cases d2:x.a=y.a
    ·by_cases d3:x.m=y.m
     ·have HXY:=Lib.hid (zWq d0 d1 d2 d3)
      obtain⟨e0,f0⟩:=xV d0;obtain⟨e1,f1⟩:=xV d1;obtain⟨e2,f2⟩:=sN d2;obtain⟨e3,f3⟩:=sN d3;clear d0 d1 d2 d3
      by_cases d4:N=M
      ·subst d4
       go_enter Tryz.func12,Tryz.ntmps12
       go_wp2_with fail
       go_quiet (fail)
       go_wp2_with fail
       go_loopw [5] (fun i wr=>∃(k:Nat) (done r1 r2:Fr),i = .int .i64 k∧k=done.len∧ks=done.app r1∧ls=done.app r2∧Kid w Sq A r1 k∧Kid w Sq' A' r2 k∧∃q,wr=w.drewN q) (fun i _=>N-(intOf i).toNat)
       case atStart=>exact⟨0,.nil,ks,ls,rfl,rfl,rfl,rfl,HK.out,HK'.out,_,rfl⟩
       case round=>
        obtain⟨k,done,r1,r2,rfl,hk,hks,hls,hkid,hkid',qq,rfl⟩:=hrel;have hl:N=done.len+r1.len:=by rw[←HNN.out,hks,Fr.len_app]
        have hl':N=done.len+r2.len:=by rw[←HMM.out,hls,Fr.len_app]
        have hs:ks.sz=done.sz+r1.sz:=by rw[hks,Fr.sz_app]
        have hsz:=HSZ.out;have HKS:=Lib.hid hks;have HLS:=Lib.hid hls
        by_cases hlt:0<r1.len
        ·obtain⟨y1,l1,s1,rfl⟩:=Fr.cut hlt
         obtain⟨y2,l2,s2,rfl⟩:=Fr.cut (f:=r2) (by omega);obtain⟨kb,ko,u1,rfl,hkb,hcell,hu1,hnext⟩:=hkid.next;obtain⟨kb',ko',u2,rfl,hkb',hcell',hu2,hnext'⟩:=hkid'.next;have hyl:szT (y1,l1)=1+l1.sz:=rfl;have hsr:(Fr.cons y1 l1 s1).sz=1+l1.sz+s1.sz:=rfl;have hlr:(Fr.cons y1 l1 s1).len=s1.len+1:=rfl;have cI:=fun m b hb=>ih (y1,l1) (y2,l2) (by omega) (by omega) (w.drewN m) Sq Sq' u1 u2 (hu1.drew m) (hu2.drew m) b hb
         have HN:=Lib.hid hnext;have HN':=Lib.hid hnext';have hkN:k<N:=by omega
         have hkz:(k:Int)<(N:Int):=by omega
         have HK1:=Lib.hid hk;clear hkid hkid' hnext hnext' hu1 hu2 hks hls ih hk hl hl' hs hlr hsr hsz hyl
         by_cases heq:((y1,l1):Tr)=(y2,l2)
         ·have cI:=fun m=>cI m true ⟨fun _=>heq,fun _=>rfl⟩
          have HEQ:=Lib.hid heq;clear heq;go_wp2_with fail
          go_quiet ((go_at_call 12;exact zYu (cI _)))
          go_wp2_with fail
          go_roundw
          case rel=>exact⟨k+1,done.app (.cons y1 l1 .nil),s1,s2,by go_num,by rw[Fr.len_app,HK1.out];rfl,by rw[HKS.out,Fr.app_cons],by
           rw[HLS.out,Fr.app_cons];have:=HEQ.out;simp only[Prod.mk.injEq] at this;rw[this.1,this.2],HN.out,HN'.out,_,rfl⟩
          case measure=>simp[intOf];omega
         ·have cI:=fun m=>cI m false ⟨fun h=>(by cases h),fun h=>absurd h heq⟩
          have HE:Hid (ANS=false):=Lib.hid (yM HA.out fun e=>heq (by
           have e2:=(Prod.mk.inj e).2;rw[HKS.out,HLS.out] at e2;have e3:=Fr.app_inj done e2;simp only[Fr.cons.injEq] at e3;rw[e3.1,e3.2.1]))
          clear heq;go_wp2_with fail
          go_quiet ((go_at_call 12;exact zYu (cI _)))
          go_wp2_with fail
          go_ret
          exact vE HE.out ⟨_,World.drewN_drewN _ _ _⟩
        ·have h1:r1 = .nil:=by
          cases r1 with
          | nil=>rfl
          | cons y l r=>exact absurd (Nat.succ_pos _) hlt
         subst h1;have hl1:N=done.len:=by simpa [Fr.len] using hl
         have h2:r2 = .nil:=by
          cases r2 with
          | nil=>rfl
          | cons y l r=>simp only[Fr.len] at hl';omega
         subst h2;have hkz:¬(k:Int)<(N:Int):=by omega
         have HE:Hid (ANS=true):=Lib.hid (zTk HA.out (by rw[HXY.out,HKS.out,HLS.out]));clear hkid hkid' hks hls ih hk hl hl' hl1 hs hsz;go_wp2_with fail
         go_ret
         exact vE HE.out ⟨_,rfl⟩
      ·have e4:((N:Int)==(M:Int))=false:=by rw[beq_eq_false_iff_ne];omega
       have f4:((N:Int) != (M:Int))=true:=by rw[bne_iff_ne];omega
       have HE:Hid (ANS=false):=Lib.hid (yM HA.out fun e=>d4 (by rw[←HNN.out,←HMM.out,(Prod.mk.inj e).2]))
       go_enter Tryz.func12,Tryz.ntmps12
       go_wp2_with fail
       go_quiet (fail)
       go_wp2_with fail
       go_ret
       exact vE HE.out ⟨_,rfl⟩
     ·obtain⟨e0,f0⟩:=xV d0
      obtain⟨e1,f1⟩:=xV d1;obtain⟨e2,f2⟩:=sN d2;obtain⟨e3,f3⟩:=iZ d3;have HE:Hid (ANS=false):=Lib.hid (yM HA.out fun e=>d3 (by rw[(Prod.mk.inj e).1]));clear d0 d1 d2 d3
      go_enter Tryz.func12,Tryz.ntmps12
      go_wp2_with fail
      go_quiet (fail)
      go_wp2_with fail
      go_ret
      exact vE HE.out ⟨_,rfl⟩
    ·obtain⟨e0,f0⟩:=xV d0
     obtain⟨e1,f1⟩:=xV d1;obtain⟨e2,f2⟩:=iZ d2;have HE:Hid (ANS=false):=Lib.hid (yM HA.out fun e=>d2 (by rw[(Prod.mk.inj e).1]));clear d0 d1 d2
     go_enter Tryz.func12,Tryz.ntmps12
     go_wp2_with fail
     go_quiet (fail)
     go_wp2_with fail
     go_ret
     exact vE HE.out ⟨_,rfl⟩
   ·obtain⟨e0,f0⟩:=xV d0
    obtain⟨e1,f1⟩:=zWp d1;have HE:Hid (ANS=false):=Lib.hid (yM HA.out fun e=>d1 (by rw[(Prod.mk.inj e).1]));clear d0 d1
    go_enter Tryz.func12,Tryz.ntmps12
    go_wp2_with fail
    go_quiet (fail)
    go_wp2_with fail
    go_ret
    exact vE HE.out ⟨_,rfl⟩
  ·obtain⟨e0,f0⟩:=zWp d0
   have HE:Hid (ANS=false):=Lib.hid (yM HA.out fun e=>d0 (by rw[(Prod.mk.inj e).1]));clear d0
   go_enter Tryz.func12,Tryz.ntmps12
   go_wp2_with fail
   go_quiet (fail)
   go_wp2_with fail
   go_ret
   exact vE HE.out ⟨_,rfl⟩
theorem zDc (t u:Option Tr) (w:World) (Sq Sq':Nat→Prop) (v v':Value) (h:InO w Sq v t) (h':InO w Sq' v' u) (ht:szO t≤1000000000) (b:Bool) (hb:b=true↔t=u) :
  Calls Tryz.prog 12 #[v,v'] w (zQ9 b w):=by
 cases t with
 | none=>
  have hv:v = .pointer none:=h;subst hv
  cases u with
  | none=>
   have hv:v' = .pointer none:=h';subst hv;have HE:Hid (b=true):=Lib.hid (hb.2 rfl);clear hb h h'
   go_enter Tryz.func12,Tryz.ntmps12
   go_wp2_with fail
   go_ret
   exact vE HE.out ⟨0,rfl⟩
  | some u=>
   obtain⟨q,p,rfl⟩:=InT.ptr h';have HE:Hid (b=false):=Lib.hid (yM hb (by simp));clear hb h h'
   go_enter Tryz.func12,Tryz.ntmps12
   go_wp2_with fail
   go_ret
   exact vE HE.out ⟨0,rfl⟩
 | some t=>
  cases u with
  | none=>
   have hv:v' = .pointer none:=h';subst hv;obtain⟨q,p,rfl⟩:=InT.ptr h;have HE:Hid (b=false):=Lib.hid (yM hb (by simp));clear hb h h'
   go_enter Tryz.func12,Tryz.ntmps12
   go_wp2_with fail
   go_ret
   exact vE HE.out ⟨0,rfl⟩
  | some u=>exact zNu (szT t) t u (Nat.le_refl _) ht w Sq Sq' v v' h h' b (by rw[hb];simp)
end Go.Proofs.YtbpijnalmakfaaaGreatDoor
