/-
  Trees in memory: what lies there reads as a tree.
-/
import Derived.Test.YtbpijnalmakfaaaGreatDoorGs08
import Derived.Test.YtbpijnalmakfaaaGreatDoorGs38
set_option maxHeartbeats 40000000
set_option maxRecDepth 100000
namespace Go.Proofs.YtbpijnalmakfaaaGreatDoor
open Go.RowKit
theorem InT.drew {w:World} {S:Nat→Prop} {v:Value} {t:Tr} (h:InT w S v t) (q:Nat):InT (w.drewN q) S v t:=h.keep (fun _ h=>h) fun _ _=>rfl
theorem zYc {P:Program} {f:FuncId} {args:Array Value} {w:World} {q x:Nat} {v:Value} (h:Calls P f args (w.drewN (q+x)) fun e w'=>e = .returned v∧∃m,w'=(w.drewN (q+x)).drewN m) :
  Calls P f args (w.drewN (q+x)) fun e w''=>e = .returned v∧∃n,w''=w.drewN (q+n):=h.mono fun _ _ ⟨he,m,hm⟩=>⟨he,x+m,by rw[hm,World.drewN_drewN,Nat.add_assoc]⟩
theorem zNf:∀(n:Nat) (t u:Tr),szT t≤n→n≤1000000000→∀(w:World) (Sq Sq':Nat→Prop) (v v':Value),InT w Sq v t→InT w Sq' v' u→∀b:Bool,(b=true↔t=u)→
  Calls Tryz.prog 12 #[v,v'] w (zRz b w)
 | 0,t,_,h,_,_,_,_,_,_,_,_,_,_=>absurd h (by unfold szT;omega)
 | n+1,(x,ks),(y,ls),hn,hbig,w,Sq,Sq',v,v',hin,hin',ANS,hans=>by
  have ih:=zNf n;obtain⟨q,p,A,c,rfl,hq1,c0,c1,c2,c3,c4,hc,hkid⟩:=hin.open;obtain⟨q',p',A',c',rfl,hq1',c0',c1',c2',c3',c4',hc',hkid'⟩:=hin'.open;have HA:=Lib.hid hans;have HK:=Lib.hid hkid;have HK':=Lib.hid hkid';have hsz:szT (x,ks)=1+ks.sz:=rfl;have hll:=Fr.len_le ks;obtain⟨S,hS⟩:∃S,szT (x,ks)=S:=⟨_,rfl⟩;rw[hS] at hn hsz;obtain⟨N,hN⟩:∃N,ks.len=N:=⟨_,rfl⟩;obtain⟨M,hM⟩:∃M,ls.len=M:=⟨_,rfl⟩;rw[hN] at c4 hll;rw[hM] at c4';have hN1:N≤1000000000:=by omega
  have HNN:=Lib.hid hN;have HMM:=Lib.hid hM;have HSZ:=Lib.hid hsz;clear hin hin' hkid hkid' hS hc hc' hN hM hsz hans
  by_cases d0:x.k=y.k
  ·by_cases d1:x.n=y.n
   ·by_cases d2:x.a=y.a
    ·by_cases d3:x.m=y.m
     ·have HXY:=Lib.hid (zW1 d0 d1 d2 d3)
      obtain⟨e0,f0⟩:=xY d0;obtain⟨e1,f1⟩:=xY d1;obtain⟨e2,f2⟩:=sH d2;obtain⟨e3,f3⟩:=sH d3;clear d0 d1 d2 d3
      by_cases d4:N=M
      ·subst d4
       go_enter Tryz.func12,Tryz.ntmps12
       go_wp2_with fail
       go_quiet (fail)
       go_wp2_with fail
       go_loopw [5] (fun i wr=>∃(k:Nat) (done r1 r2:Fr),i = .int .i64 k∧k=done.len∧ks=done.app r1∧ls=done.app r2∧Kid w Sq A r1 k∧Kid w Sq' A' r2 k∧∃q,wr=w.drewN q) (fun i _=>N-(intOf i).toNat)
       case atStart=>exact⟨0,.nil,ks,ls,rfl,rfl,rfl,rfl,HK.out,HK'.out,_,rfl⟩
       case round=>
        obtain⟨k,done,r1,r2,rfl,hk,hks,hls,hkid,hkid',qq,rfl⟩:=hrel;have hl:N=done.len+r1.len:=by rw[←HNN.out,hks,Fr.len_app]
        have hl':N=done.len+r2.len:=by rw[←HMM.out,hls,Fr.len_app]
        have hs:ks.sz=done.sz+r1.sz:=by rw[hks,Fr.sz_app]
        have hsz:=HSZ.out;have HKS:=Lib.hid hks;have HLS:=Lib.hid hls
        by_cases hlt:0<r1.len
        ·obtain⟨y1,l1,s1,rfl⟩:=Fr.cut hlt
         obtain⟨y2,l2,s2,rfl⟩:=Fr.cut (f:=r2) (by omega);obtain⟨kb,ko,u1,rfl,hkb,hcell,hu1,hnext⟩:=hkid.next;obtain⟨kb',ko',u2,rfl,hkb',hcell',hu2,hnext'⟩:=hkid'.next;have hyl:szT (y1,l1)=1+l1.sz:=rfl;have hsr:(Fr.cons y1 l1 s1).sz=1+l1.sz+s1.sz:=rfl;have hlr:(Fr.cons y1 l1 s1).len=s1.len+1:=rfl;have cI:=fun m b hb=>ih (y1,l1) (y2,l2) (by omega) (by omega) (w.drewN m) Sq Sq' u1 u2 (hu1.drew m) (hu2.drew m) b hb
         have HN:=Lib.hid hnext;have HN':=Lib.hid hnext';have hkN:k<N:=by omega
         have hkz:(k:Int)<(N:Int):=by omega
         have HK1:=Lib.hid hk;clear hkid hkid' hnext hnext' hu1 hu2 hks hls ih hk hl hl' hs hlr hsr hsz hyl
         by_cases heq:((y1,l1):Tr)=(y2,l2)
         ·have cI:=fun m=>cI m true ⟨fun _=>heq,fun _=>rfl⟩
          have HEQ:=Lib.hid heq;clear heq;go_wp2_with fail
          go_quiet ((go_at_call 12;exact zYc (cI _)))
          go_wp2_with fail
          go_roundw
          case rel=>exact⟨k+1,done.app (.cons y1 l1 .nil),s1,s2,by go_num,by rw[Fr.len_app,HK1.out];rfl,by rw[HKS.out,Fr.app_cons],by
           rw[HLS.out,Fr.app_cons];have:=HEQ.out;simp only[Prod.mk.injEq] at this;rw[this.1,this.2],HN.out,HN'.out,_,rfl⟩
          case measure=>simp[intOf];omega
         ·have cI:=fun m=>cI m false ⟨fun h=>(by cases h),fun h=>absurd h heq⟩
          have HE:Hid (ANS=false):=Lib.hid (yS HA.out fun e=>heq (by
           have e2:=(Prod.mk.inj e).2;rw[HKS.out,HLS.out] at e2;have e3:=Fr.app_inj done e2;simp only[Fr.cons.injEq] at e3;rw[e3.1,e3.2.1]))
          clear heq;go_wp2_with fail
          go_quiet ((go_at_call 12;exact zYc (cI _)))
          go_wp2_with fail
          go_ret
          exact vK HE.out ⟨_,World.drewN_drewN _ _ _⟩
        ·have h1:r1 = .nil:=by
          cases r1 with
          | nil=>rfl
          | cons y l r=>exact absurd (Nat.succ_pos _) hlt
         subst h1;have hl1:N=done.len:=by simpa [Fr.len] using hl
         have h2:r2 = .nil:=by
          cases r2 with
          | nil=>rfl
          | cons y l r=>simp only[Fr.len] at hl';omega
         subst h2;have hkz:¬(k:Int)<(N:Int):=by omega
         have HE:Hid (ANS=true):=Lib.hid (zT6 HA.out (by rw[HXY.out,HKS.out,HLS.out]));clear hkid hkid' hks hls ih hk hl hl' hl1 hs hsz;go_wp2_with fail
         go_ret
         exact vK HE.out ⟨_,rfl⟩
      ·have e4:((N:Int)==(M:Int))=false:=by rw[beq_eq_false_iff_ne];omega
       have f4:((N:Int) != (M:Int))=true:=by rw[bne_iff_ne];omega
       have HE:Hid (ANS=false):=Lib.hid (yS HA.out fun e=>d4 (by rw[←HNN.out,←HMM.out,(Prod.mk.inj e).2]))
       go_enter Tryz.func12,Tryz.ntmps12
       go_wp2_with fail
       go_quiet (fail)
       go_wp2_with fail
       go_ret
       exact vK HE.out ⟨_,rfl⟩
     ·obtain⟨e0,f0⟩:=xY d0
      obtain⟨e1,f1⟩:=xY d1;obtain⟨e2,f2⟩:=sH d2;obtain⟨e3,f3⟩:=iL d3;have HE:Hid (ANS=false):=Lib.hid (yS HA.out fun e=>d3 (by rw[(Prod.mk.inj e).1]));clear d0 d1 d2 d3
      go_enter Tryz.func12,Tryz.ntmps12
      go_wp2_with fail
      go_quiet (fail)
      go_wp2_with fail
      go_ret
      exact vK HE.out ⟨_,rfl⟩
    ·obtain⟨e0,f0⟩:=xY d0
     obtain⟨e1,f1⟩:=xY d1;obtain⟨e2,f2⟩:=iL d2;have HE:Hid (ANS=false):=Lib.hid (yS HA.out fun e=>d2 (by rw[(Prod.mk.inj e).1]));clear d0 d1 d2
     go_enter Tryz.func12,Tryz.ntmps12
     go_wp2_with fail
     go_quiet (fail)
     go_wp2_with fail
     go_ret
     exact vK HE.out ⟨_,rfl⟩
   ·obtain⟨e0,f0⟩:=xY d0
    obtain⟨e1,f1⟩:=zW0 d1;have HE:Hid (ANS=false):=Lib.hid (yS HA.out fun e=>d1 (by rw[(Prod.mk.inj e).1]));clear d0 d1
    go_enter Tryz.func12,Tryz.ntmps12
    go_wp2_with fail
    go_quiet (fail)
    go_wp2_with fail
    go_ret
    exact vK HE.out ⟨_,rfl⟩
  ·obtain⟨e0,f0⟩:=zW0 d0
   have HE:Hid (ANS=false):=Lib.hid (yS HA.out fun e=>d0 (by rw[(Prod.mk.inj e).1]));clear d0
   go_enter Tryz.func12,Tryz.ntmps12
   go_wp2_with fail
   go_quiet (fail)
   go_wp2_with fail
   go_ret
   exact vK HE.out ⟨_,rfl⟩
theorem zD5 (t u:Option Tr) (w:World) (Sq Sq':Nat→Prop) (v v':Value) (h:InO w Sq v t) (h':InO w Sq' v' u) (ht:szO t≤1000000000) (b:Bool) (hb:b=true↔t=u) :
  Calls Tryz.prog 12 #[v,v'] w (zRz b w):=by
 cases t with
 | none=>
  have hv:v = .pointer none:=h;subst hv
  cases u with
  | none=>
   have hv:v' = .pointer none:=h';subst hv;have HE:Hid (b=true):=Lib.hid (hb.2 rfl);clear hb h h'
   go_enter Tryz.func12,Tryz.ntmps12
   go_wp2_with fail
   go_ret
   exact vK HE.out ⟨0,rfl⟩
  | some u=>
   obtain⟨q,p,rfl⟩:=InT.ptr h';have HE:Hid (b=false):=Lib.hid (yS hb (by simp));clear hb h h'
   go_enter Tryz.func12,Tryz.ntmps12
   go_wp2_with fail
   go_ret
   exact vK HE.out ⟨0,rfl⟩
 | some t=>
  cases u with
  | none=>
   have hv:v' = .pointer none:=h';subst hv;obtain⟨q,p,rfl⟩:=InT.ptr h;have HE:Hid (b=false):=Lib.hid (yS hb (by simp));clear hb h h'
   go_enter Tryz.func12,Tryz.ntmps12
   go_wp2_with fail
   go_ret
   exact vK HE.out ⟨0,rfl⟩
  | some u=>exact zNf (szT t) t u (Nat.le_refl _) ht w Sq Sq' v v' h h' b (by rw[hb];simp)
theorem vL (l:List Tk) (i:Int) (x:ByteArray) (w:World) (v:Value) (hv:Tkm w v l) :
  Calls Tryz.prog 57 #[v,.int .i64 i,.string x] w (BoU (keyZ l i x) w):=by
 obtain⟨A,c,rfl,hc⟩:=hv;obtain⟨n,hn⟩:∃n,l.length=n:=⟨_,rfl⟩;rw[hn]
 by_cases h0:0≤i
 ·obtain⟨k,rfl⟩:=Int.eq_ofNat_of_zero_le h0
  by_cases hk:k<n
  ·obtain⟨t,ht⟩:∃t,l[k]? = some t:=⟨_,List.getElem?_eq_getElem (by rw[hn];exact hk)⟩
   obtain⟨b,o,rfl,hb,c0,c1⟩:=hc k t ht;have hki:(k:Int)<(n:Int):=by omega
   have HE:Hid (keyZ l (k:Int) x=(decide (t.k=3)&&decide (t.s=x))):=Lib.hid (by unfold keyZ;rw[decide_eq_true h0,Int.toNat_natCast];unfold key;rw[ht];rfl);rw[HE.out];clear hc ht hn HE
   by_cases h3:t.k=3
   ·rw[decide_eq_true h3,Bool.true_and]
    go_enter Tryz.func57,Tryz.ntmps57
    go_wp2_with fail
    go_ret
    exact kM (iP _ _).symm (Up.refl _)
   ·rw[decide_eq_false h3,Bool.false_and]
    go_enter Tryz.func57,Tryz.ntmps57
    go_wp2_with fail
    go_ret
    exact kM rfl (Up.refl _)
  ·have hki:¬(k:Int)<(n:Int):=by omega
   have HE:Hid (keyZ l (k:Int) x=false):=Lib.hid (by unfold keyZ;rw[Int.toNat_natCast,yO (by omega),Bool.and_false]);rw[HE.out]
   go_enter Tryz.func57,Tryz.ntmps57
   go_wp2_with fail
   go_ret
   exact kM rfl (Up.refl _)
 ·have HE:Hid (keyZ l i x=false):=Lib.hid (by unfold keyZ;rw[decide_eq_false h0,Bool.false_and])
  rw[HE.out]
  go_enter Tryz.func57,Tryz.ntmps57
  go_wp2_with fail
  go_ret
  exact kM rfl (Up.refl _)
theorem zTy (l:List Tk) (i:Int) (w:World) (v:Value) (hv:Tkm w v l) (hz:∀t∈l,t.s.size≤1000000000) :
  Calls Tryz.prog 252 #[v,.int .i64 i] w (NaP (namZ B.long l i) w):=by
 obtain⟨A,c,rfl,hc⟩:=hv;obtain⟨n,hn⟩:∃n,l.length=n:=⟨_,rfl⟩;rw[hn]
 by_cases h0:0≤i
 ·obtain⟨k,rfl⟩:=Int.eq_ofNat_of_zero_le h0
  by_cases hk:k<n
  ·obtain⟨t,ht⟩:∃t,l[k]? = some t:=⟨_,List.getElem?_eq_getElem (by rw[hn];exact hk)⟩
   obtain⟨b,o,rfl,hb,c0,c1⟩:=hc k t ht;have hki:(k:Int)<(n:Int):=by omega
   have cC:=B.zPb t.s w (hz t (List.mem_of_getElem? ht));obtain⟨p,hp⟩:∃p,B.long t.s=p:=⟨_,rfl⟩;rw[hp] at cC;have HE:Hid (namZ B.long l (k:Int)=if decide (t.k=1)&&p then some t.s else none):=Lib.hid (by unfold namZ;rw[if_pos h0,Int.toNat_natCast];unfold nam;rw[ht,←hp]);rw[HE.out];clear hc ht hn HE hp hz
   by_cases h3:t.k=1
   ·rw[decide_eq_true h3,Bool.true_and]
    cases p
    ·go_enter Tryz.func252,Tryz.ntmps252
     go_wp2_with fail;refine cC.mono ?_;rintro e w1 ⟨rfl,u1⟩;go_wp2_with fail
     go_ret2
     exact⟨rfl,u1⟩
    ·go_enter Tryz.func252,Tryz.ntmps252
     go_wp2_with fail;refine cC.mono ?_;rintro e w1 ⟨rfl,u1⟩;have c1':=(show Up w w1 from u1).cell c1;go_wp2_with fail
     go_ret2
     exact⟨rfl,u1⟩
   ·rw[decide_eq_false h3,Bool.false_and]
    go_enter Tryz.func252,Tryz.ntmps252
    go_wp2_with fail
    go_ret2
    exact⟨rfl,Up.refl _⟩
  ·have hki:¬(k:Int)<(n:Int):=by omega
   have HE:Hid (namZ B.long l (k:Int)=none):=Lib.hid (by unfold namZ;rw[if_pos h0,Int.toNat_natCast,nW (by omega)]);rw[HE.out]
   go_enter Tryz.func252,Tryz.ntmps252
   go_wp2_with fail
   go_ret2
   exact⟨rfl,Up.refl _⟩
 ·have HE:Hid (namZ B.long l i=none):=Lib.hid (by unfold namZ;rw[if_neg h0])
  rw[HE.out]
  go_enter Tryz.func252,Tryz.ntmps252
  go_wp2_with fail
  go_ret2
  exact⟨rfl,Up.refl _⟩
theorem yI (k:Int) (a:ByteArray) (A:Option Addr) (n c:Nat) (w:World) :
  Calls Tryz.prog 61 #[.int .i64 k,.string a,.slice A n c] w fun e w'=>e = .returned (.pointer (some ⟨w.heap.size,0,none⟩))∧w'=w.alloc (.cells #[.int .i64 k,.int .i64 0,.string a,.string ⟨#[]⟩,.slice A n c] 57):=by
 go_enter Tryz.func61,Tryz.ntmps61
 go_wp2_with fail
 go_ret
 exact⟨rfl,rfl⟩
section
variable {nk lg:ByteArray→Bool}
end
def RsV (R:Rs Tr) (w w':World) (v:Value) (j e:Int):Prop:=match R with
 | .inl (t,q)=>NewT w w' v t∧j=(q:Int)∧e=0
 | .inr (p,r)=>j=(p:Int)∧e=r∧∃A,v = .pointer A
def qO (R:Rs Tr) (w:World) (e:Ending) (w':World):Prop:=∃v j er,e = .returned (.tuple #[v,.int .i64 j,.int .i64 er])∧RsV R w w' v j er∧Up w w'
theorem zNg {W w:World} {va vb:Value} {a b:Tr} {k:Int} (hW:W.heap.size≤w.heap.size) (ha:NewT W w va a) (hb:NewT W w vb b) :
  NewT W ((w.alloc (.cells #[va,vb] 24)).alloc (.cells #[.int .i64 k,.int .i64 0,.string nob,.string ⟨#[]⟩,.slice (some ⟨w.heap.size,0,none⟩) 2 2] 57)) (.pointer (some ⟨w.heap.size+1,0,none⟩)) (nd k nob (fr2 a b)):=by
 have e1:(w.alloc (.cells #[va,vb] 24)).heap.size=w.heap.size+1:=by simp
 rw[←e1];obtain⟨W1,hW1⟩:∃W1,w.alloc (.cells #[va,vb] 24)=W1:=⟨_,rfl⟩;have s1:W1.heap[w.heap.size]? = some (.cells #[va,vb] 24 (0,0)):=by rw[←hW1];exact heap_alloc_new w _
 have u1:Up w W1:=by rw[←hW1];exact(Up.refl w).alloc _
 have z1:=u1.size;rw[hW1];obtain⟨W2,hW2⟩:∃W2,W1.alloc (.cells #[.int .i64 k,.int .i64 0,.string nob,.string ⟨#[]⟩,.slice (some ⟨w.heap.size,0,none⟩) 2 2] 57)=W2:=⟨_,rfl⟩;have s2:W2.heap[W1.heap.size]? = some (.cells #[.int .i64 k,.int .i64 0,.string nob,.string ⟨#[]⟩,.slice (some ⟨w.heap.size,0,none⟩) 2 2] 57 (0,0)):=by rw[←hW2];exact heap_alloc_new W1 _
 have u2:Up W1 W2:=by rw[←hW2];exact(Up.refl W1).alloc _
 have s3:W2.heap[w.heap.size]? = some (.cells #[va,vb] 24 (0,0)):=u2.row s1;rw[hW2];exact yX (x:=⟨k,0,nob,nob⟩) (f:=fr2 a b) s2 rfl (Nat.le_refl _) ⟨by omega,qC s2⟩ ⟨hW,qC s3⟩ ⟨⟨_,cell_of_row W2 w.heap.size 0 _ _ _ s3,ha.up (u1.trans u2)⟩,⟨_,cell_of_row W2 w.heap.size 1 _ _ _ s3,hb.up (u1.trans u2)⟩,trivial⟩
theorem yZm (l:List Tk) (i:Nat) (hi:i≤l.length) (hl:l.length≤1000000) (w:World) (v:Value) (hv:Tkm w v l)
  (cP:∀w',Up w w'→Calls Tryz.prog 199 #[v,.int .i64 (i:Int)] w' (qO (prodL B.nck B.long l i) w'))
  (cT:∀j,i<j→j≤l.length→∀w',Up w w'→Calls Tryz.prog 174 #[v,.int .i64 (j:Int)] w' (qO (typL B.nck B.long l j) w')) :
  Calls Tryz.prog 174 #[v,.int .i64 (i:Int)] w (qO (typL B.nck B.long l i) w):=by
 have HV:=Lib.hid hv;have HT:=Lib.hid cT;have hp:=cP w (Up.refl w);have hst:=zVu (nk:=B.nck) (lg:=B.long) l i hi;have hah:=fH (nk:=B.nck) (lg:=B.long) l i;have HE:=Lib.hid (aF (nk:=B.nck) (lg:=B.long) l i);rw[HE.out]
 cases hP:prodL B.nck B.long l i with
 | inr e=>
  obtain⟨p,er⟩:=e;rw[hP] at hp hst;obtain⟨hpl,her⟩:=hst;have hne:¬er=0:=her p er rfl;have hpl:p≤l.length:=hpl;clear hah hP cP cT hv HE
  go_enter Tryz.func174,Tryz.ntmps174
  go_wp2_with fail;refine hp.mono ?_;rintro e w1 ⟨va,ja,ea,rfl,⟨rfl,rfl,A1,rfl⟩,u1⟩;go_wp2_with fail
  go_ret3
  exact⟨_,_,_,rfl,⟨rfl,rfl,A1,rfl⟩,u1⟩
 | inl r=>
  obtain⟨a,j⟩:=r;rw[hP] at hp hst hah;have hjl:j≤l.length:=hst.1;have hij:i<j:=hah;have cK:=fun(W:World) (u:Up w W)=>vL l (j:Int) zM W v (HV.out.up u)
  have hkz:keyZ l (j:Int) zM=key l j zM:=by unfold keyZ;rw[decide_eq_true (by omega),Int.toNat_natCast,Bool.true_and]
  rw[hkz] at cK;have HS:Hid (typS zM 5 l (.inl (a,j)) (typL B.nck B.long l)=if key l j zM then (match typL B.nck B.long l (j+1) with
   | .inr e=>.inr e
   | .inl (b,q)=>.inl (nd 5 nob (fr2 a b),q)) else .inl (a,j)):=Lib.hid rfl
  rw[HS.out]
  cases hk:key l j zM with
  | false=>
   rw[hk] at cK;rw[if_neg (by decide)];clear hah hP hst cP cT hv HE HS hkz
   go_enter Tryz.func174,Tryz.ntmps174
   go_wp2_with fail;refine hp.mono ?_;rintro e w1 ⟨va,ja,ea,rfl,⟨h1,rfl,rfl⟩,u1⟩;go_wp2_with fail;refine(cK w1 u1).mono ?_;rintro e w2 ⟨rfl,u2⟩;go_wp2_with fail
   go_ret3
   exact⟨_,_,_,rfl,⟨h1.up u2,rfl,rfl⟩,u1.trans u2⟩
  | true=>
   rw[hk] at cK;rw[if_pos rfl];have hlt:=yN hk;have cB:=HT.out (j+1) (by omega) (by omega);clear hah hP hst cP cT hv HE HS hkz
   cases hB:typL B.nck B.long l (j+1) with
   | inr e=>
    obtain⟨p,er⟩:=e;rw[hB] at cB;clear hB
    go_enter Tryz.func174,Tryz.ntmps174
    go_wp2_with fail;refine hp.mono ?_;rintro e w1 ⟨va,ja,ea,rfl,⟨h1,rfl,rfl⟩,u1⟩;obtain⟨q1,o1,rfl⟩:=InT.ptr h1;go_wp2_with fail;refine(cK w1 u1).mono ?_;rintro e w2 ⟨rfl,u2⟩;go_wp2_with fail;refine(cB w2 (u1.trans u2)).mono ?_;rintro e w3 ⟨vb,jb,eb,rfl,⟨rfl,rfl,A2,rfl⟩,u3⟩;go_wp2_with fail;refine(yI 5 nob _ _ _ _).mono ?_;rintro e w4 ⟨rfl,rfl⟩;go_wp2_with fail
    go_ret3
    exact⟨_,_,_,rfl,⟨rfl,rfl,_,rfl⟩,((((u1.trans u2).trans u3).alloc _).alloc _)⟩
   | inl r=>
    obtain⟨b,q⟩:=r;rw[hB] at cB;clear hB
    go_enter Tryz.func174,Tryz.ntmps174
    go_wp2_with fail;refine hp.mono ?_;rintro e w1 ⟨va,ja,ea,rfl,⟨h1,rfl,rfl⟩,u1⟩;obtain⟨q1,o1,rfl⟩:=InT.ptr h1;go_wp2_with fail;refine(cK w1 u1).mono ?_;rintro e w2 ⟨rfl,u2⟩;go_wp2_with fail;refine(cB w2 (u1.trans u2)).mono ?_;rintro e w3 ⟨vb,jb,eb,rfl,⟨h3,rfl,rfl⟩,u3⟩;obtain⟨q2,o2,rfl⟩:=InT.ptr h3;have hn2:=zNg (k:=5) (((u1.trans u2).trans u3).size) (h1.up (u2.trans u3)) (h3.base (u1.trans u2).size);go_wp2_with fail;refine(yI 5 nob _ _ _ _).mono ?_;rintro e w4 ⟨rfl,rfl⟩;go_wp2_with fail
    go_ret3
    exact⟨_,_,_,rfl,⟨hn2,rfl,rfl⟩,((((u1.trans u2).trans u3).alloc _).alloc _)⟩
theorem bP (l:List Tk) (i:Nat) (hi:i≤l.length) (hl:l.length≤1000000) (w:World) (v:Value) (hv:Tkm w v l)
  (cP:∀w',Up w w'→Calls Tryz.prog 227 #[v,.int .i64 (i:Int)] w' (qO (atomL B.nck B.long l i) w'))
  (cT:∀j,i<j→j≤l.length→∀w',Up w w'→Calls Tryz.prog 199 #[v,.int .i64 (j:Int)] w' (qO (prodL B.nck B.long l j) w')) :
  Calls Tryz.prog 199 #[v,.int .i64 (i:Int)] w (qO (prodL B.nck B.long l i) w):=by
 have HV:=Lib.hid hv;have HT:=Lib.hid cT;have hp:=cP w (Up.refl w);have hst:=zVv (nk:=B.nck) (lg:=B.long) l i hi;have hah:=fI (nk:=B.nck) (lg:=B.long) l i;have HE:=Lib.hid (tM (nk:=B.nck) (lg:=B.long) l i);rw[HE.out]
 cases hP:atomL B.nck B.long l i with
 | inr e=>
  obtain⟨p,er⟩:=e;rw[hP] at hp hst;obtain⟨hpl,her⟩:=hst;have hne:¬er=0:=her p er rfl;have hpl:p≤l.length:=hpl;clear hah hP cP cT hv HE
  go_enter Tryz.func199,Tryz.ntmps199
  go_wp2_with fail;refine hp.mono ?_;rintro e w1 ⟨va,ja,ea,rfl,⟨rfl,rfl,A1,rfl⟩,u1⟩;go_wp2_with fail
  go_ret3
  exact⟨_,_,_,rfl,⟨rfl,rfl,A1,rfl⟩,u1⟩
 | inl r=>
  obtain⟨a,j⟩:=r;rw[hP] at hp hst hah;have hjl:j≤l.length:=hst.1;have hij:i<j:=hah;have cK:=fun(W:World) (u:Up w W)=>vL l (j:Int) kStar W v (HV.out.up u)
  have hkz:keyZ l (j:Int) kStar=key l j kStar:=by unfold keyZ;rw[decide_eq_true (by omega),Int.toNat_natCast,Bool.true_and]
  rw[hkz] at cK;have HS:Hid (typS kStar 6 l (.inl (a,j)) (prodL B.nck B.long l)=if key l j kStar then (match prodL B.nck B.long l (j+1) with
   | .inr e=>.inr e
   | .inl (b,q)=>.inl (nd 6 nob (fr2 a b),q)) else .inl (a,j)):=Lib.hid rfl
  rw[HS.out]
  cases hk:key l j kStar with
  | false=>
   rw[hk] at cK;rw[if_neg (by decide)];clear hah hP hst cP cT hv HE HS hkz
   go_enter Tryz.func199,Tryz.ntmps199
   go_wp2_with fail;refine hp.mono ?_;rintro e w1 ⟨va,ja,ea,rfl,⟨h1,rfl,rfl⟩,u1⟩;go_wp2_with fail;refine(cK w1 u1).mono ?_;rintro e w2 ⟨rfl,u2⟩;go_wp2_with fail
   go_ret3
   exact⟨_,_,_,rfl,⟨h1.up u2,rfl,rfl⟩,u1.trans u2⟩
  | true=>
   rw[hk] at cK;rw[if_pos rfl];have hlt:=yN hk;have cB:=HT.out (j+1) (by omega) (by omega);clear hah hP hst cP cT hv HE HS hkz
   cases hB:prodL B.nck B.long l (j+1) with
   | inr e=>
    obtain⟨p,er⟩:=e;rw[hB] at cB;clear hB
    go_enter Tryz.func199,Tryz.ntmps199
    go_wp2_with fail;refine hp.mono ?_;rintro e w1 ⟨va,ja,ea,rfl,⟨h1,rfl,rfl⟩,u1⟩;obtain⟨q1,o1,rfl⟩:=InT.ptr h1;go_wp2_with fail;refine(cK w1 u1).mono ?_;rintro e w2 ⟨rfl,u2⟩;go_wp2_with fail;refine(cB w2 (u1.trans u2)).mono ?_;rintro e w3 ⟨vb,jb,eb,rfl,⟨rfl,rfl,A2,rfl⟩,u3⟩;go_wp2_with fail;refine(yI 6 nob _ _ _ _).mono ?_;rintro e w4 ⟨rfl,rfl⟩;go_wp2_with fail
    go_ret3
    exact⟨_,_,_,rfl,⟨rfl,rfl,_,rfl⟩,((((u1.trans u2).trans u3).alloc _).alloc _)⟩
   | inl r=>
    obtain⟨b,q⟩:=r;rw[hB] at cB;clear hB
    go_enter Tryz.func199,Tryz.ntmps199
    go_wp2_with fail;refine hp.mono ?_;rintro e w1 ⟨va,ja,ea,rfl,⟨h1,rfl,rfl⟩,u1⟩;obtain⟨q1,o1,rfl⟩:=InT.ptr h1;go_wp2_with fail;refine(cK w1 u1).mono ?_;rintro e w2 ⟨rfl,u2⟩;go_wp2_with fail;refine(cB w2 (u1.trans u2)).mono ?_;rintro e w3 ⟨vb,jb,eb,rfl,⟨h3,rfl,rfl⟩,u3⟩;obtain⟨q2,o2,rfl⟩:=InT.ptr h3;have hn2:=zNg (k:=6) (((u1.trans u2).trans u3).size) (h1.up (u2.trans u3)) (h3.base (u1.trans u2).size);go_wp2_with fail;refine(yI 6 nob _ _ _ _).mono ?_;rintro e w4 ⟨rfl,rfl⟩;go_wp2_with fail
    go_ret3
    exact⟨_,_,_,rfl,⟨hn2,rfl,rfl⟩,((((u1.trans u2).trans u3).alloc _).alloc _)⟩
def RcV (R:Rs Fr) (w w':World) (v:Value) (j e:Int):Prop:=match R with
 | .inl (f,q)=>(∃g c,v = .slice (some ⟨g,0,none⟩) f.len c∧f.len≤c∧NewS w w' g∧0<f.len∧InF w' (NewS w w') f g 0)∧j=(q:Int)∧e=0
 | .inr (p,r)=>j=(p:Int)∧e=r∧v = .slice none 0 0
def zWs (R:Rs Fr) (w:World) (e:Ending) (w':World):Prop:=∃v j er,e = .returned (.tuple #[v,.int .i64 j,.int .i64 er])∧RcV R w w' v j er∧Up w w'
theorem lY (k:Int) (s:ByteArray) {W w:World} (h:W.heap.size≤w.heap.size):NewT W (w.alloc (.cells #[.int .i64 k,.int .i64 0,.string s,.string ⟨#[]⟩,.slice none 0 0] 57)) (.pointer (some ⟨w.heap.size,0,none⟩)) (nd k s .nil):=
 nI (x:=⟨k,0,s,nob⟩) (heap_alloc_new w _) ⟨h,qC (heap_alloc_new w _)⟩
theorem zNh {W a w:World} {f:Fr} {g:Nat} (h:W.heap.size≤a.heap.size) {b:World} (u:Up b w) (hg:NewS a b g) (hf:InF b (NewS a b) f g 0):NewS W w g∧InF w (NewS W w) f g 0:=
 ⟨⟨Nat.le_trans h hg.1,Nat.lt_of_lt_of_le hg.2 u.size⟩,InF.keep (fun _ hq=>⟨Nat.le_trans h hq.1,Nat.lt_of_lt_of_le hq.2 u.size⟩) (fun q hq=>Below.block u q hq.2) hg hf⟩
theorem yUz {s:ByteArray} {W w:World} {f:Fr} {g n c:Nat} (hW:W.heap.size≤w.heap.size) (h1:f.len=n) (h2:n≤c) (hg:NewS W w g∧InF w (NewS W w) f g 0) :
  NewT W (w.alloc (.cells #[.int .i64 7,.int .i64 0,.string s,.string ⟨#[]⟩,.slice (some ⟨g,0,none⟩) n c] 57)) (.pointer (some ⟨w.heap.size,0,none⟩)) (nd 7 s f):=by
 have u:Up w (w.alloc (.cells #[.int .i64 7,.int .i64 0,.string s,.string ⟨#[]⟩,.slice (some ⟨g,0,none⟩) n c] 57)):=(Up.refl w).alloc _;obtain⟨h3,h4⟩:=zNh (Nat.le_refl _) u hg.1 hg.2;exact yX (x:=⟨7,0,s,nob⟩) (heap_alloc_new w _) h1 h2 ⟨hW,qC (heap_alloc_new w _)⟩ h3 h4
theorem xE (l:List Tk) (i:Nat) (x:ByteArray):keyZ l (i:Int) x=key l i x:=by unfold keyZ;rw[decide_eq_true (by omega),Int.toNat_natCast,Bool.true_and]
theorem zD6 (l:List Tk) (i:Nat) (x:ByteArray):keyZ l ((i:Int)+2) x=key l (i+2) x:=by rw[show(i:Int)+2=((i+2:Nat):Int) by omega,xE]
theorem uE (p:ByteArray→Bool) (l:List Tk) (i:Nat):namZ p l (i:Int)=nam p l i:=by unfold namZ;rw[if_pos (by omega),Int.toNat_natCast]
theorem zD7 (p:ByteArray→Bool) (l:List Tk) (i:Nat):namZ p l ((i:Int)+1)=nam p l (i+1):=by rw[show(i:Int)+1=((i+1:Nat):Int) by omega,uE]
theorem zTz (l:List Tk) (i:Nat) (hi:i≤l.length) (hl:l.length≤1000000) (hz:∀t∈l,t.s.size≤1000000000) (w:World) (v:Value) (hv:Tkm w v l)
  (cT:∀j,i<j→j≤l.length→∀w',Up w w'→Calls Tryz.prog 174 #[v,.int .i64 (j:Int)] w' (qO (typL B.nck B.long l j) w'))
  (cC:∀j,i<j→j≤l.length→∀w',Up w w'→Calls Tryz.prog 253 #[v,.int .i64 (j:Int)] w' (zWs (consL B.nck B.long l j .nil) w')) :
  Calls Tryz.prog 227 #[v,.int .i64 (i:Int)] w (qO (atomL B.nck B.long l i) w):=by
 have HV:=Lib.hid hv;have HT:=Lib.hid cT;have HCC:=Lib.hid cC;have cL:∀W,Up w W→Calls Tryz.prog 252 #[v,.int .i64 (i:Int)] W (NaP (nam B.long l i) W):=fun W u=>by rw[←uE];exact zTy l i W v (hv.up u) hz
 have cN:∀W,Up w W→Calls Tryz.prog 126 #[v,.int .i64 ((i:Int)+1)] W (NaP (nam B.nck l (i+1)) W):=fun W u=>by rw[←zD7];exact tL l _ W v (hv.up u) hz
 have cK:∀(x:ByteArray) W,Up w W→Calls Tryz.prog 57 #[v,.int .i64 (i:Int),.string x] W (BoU (key l i x) W):=fun x W u=>by rw[←xE];exact vL l i x W v (hv.up u)
 have k2:∀W,Up w W→Calls Tryz.prog 57 #[v,.int .i64 ((i:Int)+2),.string kLeft] W (BoU (key l (i+2) kLeft) W):=fun W u=>by rw[←zD6];exact vL l _ _ W v (hv.up u)
 have cQ:∀(q:Nat) (x:ByteArray) W,Up w W→Calls Tryz.prog 57 #[v,.int .i64 (q:Int),.string x] W (BoU (key l q x) W):=fun q x W u=>by rw[←xE];exact vL l q x W v (hv.up u)
 have kint:=cK kInt;have kbool:=cK kBool;have kunit:=cK kUnit;have kopen:=cK kOpen;have kmu:=cK kMu;have HQ:=Lib.hid cQ;clear hv cT cC cK cQ hz
 cases hL:nam B.long l i with
 | some s=>
  rw[hL] at cL;have HE:Hid (atomL B.nck B.long l i = .inl (nd 4 s .nil,i+1)):=Lib.hid (by rw[zU];unfold atomS;rw[hL]);rw[HE.out];clear HE hL cN k2 kint kbool kunit kopen kmu HQ
  go_enter Tryz.func227,Tryz.ntmps227
  go_wp2_with fail;refine(cL w (Up.refl w)).mono ?_;rintro e w1 ⟨rfl,u1⟩;have U1:Up w w1:=u1;go_wp2_with fail;refine(yI 4 s _ _ _ _).mono ?_;rintro e w9 ⟨rfl,rfl⟩;go_wp2_with fail
  go_ret3
  exact⟨_,_,_,rfl,⟨lY 4 s U1.size,by omega,rfl⟩,U1.alloc _⟩
 | none=>
  rw[hL] at cL
  cases hint:key l i kInt with
  | true=>
   rw[hint] at kint;have HE:Hid (atomL B.nck B.long l i = .inl (nd 1 nob .nil,i+1)):=Lib.hid (by rw[zU];unfold atomS;rw[hL];simp only[hint,if_true]);rw[HE.out];clear HE;clear hL hint cN k2 HQ HT HCC
   go_enter Tryz.func227,Tryz.ntmps227
   go_wp2_with fail;refine(cL w (Up.refl w)).mono ?_;rintro e w1 ⟨rfl,u1⟩;have U1:Up w w1:=u1;go_wp2_with fail;refine(kint w1 U1).mono ?_;rintro e w2 ⟨rfl,u2⟩;have U2:Up w w2:=Up.trans U1 u2;go_wp2_with fail;refine(yI 1 nob _ _ _ _).mono ?_;rintro e w9 ⟨rfl,rfl⟩;go_wp2_with fail
   go_ret3
   exact⟨_,_,_,rfl,⟨lY 1 nob U2.size,by omega,rfl⟩,U2.alloc _⟩
  | false=>
   rw[hint] at kint
   cases hbool:key l i kBool with
   | true=>
    rw[hbool] at kbool;have HE:Hid (atomL B.nck B.long l i = .inl (nd 2 nob .nil,i+1)):=Lib.hid (by rw[zU];unfold atomS;rw[hL];simp only[hint,hbool,if_true,if_false,Bool.false_eq_true]);rw[HE.out];clear HE;clear hL hint hbool cN k2 HQ HT HCC
    go_enter Tryz.func227,Tryz.ntmps227
    go_wp2_with fail;refine(cL w (Up.refl w)).mono ?_;rintro e w1 ⟨rfl,u1⟩;have U1:Up w w1:=u1;go_wp2_with fail;refine(kint w1 U1).mono ?_;rintro e w2 ⟨rfl,u2⟩;have U2:Up w w2:=Up.trans U1 u2;go_wp2_with fail;refine(kbool w2 U2).mono ?_;rintro e w3 ⟨rfl,u3⟩;have U3:Up w w3:=Up.trans U2 u3;go_wp2_with fail;refine(yI 2 nob _ _ _ _).mono ?_;rintro e w9 ⟨rfl,rfl⟩;go_wp2_with fail
    go_ret3
    exact⟨_,_,_,rfl,⟨lY 2 nob U3.size,by omega,rfl⟩,U3.alloc _⟩
   | false=>
    rw[hbool] at kbool
    cases hunit:key l i kUnit with
    | true=>
     rw[hunit] at kunit;have HE:Hid (atomL B.nck B.long l i = .inl (nd 3 nob .nil,i+1)):=Lib.hid (by rw[zU];unfold atomS;rw[hL];simp only[hint,hbool,hunit,if_true,if_false,Bool.false_eq_true]);rw[HE.out];clear HE;clear hL hint hbool hunit cN k2 HQ HT HCC
     go_enter Tryz.func227,Tryz.ntmps227
     go_wp2_with fail;refine(cL w (Up.refl w)).mono ?_;rintro e w1 ⟨rfl,u1⟩;have U1:Up w w1:=u1;go_wp2_with fail;refine(kint w1 U1).mono ?_;rintro e w2 ⟨rfl,u2⟩;have U2:Up w w2:=Up.trans U1 u2;go_wp2_with fail;refine(kbool w2 U2).mono ?_;rintro e w3 ⟨rfl,u3⟩;have U3:Up w w3:=Up.trans U2 u3;go_wp2_with fail;refine(kunit w3 U3).mono ?_;rintro e w4 ⟨rfl,u4⟩;have U4:Up w w4:=Up.trans U3 u4;go_wp2_with fail;refine(yI 3 nob _ _ _ _).mono ?_;rintro e w9 ⟨rfl,rfl⟩;go_wp2_with fail
     go_ret3
     exact⟨_,_,_,rfl,⟨lY 3 nob U4.size,by omega,rfl⟩,U4.alloc _⟩
    | false=>
     rw[hunit] at kunit
     cases hopen:key l i kOpen with
     | true=>
      rw[hopen] at kopen;have hlt:=yN hopen;have cT1:=HT.out (i+1) (by omega) (by omega)
      cases hT:typL B.nck B.long l (i+1) with
      | inr e=>
       obtain⟨p,er⟩:=e;have hle:=mG (nk:=B.nck) (lg:=B.long) l (i+1) (by omega);rw[hT] at hle cT1;have hne:¬er=0:=hle.2 p er rfl;have hpl:p≤l.length:=hle.1;have HE:Hid (atomL B.nck B.long l i = .inr (p,er)):=Lib.hid (by rw[zU];unfold atomS;rw[hL];simp only[hint,hbool,hunit,hopen,hT,if_true,if_false,Bool.false_eq_true]);rw[HE.out];clear HE;clear hL hint hbool hunit hopen hT cN k2 HQ HT HCC hle
       go_enter Tryz.func227,Tryz.ntmps227
       go_wp2_with fail;refine(cL w (Up.refl w)).mono ?_;rintro e w1 ⟨rfl,u1⟩;have U1:Up w w1:=u1;go_wp2_with fail;refine(kint w1 U1).mono ?_;rintro e w2 ⟨rfl,u2⟩;have U2:Up w w2:=Up.trans U1 u2;go_wp2_with fail;refine(kbool w2 U2).mono ?_;rintro e w3 ⟨rfl,u3⟩;have U3:Up w w3:=Up.trans U2 u3;go_wp2_with fail;refine(kunit w3 U3).mono ?_;rintro e w4 ⟨rfl,u4⟩;have U4:Up w w4:=Up.trans U3 u4;go_wp2_with fail;refine(kopen w4 U4).mono ?_;rintro e w5 ⟨rfl,u5⟩;have U5:Up w w5:=Up.trans U4 u5;go_wp2_with fail;refine(cT1 w5 U5).mono ?_;rintro e w6 ⟨va,ja,ea,rfl,⟨rfl,rfl,A1,rfl⟩,u6⟩;have U6:Up w w6:=Up.trans U5 u6;go_wp2_with fail
       go_ret3
       exact⟨_,_,_,rfl,⟨by omega,rfl,_,rfl⟩,U6⟩
      | inl r=>
       obtain⟨t,q⟩:=r;have hle:=mG (nk:=B.nck) (lg:=B.long) l (i+1) (by omega);rw[hT] at hle cT1;have hql:q≤l.length:=hle.1;have kshut:=HQ.out q kShut
       cases hs:key l q kShut with
       | false=>
        rw[hs] at kshut;have HE:Hid (atomL B.nck B.long l i = .inr (q,6)):=Lib.hid (by rw[zU];unfold atomS;rw[hL];simp only[hint,hbool,hunit,hopen,hT,hs,if_true,if_false,Bool.false_eq_true]);rw[HE.out];clear HE;clear hL hint hbool hunit hopen hT hs cN k2 HQ HT HCC hle
        go_enter Tryz.func227,Tryz.ntmps227
        go_wp2_with fail;refine(cL w (Up.refl w)).mono ?_;rintro e w1 ⟨rfl,u1⟩;have U1:Up w w1:=u1;go_wp2_with fail;refine(kint w1 U1).mono ?_;rintro e w2 ⟨rfl,u2⟩;have U2:Up w w2:=Up.trans U1 u2;go_wp2_with fail;refine(kbool w2 U2).mono ?_;rintro e w3 ⟨rfl,u3⟩;have U3:Up w w3:=Up.trans U2 u3;go_wp2_with fail;refine(kunit w3 U3).mono ?_;rintro e w4 ⟨rfl,u4⟩;have U4:Up w w4:=Up.trans U3 u4;go_wp2_with fail;refine(kopen w4 U4).mono ?_;rintro e w5 ⟨rfl,u5⟩;have U5:Up w w5:=Up.trans U4 u5;go_wp2_with fail;refine(cT1 w5 U5).mono ?_;rintro e w6 ⟨va,ja,ea,rfl,⟨ht,rfl,rfl⟩,u6⟩;have U6:Up w w6:=Up.trans U5 u6;go_wp2_with fail;refine(kshut w6 U6).mono ?_;rintro e w7 ⟨rfl,u7⟩;have U7:Up w w7:=Up.trans U6 u7;go_wp2_with fail
        go_ret3
        exact⟨_,_,_,rfl,⟨by omega,rfl,_,rfl⟩,U7⟩
       | true=>
        rw[hs] at kshut;have HE:Hid (atomL B.nck B.long l i = .inl (t,q+1)):=Lib.hid (by rw[zU];unfold atomS;rw[hL];simp only[hint,hbool,hunit,hopen,hT,hs,if_true,if_false,Bool.false_eq_true]);rw[HE.out];clear HE;clear hL hint hbool hunit hopen hT hs cN k2 HQ HT HCC hle
        go_enter Tryz.func227,Tryz.ntmps227
        go_wp2_with fail;refine(cL w (Up.refl w)).mono ?_;rintro e w1 ⟨rfl,u1⟩;have U1:Up w w1:=u1;go_wp2_with fail;refine(kint w1 U1).mono ?_;rintro e w2 ⟨rfl,u2⟩;have U2:Up w w2:=Up.trans U1 u2;go_wp2_with fail;refine(kbool w2 U2).mono ?_;rintro e w3 ⟨rfl,u3⟩;have U3:Up w w3:=Up.trans U2 u3;go_wp2_with fail;refine(kunit w3 U3).mono ?_;rintro e w4 ⟨rfl,u4⟩;have U4:Up w w4:=Up.trans U3 u4;go_wp2_with fail;refine(kopen w4 U4).mono ?_;rintro e w5 ⟨rfl,u5⟩;have U5:Up w w5:=Up.trans U4 u5;go_wp2_with fail;refine(cT1 w5 U5).mono ?_;rintro e w6 ⟨va,ja,ea,rfl,⟨ht,rfl,rfl⟩,u6⟩;have U6:Up w w6:=Up.trans U5 u6;go_wp2_with fail;refine(kshut w6 U6).mono ?_;rintro e w7 ⟨rfl,u7⟩;have U7:Up w w7:=Up.trans U6 u7;go_wp2_with fail
        go_ret3
        exact⟨_,_,_,rfl,⟨(ht.base U5.size).up u7,by omega,rfl⟩,U7⟩
     | false=>
      rw[hopen] at kopen
      cases hmu:key l i kMu with
      | true=>
       rw[hmu] at kmu;have hlt:=yN hmu
       cases hN:nam B.nck l (i+1) with
       | none=>
        rw[hN] at cN;have HE:Hid (atomL B.nck B.long l i = .inr (i+1,6)):=Lib.hid (by rw[zU];unfold atomS;rw[hL];simp only[hint,hbool,hunit,hopen,hmu,hN,if_true,if_false,Bool.false_eq_true]);rw[HE.out];clear HE;clear hL hint hbool hunit hopen hmu hN k2 HQ HT HCC
        go_enter Tryz.func227,Tryz.ntmps227
        go_wp2_with fail;refine(cL w (Up.refl w)).mono ?_;rintro e w1 ⟨rfl,u1⟩;have U1:Up w w1:=u1;go_wp2_with fail;refine(kint w1 U1).mono ?_;rintro e w2 ⟨rfl,u2⟩;have U2:Up w w2:=Up.trans U1 u2;go_wp2_with fail;refine(kbool w2 U2).mono ?_;rintro e w3 ⟨rfl,u3⟩;have U3:Up w w3:=Up.trans U2 u3;go_wp2_with fail;refine(kunit w3 U3).mono ?_;rintro e w4 ⟨rfl,u4⟩;have U4:Up w w4:=Up.trans U3 u4;go_wp2_with fail;refine(kopen w4 U4).mono ?_;rintro e w5 ⟨rfl,u5⟩;have U5:Up w w5:=Up.trans U4 u5;go_wp2_with fail;refine(kmu w5 U5).mono ?_;rintro e w6 ⟨rfl,u6⟩;have U6:Up w w6:=Up.trans U5 u6;go_wp2_with fail;refine(cN w6 U6).mono ?_;rintro e w7 ⟨rfl,u7⟩;have U7:Up w w7:=Up.trans U6 u7;go_wp2_with fail
        go_ret3
        exact⟨_,_,_,rfl,⟨by omega,rfl,_,rfl⟩,U7⟩
       | some s=>
        rw[hN] at cN
        cases hF:key l (i+2) kLeft with
        | false=>
         rw[hF] at k2;have HE:Hid (atomL B.nck B.long l i = .inr (i+2,6)):=Lib.hid (by rw[zU];unfold atomS;rw[hL];simp only[hint,hbool,hunit,hopen,hmu,hN,hF,if_true,if_false,Bool.false_eq_true]);rw[HE.out];clear HE;clear hL hint hbool hunit hopen hmu hN hF HQ HT HCC
         go_enter Tryz.func227,Tryz.ntmps227
         go_wp2_with fail;refine(cL w (Up.refl w)).mono ?_;rintro e w1 ⟨rfl,u1⟩;have U1:Up w w1:=u1;go_wp2_with fail;refine(kint w1 U1).mono ?_;rintro e w2 ⟨rfl,u2⟩;have U2:Up w w2:=Up.trans U1 u2;go_wp2_with fail;refine(kbool w2 U2).mono ?_;rintro e w3 ⟨rfl,u3⟩;have U3:Up w w3:=Up.trans U2 u3;go_wp2_with fail;refine(kunit w3 U3).mono ?_;rintro e w4 ⟨rfl,u4⟩;have U4:Up w w4:=Up.trans U3 u4;go_wp2_with fail;refine(kopen w4 U4).mono ?_;rintro e w5 ⟨rfl,u5⟩;have U5:Up w w5:=Up.trans U4 u5;go_wp2_with fail;refine(kmu w5 U5).mono ?_;rintro e w6 ⟨rfl,u6⟩;have U6:Up w w6:=Up.trans U5 u6;go_wp2_with fail;refine(cN w6 U6).mono ?_;rintro e w7 ⟨rfl,u7⟩;have U7:Up w w7:=Up.trans U6 u7;go_wp2_with fail;refine(k2 w7 U7).mono ?_;rintro e w8 ⟨rfl,u8⟩;have U8:Up w w8:=Up.trans U7 u8;go_wp2_with fail
         go_ret3
         exact⟨_,_,_,rfl,⟨by omega,rfl,_,rfl⟩,U8⟩
        | true=>
         rw[hF] at k2;have hlt2:=yN hF;have cC1:=HCC.out (i+3) (by omega) (by omega);have hle:=zVw (nk:=B.nck) (lg:=B.long) l (i+3) .nil (by omega)
         cases hC:consL B.nck B.long l (i+3) .nil with
         | inr e=>
          obtain⟨p,er⟩:=e;rw[hC] at hle cC1;have hne:¬er=0:=hle.2 p er rfl;have hpl:p≤l.length:=hle.1;have HE:Hid (atomL B.nck B.long l i = .inr (p,er)):=Lib.hid (by rw[zU];unfold atomS;rw[hL];simp only[hint,hbool,hunit,hopen,hmu,hN,hF,hC,if_true,if_false,Bool.false_eq_true]);rw[HE.out];clear HE;clear hL hint hbool hunit hopen hmu hN hF hC HQ HT HCC hle
          go_enter Tryz.func227,Tryz.ntmps227
          go_wp2_with fail;refine(cL w (Up.refl w)).mono ?_;rintro e w1 ⟨rfl,u1⟩;have U1:Up w w1:=u1;go_wp2_with fail;refine(kint w1 U1).mono ?_;rintro e w2 ⟨rfl,u2⟩;have U2:Up w w2:=Up.trans U1 u2;go_wp2_with fail;refine(kbool w2 U2).mono ?_;rintro e w3 ⟨rfl,u3⟩;have U3:Up w w3:=Up.trans U2 u3;go_wp2_with fail;refine(kunit w3 U3).mono ?_;rintro e w4 ⟨rfl,u4⟩;have U4:Up w w4:=Up.trans U3 u4;go_wp2_with fail;refine(kopen w4 U4).mono ?_;rintro e w5 ⟨rfl,u5⟩;have U5:Up w w5:=Up.trans U4 u5;go_wp2_with fail;refine(kmu w5 U5).mono ?_;rintro e w6 ⟨rfl,u6⟩;have U6:Up w w6:=Up.trans U5 u6;go_wp2_with fail;refine(cN w6 U6).mono ?_;rintro e w7 ⟨rfl,u7⟩;have U7:Up w w7:=Up.trans U6 u7;go_wp2_with fail;refine(k2 w7 U7).mono ?_;rintro e w8 ⟨rfl,u8⟩;have U8:Up w w8:=Up.trans U7 u8;go_wp2_with fail;refine(cC1 w8 U8).mono ?_;rintro e w9 ⟨va,ja,ea,rfl,⟨rfl,rfl,rfl⟩,u9⟩;have U9:Up w w9:=Up.trans U8 u9;go_wp2_with fail
          go_ret3
          exact⟨_,_,_,rfl,⟨by omega,rfl,_,rfl⟩,U9⟩
         | inl r=>
          obtain⟨cs,q⟩:=r;rw[hC] at hle cC1;have hql:q≤l.length:=hle.1;have kright:=HQ.out q zY
          cases hr:key l q zY with
          | false=>
           rw[hr] at kright;have HE:Hid (atomL B.nck B.long l i = .inr (q,6)):=Lib.hid (by rw[zU];unfold atomS;rw[hL];simp only[hint,hbool,hunit,hopen,hmu,hN,hF,hC,hr,if_true,if_false,Bool.false_eq_true]);rw[HE.out];clear HE;clear hL hint hbool hunit hopen hmu hN hF hC hr HQ HT HCC hle
           go_enter Tryz.func227,Tryz.ntmps227
           go_wp2_with fail;refine(cL w (Up.refl w)).mono ?_;rintro e w1 ⟨rfl,u1⟩;have U1:Up w w1:=u1;go_wp2_with fail;refine(kint w1 U1).mono ?_;rintro e w2 ⟨rfl,u2⟩;have U2:Up w w2:=Up.trans U1 u2;go_wp2_with fail;refine(kbool w2 U2).mono ?_;rintro e w3 ⟨rfl,u3⟩;have U3:Up w w3:=Up.trans U2 u3;go_wp2_with fail;refine(kunit w3 U3).mono ?_;rintro e w4 ⟨rfl,u4⟩;have U4:Up w w4:=Up.trans U3 u4;go_wp2_with fail;refine(kopen w4 U4).mono ?_;rintro e w5 ⟨rfl,u5⟩;have U5:Up w w5:=Up.trans U4 u5;go_wp2_with fail;refine(kmu w5 U5).mono ?_;rintro e w6 ⟨rfl,u6⟩;have U6:Up w w6:=Up.trans U5 u6;go_wp2_with fail;refine(cN w6 U6).mono ?_;rintro e w7 ⟨rfl,u7⟩;have U7:Up w w7:=Up.trans U6 u7;go_wp2_with fail;refine(k2 w7 U7).mono ?_;rintro e w8 ⟨rfl,u8⟩;have U8:Up w w8:=Up.trans U7 u8;go_wp2_with fail;refine(cC1 w8 U8).mono ?_;rintro e w9 ⟨va,ja,ea,rfl,⟨⟨g,c,rfl,hcl,hgl,h0,hcs⟩,rfl,rfl⟩,u9⟩;have U9:Up w w9:=Up.trans U8 u9;go_wp2_with fail;refine(kright w9 U9).mono ?_;rintro e w10 ⟨rfl,u10⟩;have U10:Up w w10:=Up.trans U9 u10;go_wp2_with fail
           go_ret3
           exact⟨_,_,_,rfl,⟨by omega,rfl,_,rfl⟩,U10⟩
          | true=>
           rw[hr] at kright;have HE:Hid (atomL B.nck B.long l i = .inl (nd 7 s cs,q+1)):=Lib.hid (by rw[zU];unfold atomS;rw[hL];simp only[hint,hbool,hunit,hopen,hmu,hN,hF,hC,hr,if_true,if_false,Bool.false_eq_true]);rw[HE.out];clear HE;clear hL hint hbool hunit hopen hmu hN hF hC hr HQ HT HCC hle
           go_enter Tryz.func227,Tryz.ntmps227
           go_wp2_with fail;refine(cL w (Up.refl w)).mono ?_;rintro e w1 ⟨rfl,u1⟩;have U1:Up w w1:=u1;go_wp2_with fail;refine(kint w1 U1).mono ?_;rintro e w2 ⟨rfl,u2⟩;have U2:Up w w2:=Up.trans U1 u2;go_wp2_with fail;refine(kbool w2 U2).mono ?_;rintro e w3 ⟨rfl,u3⟩;have U3:Up w w3:=Up.trans U2 u3;go_wp2_with fail;refine(kunit w3 U3).mono ?_;rintro e w4 ⟨rfl,u4⟩;have U4:Up w w4:=Up.trans U3 u4;go_wp2_with fail;refine(kopen w4 U4).mono ?_;rintro e w5 ⟨rfl,u5⟩;have U5:Up w w5:=Up.trans U4 u5;go_wp2_with fail;refine(kmu w5 U5).mono ?_;rintro e w6 ⟨rfl,u6⟩;have U6:Up w w6:=Up.trans U5 u6;go_wp2_with fail;refine(cN w6 U6).mono ?_;rintro e w7 ⟨rfl,u7⟩;have U7:Up w w7:=Up.trans U6 u7;go_wp2_with fail;refine(k2 w7 U7).mono ?_;rintro e w8 ⟨rfl,u8⟩;have U8:Up w w8:=Up.trans U7 u8;go_wp2_with fail;refine(cC1 w8 U8).mono ?_;rintro e w9 ⟨va,ja,ea,rfl,⟨⟨g,c,rfl,hcl,hgl,h0,hcs⟩,rfl,rfl⟩,u9⟩;have U9:Up w w9:=Up.trans U8 u9;go_wp2_with fail;refine(kright w9 U9).mono ?_;rintro e w10 ⟨rfl,u10⟩;have U10:Up w w10:=Up.trans U9 u10;go_wp2_with fail;have hcs2:=zNh U8.size u10 hgl hcs;refine(yI 7 s _ _ _ _).mono ?_;rintro e w9 ⟨rfl,rfl⟩;go_wp2_with fail
           go_ret3
           exact⟨_,_,_,rfl,⟨yUz U10.size rfl hcl hcs2,by omega,rfl⟩,U10.alloc _⟩
      | false=>
       rw[hmu] at kmu;have HE:Hid (atomL B.nck B.long l i = .inr (i,6)):=Lib.hid (by rw[zU];unfold atomS;rw[hL];simp only[hint,hbool,hunit,hopen,hmu,if_false,Bool.false_eq_true]);rw[HE.out];clear HE;clear hL hint hbool hunit hopen hmu cN k2 HQ HT HCC
       go_enter Tryz.func227,Tryz.ntmps227
       go_wp2_with fail;refine(cL w (Up.refl w)).mono ?_;rintro e w1 ⟨rfl,u1⟩;have U1:Up w w1:=u1;go_wp2_with fail;refine(kint w1 U1).mono ?_;rintro e w2 ⟨rfl,u2⟩;have U2:Up w w2:=Up.trans U1 u2;go_wp2_with fail;refine(kbool w2 U2).mono ?_;rintro e w3 ⟨rfl,u3⟩;have U3:Up w w3:=Up.trans U2 u3;go_wp2_with fail;refine(kunit w3 U3).mono ?_;rintro e w4 ⟨rfl,u4⟩;have U4:Up w w4:=Up.trans U3 u4;go_wp2_with fail;refine(kopen w4 U4).mono ?_;rintro e w5 ⟨rfl,u5⟩;have U5:Up w w5:=Up.trans U4 u5;go_wp2_with fail;refine(kmu w5 U5).mono ?_;rintro e w6 ⟨rfl,u6⟩;have U6:Up w w6:=Up.trans U5 u6;go_wp2_with fail
       go_ret3
       exact⟨_,_,_,rfl,⟨by omega,rfl,_,rfl⟩,U6⟩
end Go.Proofs.YtbpijnalmakfaaaGreatDoor
