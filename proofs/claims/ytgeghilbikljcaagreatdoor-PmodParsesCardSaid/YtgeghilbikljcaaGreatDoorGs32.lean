/-
  Plain definitions, without the program: trees as forests; their size, depth, cells, paths; what stands at a path, and what is put there; what a list of cells is the tree of.
-/
import Derived.Test.YtgeghilbikljcaaGreatDoorGs06
import Derived.Test.YtgeghilbikljcaaGreatDoorGs13
set_option maxHeartbeats 40000000
set_option maxRecDepth 100000
namespace Go.Proofs.YtgeghilbikljcaaGreatDoor
theorem Fr.get_lt {f:Fr} {i:Nat} {t:Tr} (h:f.get i=some t):i<f.len:=by
 induction f generalizing i with
 | nil=>cases h
 | cons x k r _ ih=>
  cases i with
  | zero=>exact Nat.succ_pos _
  | succ i=>exact Nat.succ_lt_succ (ih h)
end Go.Proofs.YtgeghilbikljcaaGreatDoor
namespace Go.Proofs.YtgeghilbikljcaaGreatDoor
open Go.RowKit
theorem zZj (a:Addr) (n:Nat):(a.add n).block=a.block:=by unfold Addr.add;split<;>rfl
theorem ba_eq {s t:ByteArray} (h:s.data.toList=t.data.toList):s=t:=by
 apply ByteArray.ext
 exact Array.ext' h
theorem zVc {x y:ByteArray} (h:x=y):(x.toList==y.toList)=true/\(x.toList != y.toList)=false:=by subst h;simp
theorem zK4 {x y:ByteArray} (h:x≠y):(x.toList==y.toList)=false/\(x.toList != y.toList)=true:=by
 have:(x.toList==y.toList)=false:=by
  rw[beq_eq_false_iff_ne];intro e;rw[Lib.toList_data,Lib.toList_data] at e;exact h (ba_eq e)
 exact⟨this,by unfold bne;rw[this];rfl⟩
theorem mT {x y:Int} (h:x=y):(x==y)=true/\(x != y)=false:=by subst h;simp
theorem zK5 {x y:Int} (h:x≠y):(x==y)=false/\(x != y)=true:=by simp[h]
def zVd (b:Bool) (w:World) (e:Ending) (w':World):Prop:=e = .returned (.bool b)/\∃q,w'=w.drewN q
theorem vU {a b:Bool} {w w':World} (h:b=a) (hw:∃q,w'=w.drewN q):zVd b w (.returned (.bool a)) w':=⟨by rw[h],hw⟩
theorem sZ {P:Program} {f:FuncId} {args:Array Value} {w:World} {q x:Nat} {v:Value} (h:Calls P f args (w.drewN (q+x)) fun e w'=>e = .returned v/\∃m,w'=(w.drewN (q+x)).drewN m) :
  Calls P f args (w.drewN (q+x)) fun e w''=>e = .returned v/\∃n,w''=w.drewN (q+n):=h.mono fun _ _ ⟨he,m,hm⟩=>⟨he,x+m,by rw[hm,World.drewN_drewN,Nat.add_assoc]⟩
theorem vO {b:Bool} {P:Prop} (h:b=true↔P) (hn:¬P):b=false:=by cases b;rfl;exact absurd (h.1 rfl) hn
theorem zK6 {b:Bool} {P:Prop} (h:b=true↔P) (hp:P):b=true:=h.2 hp
theorem Fr.app_inj (a:Fr) {b c:Fr} (h:a.app b=a.app c):b=c:=by
 induction a with
 | nil=>exact h
 | cons x k r _ ih=>simp only[Fr.app,Fr.cons.injEq] at h;exact ih h.2.2
theorem zGw {x y:Nod} (h1:x.k=y.k) (h2:x.n=y.n) (h3:x.a=y.a) (h4:x.m=y.m):x=y:=by
 cases x;cases y;simp only at h1 h2 h3 h4;subst h1 h2 h3 h4;rfl
theorem zTo:∀(n:Nat) (t u:Tr),szT t<=n->n<=1000000000->∀(w:World) (Sq Sq':Nat->Prop) (v v':Value),InT w Sq v t->InT w Sq' v' u->∀b:Bool,(b=true↔t=u)->
  Calls Tryz.prog 12 #[v,v'] w (zVd b w)
 | 0,t,_,h,_,_,_,_,_,_,_,_,_,_=>absurd h (by unfold szT;omega)
 | n+1,(x,ks),(y,ls),hn,hbig,w,Sq,Sq',v,v',hin,hin',ANS,hans=>by
  have ih:=zTo n;obtain⟨q,p,A,c,rfl,hq1,c0,c1,c2,c3,c4,hc,hkid⟩:=hin.open;obtain⟨q',p',A',c',rfl,hq1',c0',c1',c2',c3',c4',hc',hkid'⟩:=hin'.open;have HA:=Lib.hid hans;have HK:=Lib.hid hkid;have HK':=Lib.hid hkid';have hsz:szT (x,ks)=1+ks.sz:=rfl;have hll:=Fr.len_le ks;obtain⟨S,hS⟩:∃S,szT (x,ks)=S:=⟨_,rfl⟩;rw[hS] at hn hsz;obtain⟨N,hN⟩:∃N,ks.len=N:=⟨_,rfl⟩;obtain⟨M,hM⟩:∃M,ls.len=M:=⟨_,rfl⟩;rw[hN] at c4 hll;rw[hM] at c4';have hN1:N<=1000000000:=by omega
  have HNN:=Lib.hid hN;have HMM:=Lib.hid hM;have HSZ:=Lib.hid hsz;clear hin hin' hkid hkid' hS hc hc' hN hM hsz hans
  by_cases d0:x.k=y.k
  ·by_cases d1:x.n=y.n
   ·by_cases d2:x.a=y.a
    ·by_cases d3:x.m=y.m
     ·have HXY:=Lib.hid (zGw d0 d1 d2 d3)
      obtain⟨e0,f0⟩:=mT d0;obtain⟨e1,f1⟩:=mT d1;obtain⟨e2,f2⟩:=zVc d2;obtain⟨e3,f3⟩:=zVc d3;clear d0 d1 d2 d3
      by_cases d4:N=M
      ·subst d4
       go_enter Tryz.func12,Tryz.ntmps12
       go_wp2_with fail
       go_quiet (fail)
       go_wp2_with fail
       go_loopw [5] (fun i wr=>∃(k:Nat) (done r1 r2:Fr),i = .int .i64 k/\k=done.len/\ks=done.app r1/\ls=done.app r2/\Kid w Sq A r1 k/\Kid w Sq' A' r2 k/\∃q,wr=w.drewN q) (fun i _=>N-(intOf i).toNat)
       case atStart=>exact⟨0,.nil,ks,ls,rfl,rfl,rfl,rfl,HK.out,HK'.out,_,rfl⟩
       case round=>
        obtain⟨k,done,r1,r2,rfl,hk,hks,hls,hkid,hkid',qq,rfl⟩:=hrel;have hl:N=done.len+r1.len:=by rw[<- HNN.out,hks,Fr.len_app]
        have hl':N=done.len+r2.len:=by rw[<- HMM.out,hls,Fr.len_app]
        have hs:ks.sz=done.sz+r1.sz:=by rw[hks,Fr.sz_app]
        have hsz:=HSZ.out;have HKS:=Lib.hid hks;have HLS:=Lib.hid hls
        by_cases hlt:0<r1.len
        ·obtain⟨y1,l1,s1,rfl⟩:=Fr.cut hlt
         obtain⟨y2,l2,s2,rfl⟩:=Fr.cut (f:=r2) (by omega);obtain⟨kb,ko,u1,rfl,hkb,hcell,hu1,hnext⟩:=hkid.next;obtain⟨kb',ko',u2,rfl,hkb',hcell',hu2,hnext'⟩:=hkid'.next;have hyl:szT (y1,l1)=1+l1.sz:=rfl;have hsr:(Fr.cons y1 l1 s1).sz=1+l1.sz+s1.sz:=rfl;have hlr:(Fr.cons y1 l1 s1).len=s1.len+1:=rfl;have cI:=fun m b hb=>ih (y1,l1) (y2,l2) (by omega) (by omega) (w.drewN m) Sq Sq' u1 u2 (hu1.drew m) (hu2.drew m) b hb
         have HN:=Lib.hid hnext;have HN':=Lib.hid hnext';have hkN:k<N:=by omega
         have hkz:(k:Int)<(N:Int):=by omega
         have HK1:=Lib.hid hk;clear hkid hkid' hnext hnext' hu1 hu2 hks hls ih hk hl hl' hs hlr hsr hsz hyl
         by_cases heq:((y1,l1):Tr)=(y2,l2)
         ·have cI:=fun m=>cI m true ⟨fun _=>heq,fun _=>rfl⟩
          have HEQ:=Lib.hid heq;clear heq;go_wp2_with fail
          go_quiet ((go_at_call 12;exact sZ (cI _)))
          go_wp2_with fail
          go_roundw
          case rel=>exact⟨k+1,done.app (.cons y1 l1 .nil),s1,s2,by go_num,by rw[Fr.len_app,HK1.out];rfl,by rw[HKS.out,Fr.app_cons],by
           rw[HLS.out,Fr.app_cons];have:=HEQ.out;simp only[Prod.mk.injEq] at this;rw[this.1,this.2],HN.out,HN'.out,_,rfl⟩
          case measure=>simp[intOf];omega
         ·have cI:=fun m=>cI m false ⟨fun h=>(by cases h),fun h=>absurd h heq⟩
          have HE:Hid (ANS=false):=Lib.hid (vO HA.out fun e=>heq (by
           have e2:=(Prod.mk.inj e).2;rw[HKS.out,HLS.out] at e2;have e3:=Fr.app_inj done e2;simp only[Fr.cons.injEq] at e3;rw[e3.1,e3.2.1]))
          clear heq;go_wp2_with fail
          go_quiet ((go_at_call 12;exact sZ (cI _)))
          go_wp2_with fail
          go_ret
          exact vU HE.out ⟨_,World.drewN_drewN _ _ _⟩
        ·have h1:r1 = .nil:=by
          cases r1 with
          | nil=>rfl
          | cons y l r=>exact absurd (Nat.succ_pos _) hlt
         subst h1;have hl1:N=done.len:=by simpa [Fr.len] using hl
         have h2:r2 = .nil:=by
          cases r2 with
          | nil=>rfl
          | cons y l r=>simp only[Fr.len] at hl';omega
         subst h2;have hkz:¬(k:Int)<(N:Int):=by omega
         have HE:Hid (ANS=true):=Lib.hid (zK6 HA.out (by rw[HXY.out,HKS.out,HLS.out]));clear hkid hkid' hks hls ih hk hl hl' hl1 hs hsz;go_wp2_with fail
         go_ret
         exact vU HE.out ⟨_,rfl⟩
      ·have e4:((N:Int)==(M:Int))=false:=by rw[beq_eq_false_iff_ne];omega
       have f4:((N:Int) != (M:Int))=true:=by rw[bne_iff_ne];omega
       have HE:Hid (ANS=false):=Lib.hid (vO HA.out fun e=>d4 (by rw[<- HNN.out,<- HMM.out,(Prod.mk.inj e).2]))
       go_enter Tryz.func12,Tryz.ntmps12
       go_wp2_with fail
       go_quiet (fail)
       go_wp2_with fail
       go_ret
       exact vU HE.out ⟨_,rfl⟩
     ·obtain⟨e0,f0⟩:=mT d0
      obtain⟨e1,f1⟩:=mT d1;obtain⟨e2,f2⟩:=zVc d2;obtain⟨e3,f3⟩:=zK4 d3;have HE:Hid (ANS=false):=Lib.hid (vO HA.out fun e=>d3 (by rw[(Prod.mk.inj e).1]));clear d0 d1 d2 d3
      go_enter Tryz.func12,Tryz.ntmps12
      go_wp2_with fail
      go_quiet (fail)
      go_wp2_with fail
      go_ret
      exact vU HE.out ⟨_,rfl⟩
    ·obtain⟨e0,f0⟩:=mT d0
     obtain⟨e1,f1⟩:=mT d1;obtain⟨e2,f2⟩:=zK4 d2;have HE:Hid (ANS=false):=Lib.hid (vO HA.out fun e=>d2 (by rw[(Prod.mk.inj e).1]));clear d0 d1 d2
     go_enter Tryz.func12,Tryz.ntmps12
     go_wp2_with fail
     go_quiet (fail)
     go_wp2_with fail
     go_ret
     exact vU HE.out ⟨_,rfl⟩
   ·obtain⟨e0,f0⟩:=mT d0
    obtain⟨e1,f1⟩:=zK5 d1;have HE:Hid (ANS=false):=Lib.hid (vO HA.out fun e=>d1 (by rw[(Prod.mk.inj e).1]));clear d0 d1
    go_enter Tryz.func12,Tryz.ntmps12
    go_wp2_with fail
    go_quiet (fail)
    go_wp2_with fail
    go_ret
    exact vU HE.out ⟨_,rfl⟩
  ·obtain⟨e0,f0⟩:=zK5 d0
   have HE:Hid (ANS=false):=Lib.hid (vO HA.out fun e=>d0 (by rw[(Prod.mk.inj e).1]));clear d0
   go_enter Tryz.func12,Tryz.ntmps12
   go_wp2_with fail
   go_quiet (fail)
   go_wp2_with fail
   go_ret
   exact vU HE.out ⟨_,rfl⟩
theorem zYp (t u:Option Tr) (w:World) (Sq Sq':Nat->Prop) (v v':Value) (h:InO w Sq v t) (h':InO w Sq' v' u) (ht:szO t<=1000000000) (b:Bool) (hb:b=true↔t=u) :
  Calls Tryz.prog 12 #[v,v'] w (zVd b w):=by
 cases t with
 | none=>
  have hv:v = .pointer none:=h;subst hv
  cases u with
  | none=>
   have hv:v' = .pointer none:=h';subst hv;have HE:Hid (b=true):=Lib.hid (hb.2 rfl);clear hb h h'
   go_enter Tryz.func12,Tryz.ntmps12
   go_wp2_with fail
   go_ret
   exact vU HE.out ⟨0,rfl⟩
  | some u=>
   obtain⟨q,p,rfl⟩:=InT.ptr h';have HE:Hid (b=false):=Lib.hid (vO hb (by simp));clear hb h h'
   go_enter Tryz.func12,Tryz.ntmps12
   go_wp2_with fail
   go_ret
   exact vU HE.out ⟨0,rfl⟩
 | some t=>
  cases u with
  | none=>
   have hv:v' = .pointer none:=h';subst hv;obtain⟨q,p,rfl⟩:=InT.ptr h;have HE:Hid (b=false):=Lib.hid (vO hb (by simp));clear hb h h'
   go_enter Tryz.func12,Tryz.ntmps12
   go_wp2_with fail
   go_ret
   exact vU HE.out ⟨0,rfl⟩
  | some u=>exact zTo (szT t) t u (Nat.le_refl _) ht w Sq Sq' v v' h h' b (by rw[hb];simp)
theorem PtF.one {w:World} {S:Nat->Prop}:∀{vs:List Value} {f:Fr},PtF w S vs f->∀u∈vs,u.oneCell'=true
 | [],.nil,_,u,hu=>by cases hu
 | [],.cons _ _ _,h,_,_=>h.elim
 | _::_,.nil,h,_,_=>h.elim
 | v::vs,.cons x ks rs,h,u,hu=>by
  rcases List.mem_cons.1 hu with rfl | hu
  ·obtain⟨q,p,rfl⟩:=h.1.ptr
   rfl
  ·exact PtF.one (vs:=vs) (f:=rs) h.2 u hu
theorem kZ (l:List Tk) (i:Int) (x:ByteArray) (w:World) (v:Value) (hv:Tkm w v l) :
  Calls Tryz.prog 41 #[v,.int .i64 i,.string x] w (BoU (keyZ l i x) w):=by
 obtain⟨A,c,rfl,hc⟩:=hv;obtain⟨n,hn⟩:∃n,l.length=n:=⟨_,rfl⟩;rw[hn]
 by_cases h0:0<=i
 ·obtain⟨k,rfl⟩:=Int.eq_ofNat_of_zero_le h0
  by_cases hk:k<n
  ·obtain⟨t,ht⟩:∃t,l[k]? = some t:=⟨_,List.getElem?_eq_getElem (by rw[hn];exact hk)⟩
   obtain⟨b,o,rfl,hb,c0,c1⟩:=hc k t ht;have hki:(k:Int)<(n:Int):=by omega
   have HE:Hid (keyZ l (k:Int) x=(decide (t.k=3)&&decide (t.s=x))):=Lib.hid (by unfold keyZ;rw[decide_eq_true h0,Int.toNat_natCast];unfold key;rw[ht];rfl);rw[HE.out];clear hc ht hn HE
   by_cases h3:t.k=3
   ·rw[decide_eq_true h3,Bool.true_and]
    go_enter Tryz.func41,Tryz.ntmps41
    go_wp2_with fail
    go_ret
    exact yQ (dG _ _).symm (Up.refl _)
   ·rw[decide_eq_false h3,Bool.false_and]
    go_enter Tryz.func41,Tryz.ntmps41
    go_wp2_with fail
    go_ret
    exact yQ rfl (Up.refl _)
  ·have hki:¬(k:Int)<(n:Int):=by omega
   have HE:Hid (keyZ l (k:Int) x=false):=Lib.hid (by unfold keyZ;rw[Int.toNat_natCast,kJ (by omega),Bool.and_false]);rw[HE.out]
   go_enter Tryz.func41,Tryz.ntmps41
   go_wp2_with fail
   go_ret
   exact yQ rfl (Up.refl _)
 ·have HE:Hid (keyZ l i x=false):=Lib.hid (by unfold keyZ;rw[decide_eq_false h0,Bool.false_and])
  rw[HE.out]
  go_enter Tryz.func41,Tryz.ntmps41
  go_wp2_with fail
  go_ret
  exact yQ rfl (Up.refl _)
theorem vF (l:List Tk) (i:Int) (w:World) (v:Value) (hv:Tkm w v l) (hz:∀t∈l,t.s.size<=1000000000) :
  Calls Tryz.prog 71 #[v,.int .i64 i] w (NaP (namZ B.nck l i) w):=by
 obtain⟨A,c,rfl,hc⟩:=hv;obtain⟨n,hn⟩:∃n,l.length=n:=⟨_,rfl⟩;rw[hn]
 by_cases h0:0<=i
 ·obtain⟨k,rfl⟩:=Int.eq_ofNat_of_zero_le h0
  by_cases hk:k<n
  ·obtain⟨t,ht⟩:∃t,l[k]? = some t:=⟨_,List.getElem?_eq_getElem (by rw[hn];exact hk)⟩
   obtain⟨b,o,rfl,hb,c0,c1⟩:=hc k t ht;have hki:(k:Int)<(n:Int):=by omega
   have cC:=B.refCk t.s w (hz t (List.mem_of_getElem? ht));obtain⟨p,hp⟩:∃p,B.nck t.s=p:=⟨_,rfl⟩;rw[hp] at cC;have HE:Hid (namZ B.nck l (k:Int)=if decide (t.k=1)&&p then some t.s else none):=Lib.hid (by unfold namZ;rw[if_pos h0,Int.toNat_natCast];unfold nam;rw[ht,<- hp]);rw[HE.out];clear hc ht hn HE hp hz
   by_cases h3:t.k=1
   ·rw[decide_eq_true h3,Bool.true_and]
    cases p
    ·go_enter Tryz.func71,Tryz.ntmps71
     go_wp2_with fail;refine cC.mono ?_;rintro e w1 ⟨rfl,u1⟩;go_wp2_with fail
     go_ret2
     exact⟨rfl,u1⟩
    ·go_enter Tryz.func71,Tryz.ntmps71
     go_wp2_with fail;refine cC.mono ?_;rintro e w1 ⟨rfl,u1⟩;have c1':=(show Up w w1 from u1).cell c1;go_wp2_with fail
     go_ret2
     exact⟨rfl,u1⟩
   ·rw[decide_eq_false h3,Bool.false_and]
    go_enter Tryz.func71,Tryz.ntmps71
    go_wp2_with fail
    go_ret2
    exact⟨rfl,Up.refl _⟩
  ·have hki:¬(k:Int)<(n:Int):=by omega
   have HE:Hid (namZ B.nck l (k:Int)=none):=Lib.hid (by unfold namZ;rw[if_pos h0,Int.toNat_natCast,nK (by omega)]);rw[HE.out]
   go_enter Tryz.func71,Tryz.ntmps71
   go_wp2_with fail
   go_ret2
   exact⟨rfl,Up.refl _⟩
 ·have HE:Hid (namZ B.nck l i=none):=Lib.hid (by unfold namZ;rw[if_neg h0])
  rw[HE.out]
  go_enter Tryz.func71,Tryz.ntmps71
  go_wp2_with fail
  go_ret2
  exact⟨rfl,Up.refl _⟩
theorem pO (l:List Tk) (i:Int) (w:World) (v:Value) (hv:Tkm w v l) (hz:∀t∈l,t.s.size<=1000000000) :
  Calls Tryz.prog 72 #[v,.int .i64 i] w (NaP (namZ B.long l i) w):=by
 obtain⟨A,c,rfl,hc⟩:=hv;obtain⟨n,hn⟩:∃n,l.length=n:=⟨_,rfl⟩;rw[hn]
 by_cases h0:0<=i
 ·obtain⟨k,rfl⟩:=Int.eq_ofNat_of_zero_le h0
  by_cases hk:k<n
  ·obtain⟨t,ht⟩:∃t,l[k]? = some t:=⟨_,List.getElem?_eq_getElem (by rw[hn];exact hk)⟩
   obtain⟨b,o,rfl,hb,c0,c1⟩:=hc k t ht;have hki:(k:Int)<(n:Int):=by omega
   have cC:=B.zH3 t.s w (hz t (List.mem_of_getElem? ht));obtain⟨p,hp⟩:∃p,B.long t.s=p:=⟨_,rfl⟩;rw[hp] at cC;have HE:Hid (namZ B.long l (k:Int)=if decide (t.k=1)&&p then some t.s else none):=Lib.hid (by unfold namZ;rw[if_pos h0,Int.toNat_natCast];unfold nam;rw[ht,<- hp]);rw[HE.out];clear hc ht hn HE hp hz
   by_cases h3:t.k=1
   ·rw[decide_eq_true h3,Bool.true_and]
    cases p
    ·go_enter Tryz.func72,Tryz.ntmps72
     go_wp2_with fail;refine cC.mono ?_;rintro e w1 ⟨rfl,u1⟩;go_wp2_with fail
     go_ret2
     exact⟨rfl,u1⟩
    ·go_enter Tryz.func72,Tryz.ntmps72
     go_wp2_with fail;refine cC.mono ?_;rintro e w1 ⟨rfl,u1⟩;have c1':=(show Up w w1 from u1).cell c1;go_wp2_with fail
     go_ret2
     exact⟨rfl,u1⟩
   ·rw[decide_eq_false h3,Bool.false_and]
    go_enter Tryz.func72,Tryz.ntmps72
    go_wp2_with fail
    go_ret2
    exact⟨rfl,Up.refl _⟩
  ·have hki:¬(k:Int)<(n:Int):=by omega
   have HE:Hid (namZ B.long l (k:Int)=none):=Lib.hid (by unfold namZ;rw[if_pos h0,Int.toNat_natCast,nK (by omega)]);rw[HE.out]
   go_enter Tryz.func72,Tryz.ntmps72
   go_wp2_with fail
   go_ret2
   exact⟨rfl,Up.refl _⟩
 ·have HE:Hid (namZ B.long l i=none):=Lib.hid (by unfold namZ;rw[if_neg h0])
  rw[HE.out]
  go_enter Tryz.func72,Tryz.ntmps72
  go_wp2_with fail
  go_ret2
  exact⟨rfl,Up.refl _⟩
theorem zC (k:Int) (a:ByteArray) (A:Option Addr) (n c:Nat) (w:World) :
  Calls Tryz.prog 70 #[.int .i64 k,.string a,.slice A n c] w fun e w'=>e = .returned (.pointer (some ⟨w.heap.size,0,none⟩))/\w'=w.alloc (.cells #[.int .i64 k,.int .i64 0,.string a,.string ⟨#[]⟩,.slice A n c] 44):=by
 go_enter Tryz.func70,Tryz.ntmps70
 go_wp2_with fail
 go_ret
 exact⟨rfl,rfl⟩
section
variable {nk lg:ByteArray->Bool}
end
def RsV (R:Rs Tr) (w w':World) (v:Value) (j e:Int):Prop:=match R with
 | .inl (t,q)=>NewT w w' v t/\j=(q:Int)/\e=0
 | .inr (p,r)=>j=(p:Int)/\e=r/\∃A,v = .pointer A
def qJ (R:Rs Tr) (w:World) (e:Ending) (w':World):Prop:=∃v j er,e = .returned (.tuple #[v,.int .i64 j,.int .i64 er])/\RsV R w w' v j er/\Up w w'
theorem zTp {W w:World} {va vb:Value} {a b:Tr} {k:Int} (hW:W.heap.size<=w.heap.size) (ha:NewT W w va a) (hb:NewT W w vb b) :
  NewT W ((w.alloc (.cells #[va,vb] 24)).alloc (.cells #[.int .i64 k,.int .i64 0,.string nob,.string ⟨#[]⟩,.slice (some ⟨w.heap.size,0,none⟩) 2 2] 44)) (.pointer (some ⟨w.heap.size+1,0,none⟩)) (nd k nob (fr2 a b)):=by
 have e1:(w.alloc (.cells #[va,vb] 24)).heap.size=w.heap.size+1:=by simp
 rw[<- e1];obtain⟨W1,hW1⟩:∃W1,w.alloc (.cells #[va,vb] 24)=W1:=⟨_,rfl⟩;have s1:W1.heap[w.heap.size]? = some (.cells #[va,vb] 24 (0,0)):=by rw[<- hW1];exact heap_alloc_new w _
 have u1:Up w W1:=by rw[<- hW1];exact(Up.refl w).alloc _
 have z1:=u1.size;rw[hW1];obtain⟨W2,hW2⟩:∃W2,W1.alloc (.cells #[.int .i64 k,.int .i64 0,.string nob,.string ⟨#[]⟩,.slice (some ⟨w.heap.size,0,none⟩) 2 2] 44)=W2:=⟨_,rfl⟩;have s2:W2.heap[W1.heap.size]? = some (.cells #[.int .i64 k,.int .i64 0,.string nob,.string ⟨#[]⟩,.slice (some ⟨w.heap.size,0,none⟩) 2 2] 44 (0,0)):=by rw[<- hW2];exact heap_alloc_new W1 _
 have u2:Up W1 W2:=by rw[<- hW2];exact(Up.refl W1).alloc _
 have s3:W2.heap[w.heap.size]? = some (.cells #[va,vb] 24 (0,0)):=u2.row s1;rw[hW2];exact zR (x:=⟨k,0,nob,nob⟩) (f:=fr2 a b) s2 rfl (Nat.le_refl _) ⟨by omega,qC s2⟩ ⟨hW,qC s3⟩ ⟨⟨_,cell_of_row W2 w.heap.size 0 _ _ _ s3,ha.up (u1.trans u2)⟩,⟨_,cell_of_row W2 w.heap.size 1 _ _ _ s3,hb.up (u1.trans u2)⟩,trivial⟩
theorem zGx (l:List Tk) (i:Nat) (hi:i<=l.length) (hl:l.length<=1000000) (w:World) (v:Value) (hv:Tkm w v l)
  (cP:∀w',Up w w'->Calls Tryz.prog 183 #[v,.int .i64 (i:Int)] w' (qJ (prodL B.nck B.long l i) w'))
  (cT:∀j,i<j->j<=l.length->∀w',Up w w'->Calls Tryz.prog 160 #[v,.int .i64 (j:Int)] w' (qJ (typL B.nck B.long l j) w')) :
  Calls Tryz.prog 160 #[v,.int .i64 (i:Int)] w (qJ (typL B.nck B.long l i) w):=by
 have HV:=Lib.hid hv;have HT:=Lib.hid cT;have hp:=cP w (Up.refl w);have hst:=zZp (nk:=B.nck) (lg:=B.long) l i hi;have hah:=vG (nk:=B.nck) (lg:=B.long) l i;have HE:=Lib.hid (zUn (nk:=B.nck) (lg:=B.long) l i);rw[HE.out]
 cases hP:prodL B.nck B.long l i with
 | inr e=>
  obtain⟨p,er⟩:=e;rw[hP] at hp hst;obtain⟨hpl,her⟩:=hst;have hne:¬er=0:=her p er rfl;have hpl:p<=l.length:=hpl;clear hah hP cP cT hv HE
  go_enter Tryz.func160,Tryz.ntmps160
  go_wp2_with fail;refine hp.mono ?_;rintro e w1 ⟨va,ja,ea,rfl,⟨rfl,rfl,A1,rfl⟩,u1⟩;go_wp2_with fail
  go_ret3
  exact⟨_,_,_,rfl,⟨rfl,rfl,A1,rfl⟩,u1⟩
 | inl r=>
  obtain⟨a,j⟩:=r;rw[hP] at hp hst hah;have hjl:j<=l.length:=hst.1;have hij:i<j:=hah;have cK:=fun(W:World) (u:Up w W)=>kZ l (j:Int) kQ W v (HV.out.up u)
  have hkz:keyZ l (j:Int) kQ=key l j kQ:=by unfold keyZ;rw[decide_eq_true (by omega),Int.toNat_natCast,Bool.true_and]
  rw[hkz] at cK;have HS:Hid (typS kQ 5 l (.inl (a,j)) (typL B.nck B.long l)=if key l j kQ then (match typL B.nck B.long l (j+1) with
   | .inr e=>.inr e
   | .inl (b,q)=>.inl (nd 5 nob (fr2 a b),q)) else .inl (a,j)):=Lib.hid rfl
  rw[HS.out]
  cases hk:key l j kQ with
  | false=>
   rw[hk] at cK;rw[if_neg (by decide)];clear hah hP hst cP cT hv HE HS hkz
   go_enter Tryz.func160,Tryz.ntmps160
   go_wp2_with fail;refine hp.mono ?_;rintro e w1 ⟨va,ja,ea,rfl,⟨h1,rfl,rfl⟩,u1⟩;go_wp2_with fail;refine(cK w1 u1).mono ?_;rintro e w2 ⟨rfl,u2⟩;go_wp2_with fail
   go_ret3
   exact⟨_,_,_,rfl,⟨h1.up u2,rfl,rfl⟩,u1.trans u2⟩
  | true=>
   rw[hk] at cK;rw[if_pos rfl];have hlt:=zU hk;have cB:=HT.out (j+1) (by omega) (by omega);clear hah hP hst cP cT hv HE HS hkz
   cases hB:typL B.nck B.long l (j+1) with
   | inr e=>
    obtain⟨p,er⟩:=e;rw[hB] at cB;clear hB
    go_enter Tryz.func160,Tryz.ntmps160
    go_wp2_with fail;refine hp.mono ?_;rintro e w1 ⟨va,ja,ea,rfl,⟨h1,rfl,rfl⟩,u1⟩;obtain⟨q1,o1,rfl⟩:=InT.ptr h1;go_wp2_with fail;refine(cK w1 u1).mono ?_;rintro e w2 ⟨rfl,u2⟩;go_wp2_with fail;refine(cB w2 (u1.trans u2)).mono ?_;rintro e w3 ⟨vb,jb,eb,rfl,⟨rfl,rfl,A2,rfl⟩,u3⟩;go_wp2_with fail;refine(zC 5 nob _ _ _ _).mono ?_;rintro e w4 ⟨rfl,rfl⟩;go_wp2_with fail
    go_ret3
    exact⟨_,_,_,rfl,⟨rfl,rfl,_,rfl⟩,((((u1.trans u2).trans u3).alloc _).alloc _)⟩
   | inl r=>
    obtain⟨b,q⟩:=r;rw[hB] at cB;clear hB
    go_enter Tryz.func160,Tryz.ntmps160
    go_wp2_with fail;refine hp.mono ?_;rintro e w1 ⟨va,ja,ea,rfl,⟨h1,rfl,rfl⟩,u1⟩;obtain⟨q1,o1,rfl⟩:=InT.ptr h1;go_wp2_with fail;refine(cK w1 u1).mono ?_;rintro e w2 ⟨rfl,u2⟩;go_wp2_with fail;refine(cB w2 (u1.trans u2)).mono ?_;rintro e w3 ⟨vb,jb,eb,rfl,⟨h3,rfl,rfl⟩,u3⟩;obtain⟨q2,o2,rfl⟩:=InT.ptr h3;have hn2:=zTp (k:=5) (((u1.trans u2).trans u3).size) (h1.up (u2.trans u3)) (h3.base (u1.trans u2).size);go_wp2_with fail;refine(zC 5 nob _ _ _ _).mono ?_;rintro e w4 ⟨rfl,rfl⟩;go_wp2_with fail
    go_ret3
    exact⟨_,_,_,rfl,⟨hn2,rfl,rfl⟩,((((u1.trans u2).trans u3).alloc _).alloc _)⟩
theorem tR (l:List Tk) (i:Nat) (hi:i<=l.length) (hl:l.length<=1000000) (w:World) (v:Value) (hv:Tkm w v l)
  (cP:∀w',Up w w'->Calls Tryz.prog 212 #[v,.int .i64 (i:Int)] w' (qJ (atomL B.nck B.long l i) w'))
  (cT:∀j,i<j->j<=l.length->∀w',Up w w'->Calls Tryz.prog 183 #[v,.int .i64 (j:Int)] w' (qJ (prodL B.nck B.long l j) w')) :
  Calls Tryz.prog 183 #[v,.int .i64 (i:Int)] w (qJ (prodL B.nck B.long l i) w):=by
 have HV:=Lib.hid hv;have HT:=Lib.hid cT;have hp:=cP w (Up.refl w);have hst:=zZq (nk:=B.nck) (lg:=B.long) l i hi;have hah:=vH (nk:=B.nck) (lg:=B.long) l i;have HE:=Lib.hid (zZl (nk:=B.nck) (lg:=B.long) l i);rw[HE.out]
 cases hP:atomL B.nck B.long l i with
 | inr e=>
  obtain⟨p,er⟩:=e;rw[hP] at hp hst;obtain⟨hpl,her⟩:=hst;have hne:¬er=0:=her p er rfl;have hpl:p<=l.length:=hpl;clear hah hP cP cT hv HE
  go_enter Tryz.func183,Tryz.ntmps183
  go_wp2_with fail;refine hp.mono ?_;rintro e w1 ⟨va,ja,ea,rfl,⟨rfl,rfl,A1,rfl⟩,u1⟩;go_wp2_with fail
  go_ret3
  exact⟨_,_,_,rfl,⟨rfl,rfl,A1,rfl⟩,u1⟩
 | inl r=>
  obtain⟨a,j⟩:=r;rw[hP] at hp hst hah;have hjl:j<=l.length:=hst.1;have hij:i<j:=hah;have cK:=fun(W:World) (u:Up w W)=>kZ l (j:Int) kStar W v (HV.out.up u)
  have hkz:keyZ l (j:Int) kStar=key l j kStar:=by unfold keyZ;rw[decide_eq_true (by omega),Int.toNat_natCast,Bool.true_and]
  rw[hkz] at cK;have HS:Hid (typS kStar 6 l (.inl (a,j)) (prodL B.nck B.long l)=if key l j kStar then (match prodL B.nck B.long l (j+1) with
   | .inr e=>.inr e
   | .inl (b,q)=>.inl (nd 6 nob (fr2 a b),q)) else .inl (a,j)):=Lib.hid rfl
  rw[HS.out]
  cases hk:key l j kStar with
  | false=>
   rw[hk] at cK;rw[if_neg (by decide)];clear hah hP hst cP cT hv HE HS hkz
   go_enter Tryz.func183,Tryz.ntmps183
   go_wp2_with fail;refine hp.mono ?_;rintro e w1 ⟨va,ja,ea,rfl,⟨h1,rfl,rfl⟩,u1⟩;go_wp2_with fail;refine(cK w1 u1).mono ?_;rintro e w2 ⟨rfl,u2⟩;go_wp2_with fail
   go_ret3
   exact⟨_,_,_,rfl,⟨h1.up u2,rfl,rfl⟩,u1.trans u2⟩
  | true=>
   rw[hk] at cK;rw[if_pos rfl];have hlt:=zU hk;have cB:=HT.out (j+1) (by omega) (by omega);clear hah hP hst cP cT hv HE HS hkz
   cases hB:prodL B.nck B.long l (j+1) with
   | inr e=>
    obtain⟨p,er⟩:=e;rw[hB] at cB;clear hB
    go_enter Tryz.func183,Tryz.ntmps183
    go_wp2_with fail;refine hp.mono ?_;rintro e w1 ⟨va,ja,ea,rfl,⟨h1,rfl,rfl⟩,u1⟩;obtain⟨q1,o1,rfl⟩:=InT.ptr h1;go_wp2_with fail;refine(cK w1 u1).mono ?_;rintro e w2 ⟨rfl,u2⟩;go_wp2_with fail;refine(cB w2 (u1.trans u2)).mono ?_;rintro e w3 ⟨vb,jb,eb,rfl,⟨rfl,rfl,A2,rfl⟩,u3⟩;go_wp2_with fail;refine(zC 6 nob _ _ _ _).mono ?_;rintro e w4 ⟨rfl,rfl⟩;go_wp2_with fail
    go_ret3
    exact⟨_,_,_,rfl,⟨rfl,rfl,_,rfl⟩,((((u1.trans u2).trans u3).alloc _).alloc _)⟩
   | inl r=>
    obtain⟨b,q⟩:=r;rw[hB] at cB;clear hB
    go_enter Tryz.func183,Tryz.ntmps183
    go_wp2_with fail;refine hp.mono ?_;rintro e w1 ⟨va,ja,ea,rfl,⟨h1,rfl,rfl⟩,u1⟩;obtain⟨q1,o1,rfl⟩:=InT.ptr h1;go_wp2_with fail;refine(cK w1 u1).mono ?_;rintro e w2 ⟨rfl,u2⟩;go_wp2_with fail;refine(cB w2 (u1.trans u2)).mono ?_;rintro e w3 ⟨vb,jb,eb,rfl,⟨h3,rfl,rfl⟩,u3⟩;obtain⟨q2,o2,rfl⟩:=InT.ptr h3;have hn2:=zTp (k:=6) (((u1.trans u2).trans u3).size) (h1.up (u2.trans u3)) (h3.base (u1.trans u2).size);go_wp2_with fail;refine(zC 6 nob _ _ _ _).mono ?_;rintro e w4 ⟨rfl,rfl⟩;go_wp2_with fail
    go_ret3
    exact⟨_,_,_,rfl,⟨hn2,rfl,rfl⟩,((((u1.trans u2).trans u3).alloc _).alloc _)⟩
theorem u8_ne {c d:UInt8} (h:c≠d):((c.toNat:Int)==(d.toNat:Int))=false:=by
 rw[beq_eq_false_iff_ne];intro e;exact h (UInt8.toNat_inj.1 (by omega))
end Go.Proofs.YtgeghilbikljcaaGreatDoor
namespace Go.Proofs.YtgeghilbikljcaaGreatDoor
section
variable {nk lg:ByteArray->Bool} {l l':List Te} {d:Nat}
theorem zEa {α:Type} {N i:Nat} {R:Rs α} (h:In N i R) {a:α} {j:Nat} (hR:R = .inl (a,j)):j<=N:=by rw[hR] at h;exact h.2
end
end Go.Proofs.YtgeghilbikljcaaGreatDoor
