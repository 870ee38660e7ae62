/-
  Layer 8, the program: begins, Source.
-/
import Derived.Test.YtgeghilbikljcaaGreatDoorGs29
import Derived.Deep.DeepHandedRow
import Derived.Deep.DeepWitnessRowRef
import Derived.LaidLaws
import Derived.Lib.LaidIn
import Derived.Lib.LaidU8T
import Derived.MakeChecks
import Derived.OpenShut
import Derived.ProofKit
import Derived.SizedLaws
set_option maxHeartbeats 40000000
set_option maxRecDepth 100000
namespace Go.Proofs.YtgeghilbikljcaaGreatDoor
open Go.RowKit
def Tka (w:World) (v:Value) (l:List (B.Tok×Nat)):Prop:=∃A c,v = .slice A l.length c/\∀(j:Nat) x,l[j]? = some x->∃b o,A=some ⟨b,o,none⟩/\b<w.heap.size/\w.cell? ⟨b,o+j*4+3,none⟩=some (.int .i64 ((x.2:Nat):Int))
theorem Tka.up {W w:World} {v:Value} {l:List (B.Tok×Nat)} (h:Tka W v l) (u:Up W w):Tka w v l:=by
 obtain⟨A,c,hv,hc⟩:=h;refine⟨A,c,hv,fun j x hx=>?_⟩;obtain⟨b,o,h1,h2,h3⟩:=hc j x hx;exact⟨b,o,h1,Nat.lt_of_lt_of_le h2 u.size,u.cell h3⟩
theorem zCr {w:World} {v:Value} {l:List (B.Tok×Nat)} (h:B.Tks w w.heap.size v l):Tka w v l:=by
 obtain⟨A,c,hv,hc⟩:=h;refine⟨A,c,hv,fun j x hx=>?_⟩;obtain⟨ad,hA,hlt,hcell⟩:=hc j x hx;have hj:j<l.length:=(List.getElem?_eq_some_iff.1 hx).1;obtain⟨x0,hx0⟩:∃x0,l[0]? = some x0:=⟨_,List.getElem?_eq_getElem (by omega)⟩;obtain⟨ad0,hA0,_,hcell0⟩:=hc 0 x0 hx0;have e0:ad0=ad:=by rw[hA] at hA0;exact(Option.some.inj hA0).symm
 subst e0;have h0:=hcell0 0 _ rfl;have hsp:ad0.spot=none:=by
  have e:ad0.add (0*4+0)=ad0:=by simp[Addr.add]
  rw[e] at h0;unfold World.cell? at h0
  cases hs:ad0.spot with
  | none=>rfl
  | some z=>
   rw[hs] at h0
   cases hh:w.heap[ad0.block]? with
   | none=>rw[hh] at h0;cases h0
   | some ob=>rw[hh] at h0;cases ob<;>simp at h0
 have ha:∀i,ad0.add i=⟨ad0.block,ad0.off+i,none⟩:=fun i=>by
  unfold Addr.add
  split
  ·rename_i hi
   subst hi;rw[<- hsp]
   rfl
  ·rfl
 have c3:=hcell 3 _ rfl;rw[ha,<- Nat.add_assoc] at c3;exact⟨ad0.block,ad0.off,by rw[hA,<- hsp],hlt,c3⟩
theorem bT (s:ByteArray) (r:List (B.Tok×Nat)) (p:Nat) (hp:p<=r.length) (v:Value) (w:World) (hv:Tka w v r) :
  Calls Tryz.prog 32 #[.string s,v,.int .i64 (p:Int)] w fun e w'=>e = .returned (.int .i64 (jP r s p))/\Up w w':=by
 obtain⟨A,c,rfl,hc⟩:=hv
 by_cases h:p=r.length
 ·have e:jP r s p=(s.size:Int):=by
   unfold jP;rw[List.getElem?_eq_none (by omega)]
  rw[e];have hz:(p:Int)=(r.length:Int):=by omega
  clear hc
  go_enter Tryz.func32,Tryz.ntmps32
  go_wp2_with fail
  go_ret
  exact⟨rfl,Up.refl _⟩
 ·obtain⟨x,hx⟩:∃x,r[p]? = some x:=⟨_,List.getElem?_eq_getElem (by omega)⟩
  obtain⟨b,o,rfl,hb,h3⟩:=hc p x hx;have e:jP r s p=((x.2:Nat):Int):=by
   unfold jP;rw[hx]
  rw[e];obtain⟨at9,hat⟩:∃a,((x.2:Nat):Int)=a:=⟨_,rfl⟩;rw[hat] at h3 ⊢;obtain⟨n,hn⟩:∃n,r.length=n:=⟨_,rfl⟩;rw[hn] at h hp ⊢;have hz:¬(p:Int)=(n:Int):=by omega
  have hlt:(p:Int)<(n:Int):=by omega
  have h0:¬(p:Int)<0:=by omega
  clear hc hx hat hn e
  go_enter Tryz.func32,Tryz.ntmps32
  go_wp2_with fail
  go_ret
  exact⟨rfl,Up.refl _⟩
def SouP (R:Option Tr×Int×Int) (w:World) (e:Ending) (w':World):Prop:=∃v,e = .returned (.tuple #[v,.int .i64 R.2.1,.int .i64 R.2.2])/\Up w w'/\match R.1 with
 | some t=>NewT w w' v t
 | none=>v = .pointer none
theorem KidsP.node {W0 W w:World} {A:Option Addr} {n c:Nat} {f:Fr} (h:KidsP W w (.slice A n c) f) (k:Int) (s:ByteArray) (hW:W0.heap.size<=W.heap.size) (hw:W0.heap.size<=w.heap.size) :
  NewT W0 (w.alloc (.cells #[.int .i64 k,.int .i64 0,.string s,.string ⟨#[]⟩,.slice A n c] 44)) (.pointer (some ⟨w.heap.size,0,none⟩)) (nd k s f):=by
 obtain⟨A',c',hv,hc,h4⟩:=h;injection hv with h1 h2 h3;subst h1 h2 h3;obtain⟨W2,hW2⟩:∃W2,w.alloc (.cells #[.int .i64 k,.int .i64 0,.string s,.string ⟨#[]⟩,.slice A f.len c] 44)=W2:=⟨_,rfl⟩;have u2:Up w W2:=by rw[<- hW2];exact(Up.refl w).alloc _
 have z2:W2.heap.size=w.heap.size+1:=by rw[<- hW2];simp
 have s2:W2.heap[w.heap.size]? = some (.cells #[.int .i64 k,.int .i64 0,.string s,.string ⟨#[]⟩,.slice A f.len c] 44 (0,0)):=by rw[<- hW2];exact heap_alloc_new w _
 rw[hW2];refine⟨w.heap.size,0,A,c,rfl,⟨hw,by omega⟩,⟨_,_,s2⟩,cell_of_row W2 _ 0 _ _ _ s2,cell_of_row W2 _ 1 _ _ _ s2,cell_of_row W2 _ 2 _ _ _ s2,cell_of_row W2 _ 3 _ _ _ s2,cell_of_row W2 _ 4 _ _ _ s2,hc,fun h0=>?_⟩;obtain⟨g,rfl,hg,hf⟩:=h4 h0;exact⟨g,0,rfl,⟨by have:=hg.1;omega,by have:=hg.2;omega⟩,InF.keep (fun q hq=>⟨by have:=hq.1;omega,by have:=hq.2;omega⟩) (fun q hq=>Below.block u2 q hq.2) hg hf⟩
theorem zQ5 {s:ByteArray} (hs:s.size<=16384) {l:List (B.Tok×Nat)} {a b:Int} (h:B.lexR s=(l,a,b)):l.length<=16384/\∀t∈tqs l,t.t.s.size<=1000000000:=by
 obtain⟨h1,h2⟩:=zLv hs h;refine⟨h1,fun t ht=>?_⟩;obtain⟨x,hx,rfl⟩:=List.mem_map.1 ht;exact h2 (tkq x) (List.mem_map.2 ⟨x,hx,rfl⟩)
theorem zQ6 {s:ByteArray} (h:16384<s.size):B.lexR s=([],0,3):=by
 have e:B.ckr s=(0,3):=by unfold B.ckr;rw[if_pos h]
 unfold B.lexR;rw[e]
 rfl
theorem bU (s:ByteArray) (hs:s.size<=1000000000) (m:Nat) (hm:3*(B.lexR s).1.length+4<=m) (w:World) (hx:Vx7 w):Calls Tryz.prog 17 #[.string s] w (SouP (srcZ m s) w):=by
 obtain⟨l,a,bb,hr⟩:∃l a b,B.lexR s=(l,a,b):=⟨_,_,_,rfl⟩;have hlq:bb=0->l.length<=16384/\∀t∈tqs l,t.t.s.size<=1000000000:=fun h0=>by
  by_cases hz:s.size<=16384
  ·exact zQ5 hz hr
  ·rw[zQ6 (by omega)] at hr
   injection hr with h1 h2;injection h2 with h2 h3;omega
 have cL:=B.zIp s hs w hx.lx;have hab:bb=0->a=0:=fun h0=>by
  rcases B.nG hr with ⟨_,hb,_⟩ | ⟨h,_⟩
  ·exact hb
  ·exact absurd h0 h
 obtain⟨S,hS⟩:∃S,srcZ m s=S:=⟨_,rfl⟩;have hS1:=hS.symm;unfold srcZ at hS1;rw[hr] at cL hm hS1;simp only at hm hS1;rw[hS];have HX:=Lib.hid hx;have HS:=Lib.hid hS1;have HLQ:=Lib.hid hlq;have HAB:=Lib.hid hab;clear hS hS1 hr hx hlq hab
 go_enter Tryz.func17,Tryz.ntmps17
 go_wp2_with fail;refine cL.mono ?_;rintro en w1 ⟨v,rfl,ht,hb1⟩;have u1:Up w w1:=hb1
 by_cases hb:bb=0
 ·have ha:=HAB.out hb
  obtain⟨hl,hlz⟩:=HLQ.out hb;have HLZ:=Lib.hid hlz;clear HLQ hlz;subst ha hb;have tk:=zCn ht;have ta:=zCr ht;have cD:=zLu (tqs l) true 0 (by rw[pM];omega) HLZ.out m (by rw[pM];omega) w1 v tk (HX.out.up u1).nx (HX.out.up u1).px.2 (HX.out.up u1).px.1;have e0:declZ B.nck B.long (tqs l) m true 0=declF B.nck B.long (tqs l) m true 0:=if_neg (by omega);rw[e0] at cD;have hin:=xM (nk:=B.nck) (lg:=B.long) (l:=tqs l) (n:=m) (i:=0) (top:=true) (Nat.zero_le _);have hsz:=(xV (l:=tqs l) zRz eX m).2.2.1 true 0;have hS:=HS.out;rw[if_pos rfl] at hS;obtain⟨X,hX⟩:∃X,declF B.nck B.long (tqs l) m true 0=X:=⟨_,rfl⟩;rw[hX] at cD hin hS hsz;have hSZ:∀f j,X = .inl (f,j)->f.sz<=32768:=fun f j h=>by
   have h1:=(hsz f j h).sz;rw[h] at hin;have h2:j<=(tqs l).length:=hin.2;rw[pM] at h2;omega
  rw[pM] at hin;have HS2:=Lib.hid hS;have HSZ:=Lib.hid hSZ;have U1:=Lib.hid u1;have TA:=Lib.hid ta;obtain⟨tA,tc,rfl⟩:∃A c,v = .slice A l.length c:=by obtain⟨A,c,h,_⟩:=ta;exact⟨A,c,h⟩
  clear ht hb1 u1 tk ta e0 hX hS hSZ hsz HS cL HLZ HAB hm;go_wp2_with fail;refine cD.mono ?_;rintro en w2 ⟨A,n,c,j,er,rfl,u2,hV⟩;have TA2:=Lib.hid (TA.out.up u2);have U2:=Lib.hid (U1.out.trans u2);have U12:=Lib.hid u2;clear u2 cD TA
  cases X with
  | inr x=>
   obtain⟨p,r⟩:=x;obtain⟨rfl,rfl,rfl,rfl⟩:=hV;have hp:p<=l.length:=hin.2.1;have hr:¬er=0:=by have:=hin.2.2;omega
   have cB:=bT s l p hp _ w2 TA2.out;clear hin TA2;go_wp2_with fail;refine cB.mono ?_;rintro en w3 ⟨rfl,u3⟩;have U3:=Lib.hid u3;clear u3 cB;go_wp2_with fail
   go_ret3
   rw[HS2.out];exact⟨_,rfl,U2.out.trans U3.out,rfl⟩
  | inl x=>
   obtain⟨f,q⟩:=x;obtain⟨hk,rfl,rfl⟩:=hV;have hq:q<=l.length:=hin.2
   by_cases hlt:q<l.length
   ·have hS:=HS2.out
    unfold srcD at hS;simp only at hS;rw[if_pos hlt] at hS;have HS3:=Lib.hid hS;have hlz:(q:Int)<(l.length:Int):=by omega
    have cB:=bT s l q hq _ w2 TA2.out;clear hin TA2 hS HS2 hk;go_wp2_with fail;refine cB.mono ?_;rintro en w3 ⟨rfl,u3⟩;have U3:=Lib.hid u3;clear u3 cB;go_wp2_with fail
    go_ret3
    rw[HS3.out];exact⟨_,rfl,U2.out.trans U3.out,rfl⟩
   ·have hS:=HS2.out
    unfold srcD at hS;simp only at hS;rw[if_neg hlt] at hS;have HS3:=Lib.hid hS;have hlz:¬(q:Int)<(l.length:Int):=by omega
    have hsz:=HSZ.out f q rfl;have hz1:=U1.out.size;have hz2:=U2.out.size;have hn:=hk.node (W0:=w) 80 nob hz1 hz2;obtain⟨w3,hw3⟩:∃x,w2.alloc (.cells #[.int .i64 80,.int .i64 0,.string ⟨#[]⟩,.string ⟨#[]⟩,.slice A n c] 44)=x:=⟨_,rfl⟩;have u3:Up w2 w3:=by rw[<- hw3];exact(Up.refl _).alloc _
    have hn:NewT w w3 (.pointer (some ⟨w2.heap.size,0,none⟩)) (progT f):=by rw[<- hw3];exact hn
    have hpz:szT (progT f)<=65536:=by rw[zGs];omega
    have cS:=uSize (some (progT f)) hn.has hpz (Up.refl w3);have hdz:dpO (some (progT f))=dpT (progT f):=rfl;have hsz2:szO (some (progT f))=szT (progT f):=rfl;rw[hsz2] at cS;obtain⟨zs,hzs⟩:∃z,szT (progT f)=z:=⟨_,rfl⟩;obtain⟨zd,hzd⟩:∃z,dpT (progT f)=z:=⟨_,rfl⟩;rw[hzs] at cS hpz;have hS3:=HS3.out;rw[hzs,hzd] at hS3;have HS4:=Lib.hid hS3;have HN:=Lib.hid hn;have U3:=Lib.hid (U2.out.trans u3);have HW3:=Lib.hid hw3;have HD:Hid (∀w',Up w3 w'->Calls Tryz.prog 34 #[.pointer (some ⟨w2.heap.size,0,none⟩)] w' (NuP zd w3)):=Lib.hid fun w' u=>by
     have c:=uDeep (some (progT f)) hn.has (by show szT (progT f)<=_;omega) u;rw[hdz,hzd] at c;exact c
    clear hin TA2 hS HS2 HS3 hS3 hk hn hw3 u3 hdz hsz2 hzs hzd hsz HSZ;go_wp2_with fail;rw[HW3.out];refine cS.mono ?_;rintro en w4 ⟨rfl,u4⟩;have cD:=HD.out w4 u4;have U4:=Lib.hid u4;clear u4 cS
    by_cases h1:8192<zs
    ·have h1z:(8192:Int)<(zs:Int):=by omega
     have hS:=HS4.out;rw[if_pos h1] at hS;have HS5:=Lib.hid hS;clear hS HS4 HN;go_wp2_with fail
     go_ret3
     rw[HS5.out];exact⟨_,rfl,U3.out.trans U4.out,rfl⟩
    ·have h1z:¬(8192:Int)<(zs:Int):=by omega
     have hS:=HS4.out;rw[if_neg h1] at hS;have HS5:=Lib.hid hS;clear hS HS4;go_wp2_with fail;refine cD.mono ?_;rintro en w5 ⟨rfl,u5⟩;have U5:=Lib.hid u5;clear u5 cD
     by_cases h2:60<zd
     ·have h2z:(60:Int)<(zd:Int):=by omega
      have hS:=HS5.out;rw[if_pos h2] at hS;have HS6:=Lib.hid hS;clear hS HS5 HN;go_wp2_with fail
      go_ret3
      rw[HS6.out];exact⟨_,rfl,U3.out.trans U5.out,rfl⟩
     ·have h2z:¬(60:Int)<(zd:Int):=by omega
      have hS:=HS5.out;rw[if_neg h2] at hS;have HS6:=Lib.hid hS;clear hS HS5;go_wp2_with fail
      go_ret3
      rw[HS6.out];exact⟨_,rfl,U3.out.trans U5.out,HN.out.up U5.out⟩
 ·have hS:=HS.out
  rw[if_neg hb] at hS;have HS2:=Lib.hid hS;have U1:=Lib.hid u1;clear ht hb1 u1 hS HS cL HLQ HAB hm;go_wp2_with fail
  go_ret3
  rw[HS2.out];exact⟨_,rfl,U1.out,rfl⟩
def zCs:ByteArray:=⟨#[115,116,114,117,99,116,117,114,101,32,77,32,61,32,70,40,78,41,32,58,62,32,83,32,119,104,101,114,101,32,116,121,112,101,32,116,32,61,32,105,110,116]⟩
def exA8:Tr:=nd 42 ⟨#[70]⟩ (fr1 (nd 41 ⟨#[78]⟩ .nil))
def exW8:Tr:=nd 52 ⟨#[116]⟩ (fr2 (nd 51 ⟨#[83]⟩ .nil) (nd 1 nob .nil))
def exM8:Tr:=(⟨43,1,nob,nob⟩,fr2 exA8 exW8)
def exD8:Tr:=nd 73 ⟨#[77]⟩ (fr1 exM8)
theorem zGt:3*(B.lexR zCs).1.length+4=46:=by kernel_rfl
theorem zGu:srcZ 46 zCs=(some (progT (fr1 exD8)),0,0):=by kernel_rfl
theorem zCt {w:World} {S:Nat->Prop} {v:Value} (h:InT w S v (progT (fr1 exD8))):∃q p k0 o0 c0 q1 p1 k1 o1 c1 q2 p2 k2 o2 c2 q3 p3 q4 p4,v = .pointer (some ⟨q,p,none⟩)/\w.cell? ⟨q,p,none⟩=some (.int .i64 80)/\w.cell? ⟨q,p+4,none⟩=some (.slice (some ⟨k0,o0,none⟩) 1 c0)/\
  w.cell? ⟨k0,o0,none⟩=some (.pointer (some ⟨q1,p1,none⟩))/\w.cell? ⟨q1,p1,none⟩=some (.int .i64 73)/\w.cell? ⟨q1,p1+4,none⟩=some (.slice (some ⟨k1,o1,none⟩) 1 c1)/\
  w.cell? ⟨k1,o1,none⟩=some (.pointer (some ⟨q2,p2,none⟩))/\w.cell? ⟨q2,p2,none⟩=some (.int .i64 43)/\w.cell? ⟨q2,p2+1,none⟩=some (.int .i64 1)/\w.cell? ⟨q2,p2+4,none⟩=some (.slice (some ⟨k2,o2,none⟩) 2 c2)/\
  w.cell? ⟨k2,o2,none⟩=some (.pointer (some ⟨q3,p3,none⟩))/\w.cell? ⟨k2,o2+1,none⟩=some (.pointer (some ⟨q4,p4,none⟩))/\w.cell? ⟨q3,p3,none⟩=some (.int .i64 42)/\w.cell? ⟨q4,p4,none⟩=some (.int .i64 52)/\w.cell? ⟨q4,p4+2,none⟩=some (.string ⟨#[116]⟩):=by
 obtain⟨q,p,A,c,rfl,hq,a0,a1,a2,a3,a4,hc,hkid⟩:=InT.open h;obtain⟨k0,o0,rfl,hk0,⟨va,ca,ia⟩,-⟩:=hkid (by show 0<1;omega);obtain⟨q1,p1,A1,c1,rfl,hq1,b0,b1,b2,b3,b4,hc1,hkid1⟩:=InT.open (x:=⟨73,0,⟨#[77]⟩,nob⟩) (ks:=fr1 exM8) ia;obtain⟨k1,o1,rfl,hk1,⟨vb,cb,ib⟩,-⟩:=hkid1 (by show 0<1;omega);obtain⟨q2,p2,A2,c2,rfl,hq2,d0,d1,d2,d3,d4,hc2,hkid2⟩:=InT.open (x:=⟨43,1,nob,nob⟩) (ks:=fr2 exA8 exW8) ib;obtain⟨k2,o2,rfl,hk2,⟨vc,cc,ic⟩,⟨vd,cd,id⟩,-⟩:=hkid2 (by show 0<2;omega);obtain⟨q3,p3,A3,c3,rfl,hq3,e0,-⟩:=InT.open (x:=⟨42,0,⟨#[70]⟩,nob⟩) (ks:=fr1 (nd 41 ⟨#[78]⟩ .nil)) ic;obtain⟨q4,p4,A4,c4,rfl,hq4,f0,f1,f2,-⟩:=InT.open (x:=⟨52,0,⟨#[116]⟩,nob⟩) (ks:=fr2 (nd 51 ⟨#[83]⟩ .nil) (nd 1 nob .nil)) id;exact⟨q,p,k0,o0,c,q1,p1,k1,o1,c1,q2,p2,k2,o2,c2,q3,p3,q4,p4,rfl,a0,a4,ca,b0,b4,cb,d0,d1,d4,cc,cd,e0,f0,f2⟩
theorem uN {W w:World} (hx:Vx7 W) (hu:Up W w):Calls Tryz.prog 13 #[] w (BoP true W):=by
 have cS:=bU zCs (by decide) 46 (by rw[zGt];omega) w (hx.up hu);rw[zGu] at cS;have HU:=Lib.hid hu;clear hx hu
 go_enter Tryz.func13,Tryz.ntmps13
 go_wp2_with fail;refine Calls.mono cS ?_;rintro e w1 ⟨v,rfl,u1,hn⟩;obtain⟨q,p,k0,o0,c0,q1,p1,k1,o1,c1,q2,p2,k2,o2,c2,q3,p3,q4,p4,rfl,a0,a4,ca,b0,b4,cb,d0,d1,d4,cc,cd,e0,f0,f2⟩:=zCt hn;have hnil:∀W,(binOp .eql 24 (.pointer (some ⟨q,p,none⟩)) (.pointer none)).run Tryz.prog W = .ok (.bool false) W:=fun W=>zZx W _
 have U1:=Lib.hid (HU.out.trans u1);clear hn u1 cS;go_wp2_with fail
 go_ret
 exact gP rfl U1.out
theorem iZ:(Tryz.prog.info? 47).map (fun i=>(i.zero,i.size,i.bytes))=some (some (.agg #[.int .i64 0,.string ⟨#[]⟩,.int .i64 0,.int .i64 0]),4,40):=by kernel_rfl
end Go.Proofs.YtgeghilbikljcaaGreatDoor
namespace Go.Proofs.YtgeghilbikljcaaGreatDoor
open Go.ChangeShapes Go.WideShapes Go.ChangeAt Go.RowKit Go.Lib
theorem xN {w:World} {n:String} {d:DataW Unit} (h:VarReads Tryz.prog w n d) {g:Nat} {t:TypeId} (hg:Tryz.prog.globalNamed n=some g) (ht:(Tryz.prog.globals[g]?).map (·.type)=some t) :
  ∃cs fuel p,w.var? Tryz.prog n=some cs/\(∃e z,w.heap[g]? = some (.cells cs e z))/\DataW.trod (fun _=>()) Tryz.prog w 0 (fun _=>true) false fuel t cs.toList=some (d,p):=by
 obtain⟨g',t',cs,fuel,p,h1,h2,h3,h4⟩:=h;obtain rfl:=Option.some.inj (hg.symm.trans h1);obtain rfl:=Option.some.inj (ht.symm.trans h2);refine⟨cs,fuel,p,h3,?_,h4⟩;unfold World.var? at h3;rw[hg] at h3;simp only[Option.bind_some] at h3
 split at h3
 ·rename_i cs' e z he
  injection h3 with h3;subst h3;exact⟨e,z,he⟩
 ·cases h3
theorem uO {w:World} {fuel:Nat} {a b:Value} {s:List UInt8} {k:Int} {p:List MemPlace}
  (h:DataW.trod (fun _=>()) Tryz.prog w 0 (fun _=>true) false fuel 200 [a,b]=some (.agg [.lit (.string s),.lit (.int .i64 k)],p)):a = .string ⟨s.toArray⟩/\b = .int .i64 k:=by
 obtain⟨ys,n,_,hx,_,hyl,hf⟩:=DataW.trod_struct Tryz.underlying200 h;have hy2:ys.length=2:=hyl
 match ys,hy2 with
 | [y0,y1],_=>
  have g0:DataW.trod (fun _=>()) Tryz.prog w 0 (fun _=>true) false n 9 [a]=some y0:=hf 0 _ rfl;have g1:DataW.trod (fun _=>()) Tryz.prog w 0 (fun _=>true) false n 3 [b]=some y1:=hf 1 _ rfl;obtain⟨s',e0,f0,_⟩:=DataW.trod_string Tryz.underlying9 g0;obtain⟨k',e1,f1,_⟩:=DataW.trod_int Tryz.underlying3 g1;subst f0 f1;have hx:=congrArg Prod.fst hx;simp only[List.map_cons,List.map_nil,DataW.agg.injEq,List.cons.injEq,DataW.lit.injEq,Lit.string.injEq,Lit.int.injEq,and_true,true_and] at hx;injection e0 with e0;injection e1 with e1;exact⟨by rw[e0,hx.1],by rw[e1,hx.2]⟩
theorem zQ7 {w:World} {fuel:Nat} {cs:Array Value} {p:List MemPlace}
  (h:DataW.trod (fun _=>()) Tryz.prog w 0 (fun _=>true) false fuel 201 cs.toList=some (Rows.laid_marquetry_ptype_plain,p)):cs.toList=plV.toList:=by
 obtain⟨xs,m,_,hx,hlen,hxl,hel⟩:=DataW.trod_array Tryz.underlying201 h;have h6:Tryz.prog.cellsOf 201=6:=by kernel_rfl
 have h2:Tryz.prog.cellsOf 200=2:=by kernel_rfl
 rw[h6] at hlen;rw[h2] at hel;have e0:=hel 0 (by omega);have e1:=hel 1 (by omega);have e2:=hel 2 (by omega);have hx:=congrArg Prod.fst hx
 generalize cs.toList=l at *
 match l,hlen,xs,hxl with
 | [a,b,c,d,e,f],_,[x0,x1,x2],_=>
  have hx:Rows.laid_marquetry_ptype_plain=DataW.agg [x0.1,x1.1,x2.1]:=hx;unfold Rows.laid_marquetry_ptype_plain at hx;simp only[DataW.agg.injEq,List.cons.injEq,and_true] at hx;obtain⟨q0,q1,q2⟩:=hx;obtain⟨y0,p0⟩:=x0;obtain⟨y1,p1⟩:=x1;obtain⟨y2,p2⟩:=x2;simp only at q0 q1 q2;subst q0 q1 q2;obtain⟨r0,r1⟩:=uO e0;obtain⟨r2,r3⟩:=uO e1;obtain⟨r4,r5⟩:=uO e2;rw[r0,r1,r2,r3,r4,r5]
  rfl
theorem pN {w:World} {fuel:Nat} {a b c d e:Value} {s:List UInt8} {k1 k2 k3 k4:Int} {p:List MemPlace}
  (h:DataW.trod (fun _=>()) Tryz.prog w 0 (fun _=>true) false fuel 230 [a,b,c,d,e]=some (.agg [.lit (.string s),.lit (.int .i64 k1),.lit (.int .i64 k2),.lit (.int .i64 k3),.lit (.int .i64 k4)],p)):a = .string ⟨s.toArray⟩/\b = .int .i64 k1/\c = .int .i64 k2/\d = .int .i64 k3/\e = .int .i64 k4:=by
 obtain⟨ys,n,_,hx,_,hyl,hf⟩:=DataW.trod_struct Tryz.underlying230 h;have hy2:ys.length=5:=hyl
 match ys,hy2 with
 | [y0,y1,y2,y3,y4],_=>
  have g0:DataW.trod (fun _=>()) Tryz.prog w 0 (fun _=>true) false n 9 [a]=some y0:=hf 0 _ rfl;have g1:DataW.trod (fun _=>()) Tryz.prog w 0 (fun _=>true) false n 3 [b]=some y1:=hf 1 _ rfl;have g2:DataW.trod (fun _=>()) Tryz.prog w 0 (fun _=>true) false n 3 [c]=some y2:=hf 2 _ rfl;have g3:DataW.trod (fun _=>()) Tryz.prog w 0 (fun _=>true) false n 3 [d]=some y3:=hf 3 _ rfl;have g4:DataW.trod (fun _=>()) Tryz.prog w 0 (fun _=>true) false n 3 [e]=some y4:=hf 4 _ rfl;obtain⟨s',e0,f0,_⟩:=DataW.trod_string Tryz.underlying9 g0;obtain⟨k1',e1,f1,_⟩:=DataW.trod_int Tryz.underlying3 g1;obtain⟨k2',e2,f2,_⟩:=DataW.trod_int Tryz.underlying3 g2;obtain⟨k3',e3,f3,_⟩:=DataW.trod_int Tryz.underlying3 g3;obtain⟨k4',e4,f4,_⟩:=DataW.trod_int Tryz.underlying3 g4;subst f0 f1 f2 f3 f4;have hx:=congrArg Prod.fst hx;simp only[List.map_cons,List.map_nil,DataW.agg.injEq,List.cons.injEq,DataW.lit.injEq,Lit.string.injEq,Lit.int.injEq,and_true,true_and] at hx;obtain⟨x0,x1,x2,x3,x4⟩:=hx;injection e0 with e0;injection e1 with e1;injection e2 with e2;injection e3 with e3;injection e4 with e4;exact⟨by rw[e0,x0],by rw[e1,x1],by rw[e2,x2],by rw[e3,x3],by rw[e4,x4]⟩
theorem zK0 {w:World} {fuel:Nat} {cs:Array Value} {p:List MemPlace}
  (h:DataW.trod (fun _=>()) Tryz.prog w 0 (fun _=>true) false fuel 231 cs.toList=some (Rows.laid_marquetry_pexpr_operators,p)):cs.toList=opV.toList:=by
 obtain⟨xs,m,_,hx,hlen,hxl,hel⟩:=DataW.trod_array Tryz.underlying231 h;have h6:Tryz.prog.cellsOf 231=25:=by kernel_rfl
 have h2:Tryz.prog.cellsOf 230=5:=by kernel_rfl
 rw[h6] at hlen;rw[h2] at hel;have e0:=hel 0 (by omega);have e1:=hel 1 (by omega);have e2:=hel 2 (by omega);have e3:=hel 3 (by omega);have e4:=hel 4 (by omega);have hx:=congrArg Prod.fst hx
 generalize cs.toList=l at *
 match l,hlen,xs,hxl with
 | [v0,v1,v2,v3,v4,v5,v6,v7,v8,v9,v10,v11,v12,v13,v14,v15,v16,v17,v18,v19,v20,v21,v22,v23,v24],_,[x0,x1,x2,x3,x4],_=>
  have hx:Rows.laid_marquetry_pexpr_operators=DataW.agg [x0.1,x1.1,x2.1,x3.1,x4.1]:=hx;unfold Rows.laid_marquetry_pexpr_operators at hx;simp only[DataW.agg.injEq,List.cons.injEq,and_true] at hx;obtain⟨q0,q1,q2,q3,q4⟩:=hx;obtain⟨y0,p0⟩:=x0;obtain⟨y1,p1⟩:=x1;obtain⟨y2,p2⟩:=x2;obtain⟨y3,p3⟩:=x3;obtain⟨y4,p4⟩:=x4;simp only at q0 q1 q2 q3 q4;subst q0 q1 q2 q3 q4;obtain⟨a0,a1,a2,a3,a4⟩:=pN e0;obtain⟨b0,b1,b2,b3,b4⟩:=pN e1;obtain⟨c0,c1,c2,c3,c4⟩:=pN e2;obtain⟨d0,d1,d2,d3,d4⟩:=pN e3;obtain⟨f0,f1,f2,f3,f4⟩:=pN e4;rw[a0,a1,a2,a3,a4,b0,b1,b2,b3,b4,c0,c1,c2,c3,c4,d0,d1,d2,d3,d4,f0,f1,f2,f3,f4]
  rfl
theorem zCu {W:World} (rd:∀n d,(n,d)∈(Rows.pmodParsesRow.laid:List (String×DataW Unit))->VarReads Tryz.prog W n d):Px7 W:=by
 have h7:=rd "marquetry/ptype.plain" Rows.laid_marquetry_ptype_plain (by simp[Rows.pmodParsesRow]);have h8:=rd "marquetry/pexpr.operators" Rows.laid_marquetry_pexpr_operators (by simp[Rows.pmodParsesRow]);refine⟨?_,?_⟩
 ·obtain⟨cs,fuel,p,_,⟨e,z,k2⟩,k3⟩:=xN h8 (g:=7) (t:=231) (by kernel_rfl) (by kernel_rfl)
  refine⟨e,z,?_⟩;rw[k2]
  congr 2
  apply Array.ext'
  exact zK0 k3
 ·obtain⟨cs,fuel,p,_,⟨e,z,k2⟩,k3⟩:=xN h7 (g:=4) (t:=201) (by kernel_rfl) (by kernel_rfl)
  refine⟨e,z,?_⟩;rw[k2]
  congr 2
  apply Array.ext'
  exact zQ7 k3
theorem fY:ownKnob Tryz.prog.godebug=none:=by kernel_rfl
def laidL:List (String×DataW Unit):=Rows.pmodParsesRow.laid
theorem zK1:Rows.laid_unicode_utf8_first=Lib.firstData:=by kernel_rfl
theorem zQ8:(Rows.laid_unicode_utf8_acceptRanges:DataW Unit)=Lib.acceptData:=by kernel_rfl
theorem zCv:(Rows.laid_internal_strconv_uint64pow10:DataW Unit)=Lib.tabData .u64 Lib.pow10Tab:=by kernel_rfl
theorem zK2:(Rows.laid_marquetry_lexer_signs:DataW Unit) = .agg (B.SIGNS.map fun x=>.lit (.string (B.u8 x))):=by kernel_rfl
theorem zK3 {w:World} {n:String} {nm:String} {d:DataW Unit} (h:VarReads Tryz.prog w n (.iface nm d)) {g:Nat} {t:TypeId} (hg:Tryz.prog.globalNamed n=some g) (ht:(Tryz.prog.globals[g]?).map (·.type)=some t) {ms:Array (String×TypeId)} (hi:Tryz.prog.underlying t=some (.interface ms)):B.ErrIs w g:=by
 obtain⟨cs,fuel,p,h1,⟨e,z,h2⟩,h3⟩:=xN h hg ht;obtain⟨_,u,v,h4,_,_⟩:=iface_of_trod hi h3;refine⟨.iface u v,?_,.inr ⟨u,v,rfl⟩⟩;rw[cell_of_row w g 0 cs e z h2];have:cs[0]? = cs.toList[0]?:=by simp
 rw[this,h4]
 rfl
theorem zGv {w:World} {fuel:Nat} {t e:TypeId} {cs:List Value} {zs:List (List UInt8)} {p:List MemPlace} (ht:Tryz.prog.underlying t=some (.array zs.length e)) (he:Tryz.prog.underlying e=some .string) (hce:Tryz.prog.cellsOf e=1) (hct:Tryz.prog.cellsOf t=zs.length)
  (h:DataW.trod (fun _=>()) Tryz.prog w 0 (fun _=>true) false fuel t cs=some (.agg (zs.map fun z=>.lit (.string z)),p)):cs=zs.map fun z=>Value.string ⟨z.toArray⟩:=by
 obtain⟨xs,m,_,hx,hlen,hxl,hel⟩:=DataW.trod_array ht h;rw[hct] at hlen
 apply List.ext_getElem (by simpa using hlen)
 intro i h1 h2;have hi:i<zs.length:=by simpa using h2
 have hk:=hel i hi;rw[hce,Nat.mul_one] at hk;have hcs:(cs.drop i).take 1=[cs[i]]:=by
  rw[List.drop_eq_getElem_cons h1]
  rfl
 have hxi:xs[i]? = some (xs[i]'(by omega)):=List.getElem?_eq_getElem (by omega);rw[hcs,hxi] at hk;obtain⟨s,hs,hy,_⟩:=DataW.trod_string he hk;have e1:(xs.map (·.1))[i]? = (zs.map fun z=>(DataW.lit (.string z):DataW Unit))[i]?:=by
  have:=congrArg Prod.fst hx;simp only[DataW.agg.injEq] at this;rw[this]
 rw[List.getElem?_map,List.getElem?_map,hxi,List.getElem?_eq_getElem hi] at e1;simp only[Option.map_some,Option.some.injEq] at e1;rw[hy] at e1;simp only[DataW.lit.injEq,Lit.string.injEq] at e1;rw[(List.cons.inj hs).1,List.getElem_map,<- e1]
theorem zCw:(B.sgV.toList)=(B.SIGNS.map B.u8).map fun z=>Value.string ⟨z.toArray⟩:=by kernel_rfl
theorem zVb {W:World} {l:List (String×DataW Unit)} (h:laidMetH Tryz.prog l W) (hl:l=laidL) (hsh:W.ShapedOpen Tryz.prog):Vx7 W:=by
 subst hl;have h:laidMet Tryz.prog laidL W:=h;have rd:∀n d,(n,d)∈laidL->VarReads Tryz.prog W n d:=fun n d hm=>Lib.laidMet.reads h hm
 have h1:=rd "unicode/utf8.first" Rows.laid_unicode_utf8_first (by simp[laidL,Rows.pmodParsesRow])
 have h2:=rd "unicode/utf8.acceptRanges" Rows.laid_unicode_utf8_acceptRanges (by simp[laidL,Rows.pmodParsesRow]);have h3:=rd "internal/strconv.uint64pow10" Rows.laid_internal_strconv_uint64pow10 (by simp[laidL,Rows.pmodParsesRow]);have h4:=rd "strconv.ErrSyntax" Rows.laid_strconv_ErrSyntax (by simp[laidL,Rows.pmodParsesRow]);have h5:=rd "strconv.ErrRange" Rows.laid_strconv_ErrRange (by simp[laidL,Rows.pmodParsesRow]);have h6:=rd "marquetry/lexer.signs" Rows.laid_marquetry_lexer_signs (by simp[laidL,Rows.pmodParsesRow]);rw[zK1] at h1;rw[zQ8] at h2;rw[zCv] at h3;rw[zK2] at h6;refine⟨⟨utf8Tabs_of_readsT (U8Types.of260 Tryz.lays260) ⟨by kernel_rfl,by kernel_rfl,by kernel_rfl,by kernel_rfl,by kernel_rfl,by kernel_rfl,by kernel_rfl⟩ h1 h2,?_,Tryz.laysM143.s1_3 W hsh,
  zK3 h4 (g:=5) (by kernel_rfl) (by kernel_rfl) Tryz.underlying135,zK3 h5 (g:=6) (by kernel_rfl) (by kernel_rfl) Tryz.underlying135,?_⟩,?_⟩
 ·obtain⟨cs,fuel,p,k1,_,k3⟩:=xN h3 (g:=8) (t:=233) (by kernel_rfl) (by kernel_rfl)
  unfold TabIs;rw[k1,<- Lib.cells_of_tab (t:=233) (n:=20) (e:=168) (by kernel_rfl) (by kernel_rfl) (by kernel_rfl) (by kernel_rfl) k3]
 ·obtain⟨cs,fuel,p,_,⟨e,z,k2⟩,k3⟩:=xN h6 (g:=0) (t:=139) (by kernel_rfl) (by kernel_rfl)
  refine⟨e,z,?_⟩;have hm:(B.SIGNS.map fun x=>(DataW.lit (.string (B.u8 x)):DataW Unit))=(B.SIGNS.map B.u8).map fun z=>.lit (.string z):=by rw[List.map_map];rfl
  rw[hm] at k3;have k4:=zGv (t:=139) (e:=9) (by kernel_rfl) (by kernel_rfl) (by kernel_rfl) (by kernel_rfl) k3;rw[k2]
  congr 2
  apply Array.ext'
  rw[k4,zCw]
 ·exact zCu fun n d hm=>rd n d (by simpa [laidL] using hm)
def litV:DataW Unit->Value
 | .lit (.int k z)=>.int k z
 | .lit (.string l)=>.string ⟨l.toArray⟩
 | _=>undef
def rowV:DataW Unit->Array Value
 | .agg ds=>(ds.map litV).toArray
 | _=>#[]
def txtV:DataW Unit->Value
 | .iface _ (.ptr (.agg [d]))=>litV d
 | _=>undef
noncomputable def laidWorld (os:Os):World:=
 let w0:=World.holding Tryz.prog os ⟨#[],#[],[]⟩
 let put (h:Array Obj) (g:Nat) (cs:Array Value):Array Obj:=h.modify g fun
  | .cells _ t frozen=>.cells cs t frozen
  | o=>o
 let h1:=put w0.heap 1 (Lib.firstTab.map fun z=>Value.int .u8 z).toArray
 let h2:=put h1 2 ((List.range 16).flatMap fun i=>[Value.int .u8 (Lib.accLo i),Value.int .u8 (Lib.accHi i)]).toArray
 let h3:=put h2 8 (rowV Rows.laid_internal_strconv_uint64pow10)
 let h4:=put h3 9 (rowV Rows.laid_math_bits_deBruijn32tab)
 let h5:=put h4 10 (rowV Rows.laid_math_bits_deBruijn64tab)
 let h6:=put h5 0 (rowV Rows.laid_marquetry_lexer_signs)
 let h6:=put h6 4 plV
 let h6:=put h6 7 opV
 let n:=h6.size
 let h7:=put h6 6 #[.iface 218 (.pointer (some ⟨n,0,none⟩))]
 let h8:=put h7 5 #[.iface 218 (.pointer (some ⟨n+1,0,none⟩))]
 let h9:=(h8.push (.cells #[txtV Rows.laid_strconv_ErrRange] 220 (0,0))).push (.cells #[txtV Rows.laid_strconv_ErrSyntax] 220 (0,0))
 {w0 with heap:=h9}
end Go.Proofs.YtgeghilbikljcaaGreatDoor
