/-
  The laws of layer 8: works.
-/
import Derived.Test.YtgeghilbikljcaaGreatDoorGj30
import Derived.Deep.DeepHandedRow
import Derived.Deep.DeepWitnessRowRef
import Derived.LaidLaws
import Derived.Lib.LaidIn
import Derived.Lib.LaidU8T
import Derived.MakeChecks
import Derived.OpenShut
import Derived.ProofKit
import Derived.SizedLaws
set_option maxHeartbeats 40000000
set_option maxRecDepth 100000
namespace Go.Proofs.YtgeghilbikljcaaGreatDoor
open Go.RowKit
def zJd:ByteArray:=⟨#[115,116,114,117,99,116,117,114,101,32,77,32,61,32,70,40,78,41,32,58,62,32,83,32,119,104,101,114,101,32,116,121,112,101,32,116,32,61,32,105,110,116]⟩
def exA8:Tr:=nd 42 ⟨#[70]⟩ (fr1 (nd 41 ⟨#[78]⟩ .nil))
def exW8:Tr:=nd 52 ⟨#[116]⟩ (fr2 (nd 51 ⟨#[83]⟩ .nil) (nd 1 nob .nil))
def exM8:Tr:=(⟨43,1,nob,nob⟩,fr2 exA8 exW8)
def exD8:Tr:=nd 73 ⟨#[77]⟩ (fr1 exM8)
theorem zM4:3*(B.lexR zJd).1.length+4=46:=by kernel_rfl
theorem zM5:srcZ 46 zJd=(some (progT (fr1 exD8)),0,0):=by kernel_rfl
theorem zJe {w:World} {S:Nat->Prop} {v:Value} (h:InT w S v (progT (fr1 exD8))):∃q p k0 o0 c0 q1 p1 k1 o1 c1 q2 p2 k2 o2 c2 q3 p3 q4 p4,v = .pointer (some ⟨q,p,none⟩)/\w.cell? ⟨q,p,none⟩=some (.int .i64 80)/\w.cell? ⟨q,p+4,none⟩=some (.slice (some ⟨k0,o0,none⟩) 1 c0)/\
  w.cell? ⟨k0,o0,none⟩=some (.pointer (some ⟨q1,p1,none⟩))/\w.cell? ⟨q1,p1,none⟩=some (.int .i64 73)/\w.cell? ⟨q1,p1+4,none⟩=some (.slice (some ⟨k1,o1,none⟩) 1 c1)/\
  w.cell? ⟨k1,o1,none⟩=some (.pointer (some ⟨q2,p2,none⟩))/\w.cell? ⟨q2,p2,none⟩=some (.int .i64 43)/\w.cell? ⟨q2,p2+1,none⟩=some (.int .i64 1)/\w.cell? ⟨q2,p2+4,none⟩=some (.slice (some ⟨k2,o2,none⟩) 2 c2)/\
  w.cell? ⟨k2,o2,none⟩=some (.pointer (some ⟨q3,p3,none⟩))/\w.cell? ⟨k2,o2+1,none⟩=some (.pointer (some ⟨q4,p4,none⟩))/\w.cell? ⟨q3,p3,none⟩=some (.int .i64 42)/\w.cell? ⟨q4,p4,none⟩=some (.int .i64 52)/\w.cell? ⟨q4,p4+2,none⟩=some (.string ⟨#[116]⟩):=by
 obtain⟨q,p,A,c,rfl,hq,a0,a1,a2,a3,a4,hc,hkid⟩:=InT.open h;obtain⟨k0,o0,rfl,hk0,⟨va,ca,ia⟩,-⟩:=hkid (by show 0<1;omega);obtain⟨q1,p1,A1,c1,rfl,hq1,b0,b1,b2,b3,b4,hc1,hkid1⟩:=InT.open (x:=⟨73,0,⟨#[77]⟩,nob⟩) (ks:=fr1 exM8) ia;obtain⟨k1,o1,rfl,hk1,⟨vb,cb,ib⟩,-⟩:=hkid1 (by show 0<1;omega);obtain⟨q2,p2,A2,c2,rfl,hq2,d0,d1,d2,d3,d4,hc2,hkid2⟩:=InT.open (x:=⟨43,1,nob,nob⟩) (ks:=fr2 exA8 exW8) ib;obtain⟨k2,o2,rfl,hk2,⟨vc,cc,ic⟩,⟨vd,cd,id⟩,-⟩:=hkid2 (by show 0<2;omega);obtain⟨q3,p3,A3,c3,rfl,hq3,e0,-⟩:=InT.open (x:=⟨42,0,⟨#[70]⟩,nob⟩) (ks:=fr1 (nd 41 ⟨#[78]⟩ .nil)) ic;obtain⟨q4,p4,A4,c4,rfl,hq4,f0,f1,f2,-⟩:=InT.open (x:=⟨52,0,⟨#[116]⟩,nob⟩) (ks:=fr2 (nd 51 ⟨#[83]⟩ .nil) (nd 1 nob .nil)) id;exact⟨q,p,k0,o0,c,q1,p1,k1,o1,c1,q2,p2,k2,o2,c2,q3,p3,q4,p4,rfl,a0,a4,ca,b0,b4,cb,d0,d1,d4,cc,cd,e0,f0,f2⟩
theorem zP1 {W w:World} (hx:Vx7 W) (hu:Up W w):Calls Tryz.prog 13 #[] w (BoP true W):=by
 have cS:=vO zJd (by decide) 46 (by rw[zM4];omega) w (hx.up hu);rw[zM5] at cS;have HU:=Lib.hid hu;clear hx hu
 go_enter Tryz.func13,Tryz.ntmps13
 go_wp2_with fail;refine Calls.mono cS ?_;rintro e w1 ⟨v,rfl,u1,hn⟩;obtain⟨q,p,k0,o0,c0,q1,p1,k1,o1,c1,q2,p2,k2,o2,c2,q3,p3,q4,p4,rfl,a0,a4,ca,b0,b4,cb,d0,d1,d4,cc,cd,e0,f0,f2⟩:=zJe hn;have hnil:∀W,(binOp .eql 24 (.pointer (some ⟨q,p,none⟩)) (.pointer none)).run Tryz.prog W = .ok (.bool false) W:=fun W=>gM W _
 have U1:=Lib.hid (HU.out.trans u1);clear hn u1 cS;go_wp2_with fail
 go_ret
 exact gO rfl U1.out
theorem zXq:(Tryz.prog.info? 47).map (fun i=>(i.zero,i.size,i.bytes))=some (some (.agg #[.int .i64 0,.string ⟨#[]⟩,.int .i64 0,.int .i64 0]),4,40):=by kernel_rfl
def wM (w:World) (v:Value) (f:Fr):Prop:=∃A c,v = .slice A f.len c/\∀(j:Nat) t,f.get j=some t->∃b o u,A=some ⟨b,o,none⟩/\b<w.heap.size/\w.cell? ⟨b,o+j,none⟩=some u/\HasT w u (some t)
theorem wM.up {W w:World} {v:Value} {f:Fr} (h:wM W v f) (u:Up W w):wM w v f:=by
 obtain⟨A,c,hv,hc⟩:=h;refine⟨A,c,hv,fun j t ht=>?_⟩;obtain⟨b,o,x,h1,h2,h3,h4⟩:=hc j t ht;exact⟨b,o,x,h1,Nat.lt_of_lt_of_le h2 u.size,u.cell h3,h4.up u⟩
theorem wM.nil (w:World):wM w (.slice none 0 0) .nil:=⟨none,0,rfl,fun j t h=>by cases h⟩
theorem zZb (f:Fr) {W w:World} {v v':Value} (h:wM W v f) (h':wM W v' f) (hz:f.sz<=65536) (u:Up W w) :
  Calls Tryz.prog 16 #[v,v'] w (BoP true W):=by
 obtain⟨A,c,rfl,hA⟩:=h.up u;obtain⟨A',c',rfl,hA'⟩:=h'.up u;have H1:=Lib.hid hA;have H2:=Lib.hid hA';have HU:=Lib.hid u;obtain⟨N,hN⟩:∃N,f.len=N:=⟨_,rfl⟩;have HN:=Lib.hid hN;have hNz:N<=65536:=by have:=Fr.len_le f;omega
 rw[hN];clear hA hA' hN u h h'
 go_enter Tryz.func16,Tryz.ntmps16
 go_wp2_with fail
 go_loopw [13] (fun i wr=>∃k:Nat,i = .int .i64 k/\k<=N/\∃q,wr=w.drewN q) (fun i _=>N-(intOf i).toNat)
 case atStart=>exact⟨0,rfl,Nat.zero_le _,0,rfl⟩
 case round=>
  obtain⟨k,rfl,hk,q,rfl⟩:=hrel
  by_cases hlt:k<N
  ·obtain⟨x,hx⟩:∃x,f.get k=some x:=Fr.get_some (by rw[HN.out];exact hlt)
   obtain⟨b1,o1,pv1,rfl,_,hc1,hp1⟩:=H1.out k x hx;obtain⟨b2,o2,pv2,rfl,_,hc2,hp2⟩:=H2.out k x hx;have hxs:=Fr.get_sz hx;have cI:=fun m=>zS7 (some x) (some x) (w.drewN m) _ _ pv1 pv2 (hp1.up (Up.drewN (Up.refl w) m)) (hp2.up (Up.drewN (Up.refl w) m)) (by show szT x<=_;omega) true ⟨fun _=>rfl,fun _=>rfl⟩
   have hlz:(k:Int)<(N:Int):=by omega
   have HCI:=Lib.hid cI;have hw1:wrap64 ((k:Int)+1)=((k+1:Nat):Int):=by unfold wrap64;omega
   obtain⟨⟨q1,p1,A1,d1,rfl,-⟩,-⟩:(∃q p A c,pv1 = .pointer (some ⟨q,p,none⟩)/\True)/\True:=by
    obtain⟨q,p,A,c,h,-⟩:=InT.open hp1;exact⟨⟨q,p,A,c,h,trivial⟩,trivial⟩
   obtain⟨⟨q2,p2,A2,d2,rfl,-⟩,-⟩:(∃q p A c,pv2 = .pointer (some ⟨q,p,none⟩)/\True)/\True:=by
    obtain⟨q,p,A,c,h,-⟩:=InT.open hp2;exact⟨⟨q,p,A,c,h,trivial⟩,trivial⟩
   clear hx hp1 hp2 hxs cI;go_wp2_with fail
   go_quiet ((go_at_call 12;exact mR (HCI.out _)))
   go_wp2_with fail
   go_roundw
   case rel=>exact⟨k+1,by go_num,by omega,_,rfl⟩
   case measure=>simp[intOf];omega
  ·have hlz:¬(k:Int)<(N:Int):=by omega
   go_wp2_with fail
   go_ret
   exact gO rfl (HU.out.drewN _)
end Go.Proofs.YtgeghilbikljcaaGreatDoor
namespace Go.Proofs.YtgeghilbikljcaaGreatDoor
theorem zJf {m:Nat} {s:ByteArray} {l:List (B.Tok×Nat)} (h:B.lexR s=(l,0,0)):srcZ m s=srcD s l (declF B.nck B.long (tqs l) m true 0):=by
 unfold srcZ;rw[h];exact if_pos rfl
theorem zM6 {r r':List (B.Tok×Nat)} (h:r.map (·.1)=r'.map (·.1)):tqs r=tqs r':=by
 have e:∀x:List (B.Tok×Nat),tqs x=(x.map (·.1)).map fun u=>(⟨⟨u.k,B.T u.x⟩,u.n⟩:Te):=fun x=>by unfold tqs;rw[List.map_map];rfl
 rw[e,e,h]
theorem zM7 (r r':List (B.Tok×Nat)):tqs (r++r')=tqs r++tqs r':=List.map_append ..
theorem rW {m:Nat} {s:ByteArray} {t:Tr} {a e:Int} (h:srcZ m s=(some t,a,e)):∃l f,B.lexR s=(l,0,0)/\declF B.nck B.long (tqs l) m true 0 = .inl (f,l.length)/\t=progT f/\szT t<=8192/\dpT t<=60:=by
 obtain⟨l,b,c,hl⟩:∃l b c,B.lexR s=(l,b,c):=⟨_,_,_,rfl⟩;unfold srcZ at h;rw[hl] at h;simp only at h
 split at h
 ·rename_i hc
  subst hc;have hb:b=0:=by
   rcases B.jU hl with ⟨_,hb,_⟩ | ⟨h,_⟩
   ·exact hb
   ·exact absurd rfl h
  subst hb;unfold srcD at h
  split at h
  ·cases h
  ·rename_i f j hd
   have hin:=xW (nk:=B.nck) (lg:=B.long) (l:=tqs l) (n:=m) (i:=0) (top:=true) (Nat.zero_le _);rw[hd] at hin;have hj:=hin.2;rw[yQ] at hj
   split at h
   ·cases h
   ·split at h
    ·cases h
    ·split at h
     ·cases h
     ·injection h with h3 h4
      injection h3 with h3;subst h3;have e:j=l.length:=by omega
      subst e;exact⟨l,f,hl,hd,rfl,by omega,by omega⟩
 ·cases h
theorem zP2 {m:Nat} {a b s:ByteArray} {x y:Tr} {p e p' e':Int} (hn:∀s,B.nck s=true->s.size<=128) (hg:∀s,B.long s=true->s.size<=128) (ha:srcZ m a=(some x,p,e)) (hb:srcZ m b=(some y,p',e')) (hza:a.size<=700) (hzb:b.size<=700)
  (hs:s.data.toList=a.data.toList++10::b.data.toList) (hm:1500<m):∃f g,x=progT f/\y=progT g/\srcZ m s=(some (progT (f.app g)),0,0):=by
 obtain⟨la,f,l1,d1,rfl,-,p1⟩:=rW ha;obtain⟨lb,g,l2,d2,rfl,-,p2⟩:=rW hb;refine⟨f,g,rfl,rfl,?_⟩;obtain⟨r,h1,h2⟩:=zX6 l1 l2 (by omega) hs;have na:la.length<=700:=by
  rcases B.jU l1 with ⟨_,_,L,tL,lL⟩ | ⟨h,_⟩
  ·have:=B.tN tL lL;omega
  ·exact absurd rfl h
 have nb:lb.length<=700:=by
  rcases B.jU l2 with ⟨_,_,L,tL,lL⟩ | ⟨h,_⟩
  ·have:=B.tN tL lL;omega
  ·exact absurd rfl h
 have hr:tqs r=tqs la++tqs lb:=by
  rw[<- zM7];exact zM6 (by rw[h2,List.map_append])
 have hlen:r.length=la.length+lb.length:=by
  have:=congrArg List.length hr;rw[List.length_append,yQ,yQ,yQ] at this;exact this
 have hd:=zUr (nk:=B.nck) (lg:=B.long) (a:=tqs la) (b:=tqs lb) (n:=m) (f:=f) (g:=g) (by rw[yQ];exact d1) (by rw[yQ];exact d2) (by rw[yQ,yQ];omega);rw[yQ,yQ,<- hr] at hd;have s1:=((wW (l:=tqs la) hn hg m).2.2.1 true 0 f _ d1).sz;have s2:=((wW (l:=tqs lb) hn hg m).2.2.1 true 0 g _ d2).sz;rw[zWu] at p1 p2;rw[zJf h1,hd];unfold srcD;simp only;rw[if_neg (by omega),if_neg (by rw[sO,Fr.sz_app];omega),if_neg (by rw[zWu,Fr.dp_app];omega)]
end Go.Proofs.YtgeghilbikljcaaGreatDoor
namespace Go.Proofs.YtgeghilbikljcaaGreatDoor
open Go.RowKit
theorem zWv {m:Nat} {s:ByteArray} (h:¬(srcZ m s).2.2=0):(srcZ m s).1=none:=by
 unfold srcZ at h ⊢
 split
 ·rename_i h0
  rw[if_pos h0] at h;unfold srcD at h ⊢
  split
  ·rfl
  ·split
   ·rfl
   ·split
    ·rfl
    ·split
     ·rfl
     ·rename_i hd h1 h2 h3
      rw[hd] at h;simp only at h;rw[if_neg h1,if_neg h2,if_neg h3] at h;exact absurd rfl h
 ·rfl
theorem iM (m:Nat) (s:ByteArray):szO (srcZ m s).1<=8192:=by
 obtain⟨o,a,e,h⟩:∃o a e,srcZ m s=(o,a,e):=⟨_,_,_,rfl⟩;rw[h]
 cases o with
 | none=>exact Nat.zero_le _
 | some t=>obtain⟨_,_,_,_,_,h3,_⟩:=rW h;exact h3
theorem SouP.has {o:Option Tr} {a e:Int} {w w':World} {en:Ending} (h:SouP (o,a,e) w en w'):∃v,en = .returned (.tuple #[v,.int .i64 a,.int .i64 e])/\Up w w'/\HasT w' v o:=by
 obtain⟨v,h1,h2,h3⟩:=h;refine⟨v,h1,h2,?_⟩
 cases o with
 | none=>exact h3
 | some t=>exact NewT.has h3
theorem aH {m:Nat} {s:ByteArray} {a e:Int} (h:srcZ m s=(none,a,e)):¬e=0:=by
 unfold srcZ at h
 split at h
 ·unfold srcD at h
  split at h
  ·rename_i p er hd
   injection h with _ h;injection h with h1 h2;have hin:=xW (nk:=B.nck) (lg:=B.long) (l:=tqs (B.lexR s).1) (n:=m) (i:=0) (top:=true) (Nat.zero_le _);rw[hd] at hin;have:=hin.2.2;omega
  ·split at h
   ·injection h with _ h
    injection h with h1 h2;omega
   ·split at h
    ·injection h with _ h
     injection h with h1 h2;omega
    ·split at h
     ·injection h with _ h
      injection h with h1 h2;omega
     ·cases h
 ·rename_i hne
  injection h with _ h;injection h with h1 h2;rw[<- h2];exact hne
theorem zX7 (a b:Nat) (ha:a<=100000) (hb:b<=100000):IntKind.i64.wrap ((a:Int)+(b:Int))=((a+b:Nat):Int):=by rw[IntKind.wrap_i64];omega
theorem zUu (a b:ByteArray):(a++(⟨#[10]⟩:ByteArray)++b).data.toList=a.data.toList++10::b.data.toList:=by
 simp only[ByteArray.data_append,Array.toList_append,List.append_assoc]
 rfl
theorem zP3 (a b:ByteArray) (ha:a.size<=700) (hb:b.size<=700):(a++(⟨#[10]⟩:ByteArray)++b).size<=1500:=by
 have h1:(⟨#[10]⟩:ByteArray).size=1:=rfl;rw[ByteArray.size_append,ByteArray.size_append,h1];omega
theorem Fr.get_appL {a b:Fr} {j:Nat} {t:Tr} (h:a.get j=some t):(a.app b).get j=some t:=by
 induction a generalizing j with
 | nil=>cases h
 | cons x k r _ ih=>
  cases j with
  | zero=>exact h
  | succ j=>exact ih h
theorem Fr.get_appR (a b:Fr) (j:Nat):(a.app b).get (a.len+j)=b.get j:=by
 induction a with
 | nil=>rw[show Fr.nil.len+j=j from Nat.zero_add j];rfl
 | cons x k r _ ih=>rw[show(Fr.cons x k r).len+j=(r.len+j)+1 by show r.len+1+j=_;omega];exact ih
theorem wM.kid {w:World} {A A':Option Addr} {F f:Fr} {n c p:Nat} (h:Kid w (fun q=>q<w.heap.size) A F 0) (hn:f.len=n) (hg:∀(j:Nat) t,f.get j=some t->F.get (p+j)=some t) (hA:0<n->∀kb ko,A=some ⟨kb,ko,none⟩->A'=some ⟨kb,ko+p,none⟩):wM w (.slice A' n c) f:=by
 refine⟨A',c,by rw[hn],fun j t ht=>?_⟩;obtain⟨kb,ko,v,h1,h2,h3,h4⟩:=h.at (hg j t ht);have hlt:=Fr.get_lt ht;exact⟨kb,ko+p,v,hA (by omega) kb ko h1,h2,by rw[Nat.add_assoc];exact h3,h4⟩
theorem dD (A:Option Addr) (n m c:Nat) (hc:n+m<=c):∃B D,(0<n->∀kb ko,A=some ⟨kb,ko,none⟩->B=some ⟨kb,ko+0,none⟩)/\(0<m->∀kb ko,A=some ⟨kb,ko,none⟩->D=some ⟨kb,ko+n,none⟩)/\
  (∀W,(Instr.slice 33 (.slice A (n+m) c) none (some (.int .i64 (n:Int))) none).run Tryz.prog W = .ok (.slice B n c) W)/\
  (∀W,(Instr.slice 33 (.slice A (n+m) c) (some (.int .i64 (n:Int))) none none).run Tryz.prog W = .ok (.slice D m (c-n)) W):=by
 have ht:Tryz.prog.underlying 33=some (.slice (Tryz.prog.elem 33)):=by kernel_rfl
 have hs:∀W,(sizeOf (Tryz.prog.elem 33)).run Tryz.prog W = .ok 1 W:=fun W=>by kernel_rfl
 refine⟨if c=0 then A else A.map (·.add (0*1)),if n+m=n/\c=n then A else if c=n then A else A.map (·.add (n*1)),fun hn kb ko hA=>?_,fun hm kb ko hA=>?_,fun W=>?_,fun W=>?_⟩
 ·rw[if_neg (by omega),hA]
  rfl
 ·rw[if_neg (by omega),if_neg (by omega),hA,Nat.mul_one]
  show some ((⟨kb,ko,none⟩:Addr).add n)=_
  unfold Addr.add
  split
  ·rename_i h
   rw[h,Nat.add_zero]
  ·rfl
 ·rw[run_slice_h W _ _ _ _ ht .i64 _ (by omega) (by omega),hs]
  show Result.ok (sliced A 0 (n:Int).toNat c 1) W=_
  unfold sliced;rw[Int.toNat_natCast,Nat.sub_zero,Nat.sub_zero]
 ·rw[run_slice_l W _ _ _ _ ht .i64 _ (by omega) (by omega),hs]
  show Result.ok (sliced A (n:Int).toNat (n+m) c 1) W=_
  unfold sliced;rw[Int.toNat_natCast,Nat.add_sub_cancel_left]
  by_cases h:n+m=n/\c=n
  ·rw[if_pos h,if_pos h.2]
  ·rw[if_neg h]
theorem zUv (s t:ByteArray) (w:World) (hx:Vx7 w) (hs:s.size<=9223372036854775807) (ht:t.size<=9223372036854775807) :
  Calls Tryz.prog 6 #[.string s,.string t] w (BoP true w):=by
 have HX:=Lib.hid hx;clear hx;obtain⟨M,hM⟩:∃M:Nat,min s.size 700=M:=⟨_,rfl⟩;have hm1:(if (700:Int)<(s.size:Int) then (700:Int) else (s.size:Int))=(M:Int):=by split<;>omega
 have hm2:min (s.size:Int) 700=(M:Int):=by omega
 have hm3:(M:Int)<=(s.size:Int):=by omega
 obtain⟨K,hK⟩:∃M:Nat,min t.size 700=M:=⟨_,rfl⟩;have hk1:(if (700:Int)<(t.size:Int) then (700:Int) else (t.size:Int))=(K:Int):=by split<;>omega
 have hk2:min (t.size:Int) 700=(K:Int):=by omega
 have hk3:(K:Int)<=(t.size:Int):=by omega
 have hzs:(s.extract 0 M).size<=700:=by rw[Lib.size_eq,Lib.extract_data,List.length_take];omega
 have hzt:(t.extract 0 K).size<=700:=by rw[Lib.size_eq,Lib.extract_data,List.length_take];omega
 go_enter Tryz.func6,Tryz.ntmps6
 go_wp2_with fail
 go_quiet (fail)
 go_wp2_with fail;obtain⟨X,hX⟩:∃X,s.extract 0 M=X:=⟨_,rfl⟩;obtain⟨Y,hY⟩:∃X,t.extract 0 K=X:=⟨_,rfl⟩;rw[hX] at hzs ⊢;rw[hY] at hzt ⊢;clear hX hY hm1 hm2 hm3 hM hk1 hk2 hk3 hK;have U0:Hid (Up w (w.drewN nq)):=Lib.hid ((Up.refl w).drewN nq);obtain⟨w0,hw0⟩:∃x,w.drewN nq=x:=⟨_,rfl⟩;rw[hw0] at U0 ⊢;clear hw0;obtain⟨m,hm⟩:∃m,3*(B.lexR X).1.length+4+(3*(B.lexR Y).1.length+4)+(3*(B.lexR (X++(⟨#[10]⟩:ByteArray)++Y)).1.length+4)+1501=m:=⟨_,rfl⟩;have hjz:=zP3 X Y hzs hzt;have HS:Hid (∀T:ByteArray,T=X\/T=Y\/T=X++(⟨#[10]⟩:ByteArray)++Y->∀w',Up w w'->Calls Tryz.prog 17 #[.string T] w' (SouP (srcZ m T) w')):=Lib.hid fun T hT w' u=>by
  rcases hT with rfl | rfl | rfl
  ·exact vO _ (by omega) m (by omega) w' (HX.out.up u)
  ·exact vO _ (by omega) m (by omega) w' (HX.out.up u)
  ·exact vO _ (by omega) m (by omega) w' (HX.out.up u)
 have hj:∀x y p e p' e',srcZ m X=(some x,p,e)->srcZ m Y=(some y,p',e')->∃f g,x=progT f/\y=progT g/\srcZ m (X++(⟨#[10]⟩:ByteArray)++Y)=(some (progT (f.app g)),0,0):=fun x y p e p' e' h1 h2=>zP2 nck7 zMf h1 h2 hzs hzt (zUu X Y) (by omega)
 have cS1:=HS.out X (.inl rfl) w0 U0.out;have cS2:=HS.out Y (.inr (.inl rfl));have hz1:=iM m X;have hz2:=iM m Y;have hz3:=iM m (X++(⟨#[10]⟩:ByteArray)++Y);have hn1:=fun a e h=>aH (m:=m) (s:=X) (a:=a) (e:=e) h
 have hn2:=fun a e h=>aH (m:=m) (s:=Y) (a:=a) (e:=e) h
 have he1:=zWv (m:=m) (s:=X);have he2:=zWv (m:=m) (s:=Y);obtain⟨o1,at1,f1,hR1⟩:∃o a e,srcZ m X=(o,a,e):=⟨_,_,_,rfl⟩;obtain⟨o2,at2,f2,hR2⟩:∃o a e,srcZ m Y=(o,a,e):=⟨_,_,_,rfl⟩;rw[hR1] at cS1 hj hz1 hn1 he1;rw[hR2] at cS2 hj hz2 hn2 he2;have CS2:=Lib.hid cS2;have HJ:=Lib.hid hj;have HN1:=Lib.hid hn1;have HN2:=Lib.hid hn2;have HE1:=Lib.hid he1;have HE2:=Lib.hid he2;have HZ3:=Lib.hid hz3;clear hm hj hn1 hn2 he1 he2 hR1 hR2 cS2 hz3;refine cS1.mono ?_;rintro e w1 hP;obtain⟨v1,rfl,u1,h1⟩:=hP.has;have c2:=CS2.out w1 (U0.out.trans u1);have H1:=Lib.hid h1;have U1:=Lib.hid (U0.out.trans u1);clear u1 h1 hP cS1 CS2;go_wp2_with fail;refine c2.mono ?_;rintro e w2 hP;obtain⟨v2,rfl,u2,h2⟩:=hP.has;have H1:=Lib.hid (H1.out.up u2);have H2:=Lib.hid h2;have U2:=Lib.hid (U1.out.trans u2);clear u2 h2 hP c2 U1
 by_cases hb:f1=0/\f2=0
 ·obtain⟨rfl,rfl⟩:=hb
  cases o1 with
  | none=>exact absurd rfl (HN1.out _ _ rfl)
  | some x=>
   cases o2 with
   | none=>exact absurd rfl (HN2.out _ _ rfl)
   | some y=>
    obtain⟨f,g,rfl,rfl,hR3⟩:=HJ.out _ _ _ _ _ _ rfl rfl;have cS3:=HS.out (X++(⟨#[10]⟩:ByteArray)++Y) (.inr (.inr rfl)) w2 U2.out;rw[hR3] at cS3;have hz3:=HZ3.out;rw[hR3] at hz3;obtain⟨q1,p1,A1,c1,rfl,hq1,a0,a1,a2,a3,a4,hc1,hk1⟩:=InT.open (x:=⟨80,0,nob,nob⟩) (ks:=f) H1.out;obtain⟨q2,p2,A2,c2,rfl,hq2,b0,b1,b2,b3,b4,hc2,hk2⟩:=InT.open (x:=⟨80,0,nob,nob⟩) (ks:=g) H2.out;have hnil1:∀W,(binOp .eql 24 (.pointer (some ⟨q1,p1,none⟩)) (.pointer none)).run Tryz.prog W = .ok (.bool false) W:=fun W=>gM W _
    have hnil2:∀W,(binOp .eql 24 (.pointer (some ⟨q2,p2,none⟩)) (.pointer none)).run Tryz.prog W = .ok (.bool false) W:=fun W=>gM W _
    have r1:¬9223372036854775807<X.size+1:=by omega
    have r2:¬9223372036854775807<X.size+1+Y.size:=by omega
    have A4:=Lib.hid a4;have B4:=Lib.hid b4;have HK1:=Lib.hid hk1;have HK2:=Lib.hid hk2;clear a0 a1 a2 a3 a4 b0 b1 b2 b3 b4 hk1 hk2 HJ HN1 HN2 HE1 HE2 HZ3 HS hR3;go_wp2_with fail;refine cS3.mono ?_;rintro e w3 hP;obtain⟨v3,rfl,u3,h3⟩:=hP.has;obtain⟨q3,p3,A3,c3,rfl,hq3,d0,d1,d2,d3,d4,hc3,hk3⟩:=InT.open (x:=⟨80,0,nob,nob⟩) (ks:=f.app g) h3;have hnil3:∀W,(binOp .eql 24 (.pointer (some ⟨q3,p3,none⟩)) (.pointer none)).run Tryz.prog W = .ok (.bool false) W:=fun W=>gM W _
    have a4:=u3.cell A4.out;have b4:=u3.cell B4.out;rw[Fr.len_app] at d4 hc3;obtain⟨nf,hnf⟩:∃k,f.len=k:=⟨_,rfl⟩;obtain⟨ng,hng⟩:∃k,g.len=k:=⟨_,rfl⟩;rw[hnf] at a4 hc1 d4 hc3;rw[hng] at b4 hc2 d4 hc3;have hzz:f.sz<=8192/\g.sz<=8192:=⟨by have h:szT (progT f)<=8192:=hz1;rw[sO] at h;omega,by have h:szT (progT g)<=8192:=hz2;rw[sO] at h;omega⟩;have hlf:=Fr.len_le f;have hlg:=Fr.len_le g;have D4:=Lib.hid d4;have HK3:=Lib.hid hk3;have U3:=Lib.hid (U2.out.trans u3);have U23:=Lib.hid u3;clear d0 d1 d2 d3 hk3 u3 h3 hP cS3;go_wp2_with fail;have a3u:∀u:Upw w3,u.w.cell? ⟨q1,p1+4,none⟩=some (.slice A1 nf c1):=Upw.cell a4;have b3u:∀u:Upw w3,u.w.cell? ⟨q2,p2+4,none⟩=some (.slice A2 ng c2):=Upw.cell b4;have d3u:∀u:Upw w3,u.w.cell? ⟨q3,p3+4,none⟩=some (.slice A3 (nf+ng) c3):=Upw.cell d4;have hfz:f.sz<=65536:=by have:=hzz.1;omega
    have hgz:g.sz<=65536:=by have:=hzz.2;omega
    have HFZ:=Lib.hid hfz;have HGZ:=Lib.hid hgz;have HNF:=Lib.hid hnf;have HNG:=Lib.hid hng;have HC1:=Lib.hid hc3;have hadi:IntKind.i64.wrap ((nf:Int)+(ng:Int))=((nf+ng:Nat):Int):=zX7 nf ng (by omega) (by omega);clear r1 r2 hjz hz1 hz2 hz3 hzz hlf hlg hfz hgz hq1 hq2 hq3 hc1 hc2 hc3 hnf hng;refine zT (W:=w3) (Up.refl w3) (by kernel_rfl) (by kernel_rfl) ?_
    repeat (go_big_quiet_step (fail))
    refine wpQuiet_nil ?_;rintro w4 ⟨⟨_,u4⟩,rfl⟩;go_wp2_with fail;have a4u:∀u:Upw w4,u.w.cell? ⟨q1,p1+4,none⟩=some (.slice A1 nf c1):=Upw.cell (u4.cell a4);have b4u:∀u:Upw w4,u.w.cell? ⟨q2,p2+4,none⟩=some (.slice A2 ng c2):=Upw.cell (u4.cell b4);have d4u:∀u:Upw w4,u.w.cell? ⟨q3,p3+4,none⟩=some (.slice A3 (nf+ng) c3):=Upw.cell (u4.cell d4);clear a3u b3u d3u;have U0':=Lib.hid (Up.refl w4);obtain⟨B1,B2,hB1,hB2,hs1,hs2⟩:=dD A3 nf ng c3 HC1.out;have l1:wM w4 (.slice A1 nf c1) f:=(wM.kid (p:=0) HK1.out HNF.out (fun j t h=>by rw[Nat.zero_add];exact h) (fun _ kb ko h=>by rw[h,Nat.add_zero])).up (U23.out.trans u4);have l2:wM w4 (.slice A2 ng c2) g:=(wM.kid (p:=0) HK2.out HNG.out (fun j t h=>by rw[Nat.zero_add];exact h) (fun _ kb ko h=>by rw[h,Nat.add_zero])).up (U23.out.trans u4);have l3:wM w4 (.slice B1 nf c3) f:=(wM.kid (p:=0) HK3.out HNF.out (fun j t h=>by rw[Nat.zero_add];exact Fr.get_appL h) hB1).up u4;have l4:wM w4 (.slice B2 ng (c3-nf)) g:=(wM.kid (p:=nf) HK3.out HNG.out (fun j t h=>by rw[<- HNF.out,Fr.get_appR];exact h) hB2).up u4;have U04:=Lib.hid (U3.out.trans u4);have CF:Hid (∀u:Upw w4,Calls Tryz.prog 16 #[.slice B1 nf c3,.slice A1 nf c1] u.w (fun e w'=>e = .returned (.bool true)/\Up w4 w')):=Lib.hid fun u=>zZb f l3 l1 HFZ.out u.h
    have CG:Hid (∀u:Upw w4,Calls Tryz.prog 16 #[.slice B2 ng (c3-nf),.slice A2 ng c2] u.w (fun e w'=>e = .returned (.bool true)/\Up w4 w')):=Lib.hid fun u=>zZb g l4 l2 HGZ.out u.h
    have CW:Hid (∀u:Upw w4,Calls Tryz.prog 13 #[] u.w (fun e w'=>e = .returned (.bool true)/\Up w4 w')):=Lib.hid fun u=>zP1 (HX.out.up U04.out) u.h
    clear hB1 hB2 l1 l2 l3 l4 HK1 HK2 HK3 hadi A4 B4 D4 a4 b4 d4 u4 U3 U23 U2 H1 H2 hnil1 hnil2 hnil3;refine zT (W:=w4) (Up.refl w4) (by kernel_rfl) (by kernel_rfl) ?_
    repeat (go_big_quiet_step (first | (go_at_call 16;with_reducible exact Calls.upw (CF.out _)) | (go_at_call 16;with_reducible exact Calls.upw (CG.out _)) | (go_at_call 13;with_reducible exact Calls.upw (CW.out _))))
    refine wpQuiet_nil ?_;rintro w9 ⟨⟨_,u9⟩,rfl⟩;go_wp2_with fail
    go_ret
    exact gO rfl (U04.out.trans u9)
 ·have cW:=zP1 HX.out U2.out
  clear HJ HN1 HN2 HE1 HE2 HZ3 HS H1 H2 hz1 hz2 hjz
  by_cases h1:f1=0
  ·subst h1
   have h2:¬f2=0:=fun h=>hb ⟨rfl,h⟩
   clear hb;go_wp2_with fail;refine cW.mono ?_;rintro e w5 ⟨rfl,u5⟩;go_wp2_with fail
   go_ret
   exact gO rfl u5
  ·clear hb
   go_wp2_with fail;refine cW.mono ?_;rintro e w5 ⟨rfl,u5⟩;go_wp2_with fail
   go_ret
   exact gO rfl u5
end Go.Proofs.YtgeghilbikljcaaGreatDoor
namespace Go.Proofs.YtgeghilbikljcaaGreatDoor
open Go.ChangeShapes Go.WideShapes Go.ChangeAt Go.RowKit Go.Lib
theorem jG {w:World} {n:String} {d:DataW Unit} (h:VarReads Tryz.prog w n d) {g:Nat} {t:TypeId} (hg:Tryz.prog.globalNamed n=some g) (ht:(Tryz.prog.globals[g]?).map (·.type)=some t) :
  ∃cs fuel p,w.var? Tryz.prog n=some cs/\(∃e z,w.heap[g]? = some (.cells cs e z))/\DataW.trod (fun _=>()) Tryz.prog w 0 (fun _=>true) false fuel t cs.toList=some (d,p):=by
 obtain⟨g',t',cs,fuel,p,h1,h2,h3,h4⟩:=h;obtain rfl:=Option.some.inj (hg.symm.trans h1);obtain rfl:=Option.some.inj (ht.symm.trans h2);refine⟨cs,fuel,p,h3,?_,h4⟩;unfold World.var? at h3;rw[hg] at h3;simp only[Option.bind_some] at h3
 split at h3
 ·rename_i cs' e z he
  injection h3 with h3;subst h3;exact⟨e,z,he⟩
 ·cases h3
theorem iO {w:World} {fuel:Nat} {a b:Value} {s:List UInt8} {k:Int} {p:List MemPlace}
  (h:DataW.trod (fun _=>()) Tryz.prog w 0 (fun _=>true) false fuel 200 [a,b]=some (.agg [.lit (.string s),.lit (.int .i64 k)],p)):a = .string ⟨s.toArray⟩/\b = .int .i64 k:=by
 obtain⟨ys,n,_,hx,_,hyl,hf⟩:=DataW.trod_struct Tryz.underlying200 h;have hy2:ys.length=2:=hyl
 match ys,hy2 with
 | [y0,y1],_=>
  have g0:DataW.trod (fun _=>()) Tryz.prog w 0 (fun _=>true) false n 9 [a]=some y0:=hf 0 _ rfl;have g1:DataW.trod (fun _=>()) Tryz.prog w 0 (fun _=>true) false n 3 [b]=some y1:=hf 1 _ rfl;obtain⟨s',e0,f0,_⟩:=DataW.trod_string Tryz.underlying9 g0;obtain⟨k',e1,f1,_⟩:=DataW.trod_int Tryz.underlying3 g1;subst f0 f1;have hx:=congrArg Prod.fst hx;simp only[List.map_cons,List.map_nil,DataW.agg.injEq,List.cons.injEq,DataW.lit.injEq,Lit.string.injEq,Lit.int.injEq,and_true,true_and] at hx;injection e0 with e0;injection e1 with e1;exact⟨by rw[e0,hx.1],by rw[e1,hx.2]⟩
theorem zUw {w:World} {fuel:Nat} {cs:Array Value} {p:List MemPlace}
  (h:DataW.trod (fun _=>()) Tryz.prog w 0 (fun _=>true) false fuel 201 cs.toList=some (Rows.laid_marquetry_ptype_plain,p)):cs.toList=plV.toList:=by
 obtain⟨xs,m,_,hx,hlen,hxl,hel⟩:=DataW.trod_array Tryz.underlying201 h;have h6:Tryz.prog.cellsOf 201=6:=by kernel_rfl
 have h2:Tryz.prog.cellsOf 200=2:=by kernel_rfl
 rw[h6] at hlen;rw[h2] at hel;have e0:=hel 0 (by omega);have e1:=hel 1 (by omega);have e2:=hel 2 (by omega);have hx:=congrArg Prod.fst hx
 generalize cs.toList=l at *
 match l,hlen,xs,hxl with
 | [a,b,c,d,e,f],_,[x0,x1,x2],_=>
  have hx:Rows.laid_marquetry_ptype_plain=DataW.agg [x0.1,x1.1,x2.1]:=hx;unfold Rows.laid_marquetry_ptype_plain at hx;simp only[DataW.agg.injEq,List.cons.injEq,and_true] at hx;obtain⟨q0,q1,q2⟩:=hx;obtain⟨y0,p0⟩:=x0;obtain⟨y1,p1⟩:=x1;obtain⟨y2,p2⟩:=x2;simp only at q0 q1 q2;subst q0 q1 q2;obtain⟨r0,r1⟩:=iO e0;obtain⟨r2,r3⟩:=iO e1;obtain⟨r4,r5⟩:=iO e2;rw[r0,r1,r2,r3,r4,r5]
  rfl
theorem mK {w:World} {fuel:Nat} {a b c d e:Value} {s:List UInt8} {k1 k2 k3 k4:Int} {p:List MemPlace}
  (h:DataW.trod (fun _=>()) Tryz.prog w 0 (fun _=>true) false fuel 230 [a,b,c,d,e]=some (.agg [.lit (.string s),.lit (.int .i64 k1),.lit (.int .i64 k2),.lit (.int .i64 k3),.lit (.int .i64 k4)],p)):a = .string ⟨s.toArray⟩/\b = .int .i64 k1/\c = .int .i64 k2/\d = .int .i64 k3/\e = .int .i64 k4:=by
 obtain⟨ys,n,_,hx,_,hyl,hf⟩:=DataW.trod_struct Tryz.underlying230 h;have hy2:ys.length=5:=hyl
 match ys,hy2 with
 | [y0,y1,y2,y3,y4],_=>
  have g0:DataW.trod (fun _=>()) Tryz.prog w 0 (fun _=>true) false n 9 [a]=some y0:=hf 0 _ rfl;have g1:DataW.trod (fun _=>()) Tryz.prog w 0 (fun _=>true) false n 3 [b]=some y1:=hf 1 _ rfl;have g2:DataW.trod (fun _=>()) Tryz.prog w 0 (fun _=>true) false n 3 [c]=some y2:=hf 2 _ rfl;have g3:DataW.trod (fun _=>()) Tryz.prog w 0 (fun _=>true) false n 3 [d]=some y3:=hf 3 _ rfl;have g4:DataW.trod (fun _=>()) Tryz.prog w 0 (fun _=>true) false n 3 [e]=some y4:=hf 4 _ rfl;obtain⟨s',e0,f0,_⟩:=DataW.trod_string Tryz.underlying9 g0;obtain⟨k1',e1,f1,_⟩:=DataW.trod_int Tryz.underlying3 g1;obtain⟨k2',e2,f2,_⟩:=DataW.trod_int Tryz.underlying3 g2;obtain⟨k3',e3,f3,_⟩:=DataW.trod_int Tryz.underlying3 g3;obtain⟨k4',e4,f4,_⟩:=DataW.trod_int Tryz.underlying3 g4;subst f0 f1 f2 f3 f4;have hx:=congrArg Prod.fst hx;simp only[List.map_cons,List.map_nil,DataW.agg.injEq,List.cons.injEq,DataW.lit.injEq,Lit.string.injEq,Lit.int.injEq,and_true,true_and] at hx;obtain⟨x0,x1,x2,x3,x4⟩:=hx;injection e0 with e0;injection e1 with e1;injection e2 with e2;injection e3 with e3;injection e4 with e4;exact⟨by rw[e0,x0],by rw[e1,x1],by rw[e2,x2],by rw[e3,x3],by rw[e4,x4]⟩
theorem zP4 {w:World} {fuel:Nat} {cs:Array Value} {p:List MemPlace}
  (h:DataW.trod (fun _=>()) Tryz.prog w 0 (fun _=>true) false fuel 231 cs.toList=some (Rows.laid_marquetry_pexpr_operators,p)):cs.toList=opV.toList:=by
 obtain⟨xs,m,_,hx,hlen,hxl,hel⟩:=DataW.trod_array Tryz.underlying231 h;have h6:Tryz.prog.cellsOf 231=25:=by kernel_rfl
 have h2:Tryz.prog.cellsOf 230=5:=by kernel_rfl
 rw[h6] at hlen;rw[h2] at hel;have e0:=hel 0 (by omega);have e1:=hel 1 (by omega);have e2:=hel 2 (by omega);have e3:=hel 3 (by omega);have e4:=hel 4 (by omega);have hx:=congrArg Prod.fst hx
 generalize cs.toList=l at *
 match l,hlen,xs,hxl with
 | [v0,v1,v2,v3,v4,v5,v6,v7,v8,v9,v10,v11,v12,v13,v14,v15,v16,v17,v18,v19,v20,v21,v22,v23,v24],_,[x0,x1,x2,x3,x4],_=>
  have hx:Rows.laid_marquetry_pexpr_operators=DataW.agg [x0.1,x1.1,x2.1,x3.1,x4.1]:=hx;unfold Rows.laid_marquetry_pexpr_operators at hx;simp only[DataW.agg.injEq,List.cons.injEq,and_true] at hx;obtain⟨q0,q1,q2,q3,q4⟩:=hx;obtain⟨y0,p0⟩:=x0;obtain⟨y1,p1⟩:=x1;obtain⟨y2,p2⟩:=x2;obtain⟨y3,p3⟩:=x3;obtain⟨y4,p4⟩:=x4;simp only at q0 q1 q2 q3 q4;subst q0 q1 q2 q3 q4;obtain⟨a0,a1,a2,a3,a4⟩:=mK e0;obtain⟨b0,b1,b2,b3,b4⟩:=mK e1;obtain⟨c0,c1,c2,c3,c4⟩:=mK e2;obtain⟨d0,d1,d2,d3,d4⟩:=mK e3;obtain⟨f0,f1,f2,f3,f4⟩:=mK e4;rw[a0,a1,a2,a3,a4,b0,b1,b2,b3,b4,c0,c1,c2,c3,c4,d0,d1,d2,d3,d4,f0,f1,f2,f3,f4]
  rfl
theorem zJg {W:World} (rd:∀n d,(n,d)∈(Rows.pmodParsesRow.laid:List (String×DataW Unit))->VarReads Tryz.prog W n d):Px7 W:=by
 have h7:=rd "marquetry/ptype.plain" Rows.laid_marquetry_ptype_plain (by simp[Rows.pmodParsesRow]);have h8:=rd "marquetry/pexpr.operators" Rows.laid_marquetry_pexpr_operators (by simp[Rows.pmodParsesRow]);refine⟨?_,?_⟩
 ·obtain⟨cs,fuel,p,_,⟨e,z,k2⟩,k3⟩:=jG h8 (g:=7) (t:=231) (by kernel_rfl) (by kernel_rfl)
  refine⟨e,z,?_⟩;rw[k2]
  congr 2
  apply Array.ext'
  exact zP4 k3
 ·obtain⟨cs,fuel,p,_,⟨e,z,k2⟩,k3⟩:=jG h7 (g:=4) (t:=201) (by kernel_rfl) (by kernel_rfl)
  refine⟨e,z,?_⟩;rw[k2]
  congr 2
  apply Array.ext'
  exact zUw k3
theorem zZc:ownKnob Tryz.prog.godebug=none:=by kernel_rfl
def laidL:List (String×DataW Unit):=Rows.pmodParsesRow.laid
theorem zP5:Rows.laid_unicode_utf8_first=Lib.firstData:=by kernel_rfl
theorem zUx:(Rows.laid_unicode_utf8_acceptRanges:DataW Unit)=Lib.acceptData:=by kernel_rfl
theorem zJh:(Rows.laid_internal_strconv_uint64pow10:DataW Unit)=Lib.tabData .u64 Lib.pow10Tab:=by kernel_rfl
theorem zP6:(Rows.laid_marquetry_lexer_signs:DataW Unit) = .agg (B.SIGNS.map fun x=>.lit (.string (B.u8 x))):=by kernel_rfl
theorem zP7 {w:World} {n:String} {nm:String} {d:DataW Unit} (h:VarReads Tryz.prog w n (.iface nm d)) {g:Nat} {t:TypeId} (hg:Tryz.prog.globalNamed n=some g) (ht:(Tryz.prog.globals[g]?).map (·.type)=some t) {ms:Array (String×TypeId)} (hi:Tryz.prog.underlying t=some (.interface ms)):B.ErrIs w g:=by
 obtain⟨cs,fuel,p,h1,⟨e,z,h2⟩,h3⟩:=jG h hg ht;obtain⟨_,u,v,h4,_,_⟩:=iface_of_trod hi h3;refine⟨.iface u v,?_,.inr ⟨u,v,rfl⟩⟩;rw[cell_of_row w g 0 cs e z h2];have:cs[0]? = cs.toList[0]?:=by simp
 rw[this,h4]
 rfl
theorem zM8 {w:World} {fuel:Nat} {t e:TypeId} {cs:List Value} {zs:List (List UInt8)} {p:List MemPlace} (ht:Tryz.prog.underlying t=some (.array zs.length e)) (he:Tryz.prog.underlying e=some .string) (hce:Tryz.prog.cellsOf e=1) (hct:Tryz.prog.cellsOf t=zs.length)
  (h:DataW.trod (fun _=>()) Tryz.prog w 0 (fun _=>true) false fuel t cs=some (.agg (zs.map fun z=>.lit (.string z)),p)):cs=zs.map fun z=>Value.string ⟨z.toArray⟩:=by
 obtain⟨xs,m,_,hx,hlen,hxl,hel⟩:=DataW.trod_array ht h;rw[hct] at hlen
 apply List.ext_getElem (by simpa using hlen)
 intro i h1 h2;have hi:i<zs.length:=by simpa using h2
 have hk:=hel i hi;rw[hce,Nat.mul_one] at hk;have hcs:(cs.drop i).take 1=[cs[i]]:=by
  rw[List.drop_eq_getElem_cons h1]
  rfl
 have hxi:xs[i]? = some (xs[i]'(by omega)):=List.getElem?_eq_getElem (by omega);rw[hcs,hxi] at hk;obtain⟨s,hs,hy,_⟩:=DataW.trod_string he hk;have e1:(xs.map (·.1))[i]? = (zs.map fun z=>(DataW.lit (.string z):DataW Unit))[i]?:=by
  have:=congrArg Prod.fst hx;simp only[DataW.agg.injEq] at this;rw[this]
 rw[List.getElem?_map,List.getElem?_map,hxi,List.getElem?_eq_getElem hi] at e1;simp only[Option.map_some,Option.some.injEq] at e1;rw[hy] at e1;simp only[DataW.lit.injEq,Lit.string.injEq] at e1;rw[(List.cons.inj hs).1,List.getElem_map,<- e1]
theorem zJi:(B.sgV.toList)=(B.SIGNS.map B.u8).map fun z=>Value.string ⟨z.toArray⟩:=by kernel_rfl
theorem zJj {W:World} {l:List (String×DataW Unit)} (h:laidMetH Tryz.prog l W) (hl:l=laidL) (hsh:W.ShapedOpen Tryz.prog):Vx7 W:=by
 subst hl;have h:laidMet Tryz.prog laidL W:=h;have rd:∀n d,(n,d)∈laidL->VarReads Tryz.prog W n d:=fun n d hm=>Lib.laidMet.reads h hm
 have h1:=rd "unicode/utf8.first" Rows.laid_unicode_utf8_first (by simp[laidL,Rows.pmodParsesRow])
 have h2:=rd "unicode/utf8.acceptRanges" Rows.laid_unicode_utf8_acceptRanges (by simp[laidL,Rows.pmodParsesRow]);have h3:=rd "internal/strconv.uint64pow10" Rows.laid_internal_strconv_uint64pow10 (by simp[laidL,Rows.pmodParsesRow]);have h4:=rd "strconv.ErrSyntax" Rows.laid_strconv_ErrSyntax (by simp[laidL,Rows.pmodParsesRow]);have h5:=rd "strconv.ErrRange" Rows.laid_strconv_ErrRange (by simp[laidL,Rows.pmodParsesRow]);have h6:=rd "marquetry/lexer.signs" Rows.laid_marquetry_lexer_signs (by simp[laidL,Rows.pmodParsesRow]);rw[zP5] at h1;rw[zUx] at h2;rw[zJh] at h3;rw[zP6] at h6;refine⟨⟨utf8Tabs_of_readsT (U8Types.of260 Tryz.lays260) ⟨by kernel_rfl,by kernel_rfl,by kernel_rfl,by kernel_rfl,by kernel_rfl,by kernel_rfl,by kernel_rfl⟩ h1 h2,?_,Tryz.laysM143.s1_3 W hsh,
  zP7 h4 (g:=5) (by kernel_rfl) (by kernel_rfl) Tryz.underlying135,zP7 h5 (g:=6) (by kernel_rfl) (by kernel_rfl) Tryz.underlying135,?_⟩,?_⟩
 ·obtain⟨cs,fuel,p,k1,_,k3⟩:=jG h3 (g:=8) (t:=233) (by kernel_rfl) (by kernel_rfl)
  unfold TabIs;rw[k1,<- Lib.cells_of_tab (t:=233) (n:=20) (e:=168) (by kernel_rfl) (by kernel_rfl) (by kernel_rfl) (by kernel_rfl) k3]
 ·obtain⟨cs,fuel,p,_,⟨e,z,k2⟩,k3⟩:=jG h6 (g:=0) (t:=139) (by kernel_rfl) (by kernel_rfl)
  refine⟨e,z,?_⟩;have hm:(B.SIGNS.map fun x=>(DataW.lit (.string (B.u8 x)):DataW Unit))=(B.SIGNS.map B.u8).map fun z=>.lit (.string z):=by rw[List.map_map];rfl
  rw[hm] at k3;have k4:=zM8 (t:=139) (e:=9) (by kernel_rfl) (by kernel_rfl) (by kernel_rfl) (by kernel_rfl) k3;rw[k2]
  congr 2
  apply Array.ext'
  rw[k4,zJi]
 ·exact zJg fun n d hm=>rd n d (by simpa [laidL] using hm)
def litV:DataW Unit->Value
 | .lit (.int k z)=>.int k z
 | .lit (.string l)=>.string ⟨l.toArray⟩
 | _=>undef
def rowV:DataW Unit->Array Value
 | .agg ds=>(ds.map litV).toArray
 | _=>#[]
def txtV:DataW Unit->Value
 | .iface _ (.ptr (.agg [d]))=>litV d
 | _=>undef
noncomputable def laidWorld (os:Os):World:=
 let w0:=World.holding Tryz.prog os ⟨#[],#[],[]⟩
 let put (h:Array Obj) (g:Nat) (cs:Array Value):Array Obj:=h.modify g fun
  | .cells _ t frozen=>.cells cs t frozen
  | o=>o
 let h1:=put w0.heap 1 (Lib.firstTab.map fun z=>Value.int .u8 z).toArray
 let h2:=put h1 2 ((List.range 16).flatMap fun i=>[Value.int .u8 (Lib.accLo i),Value.int .u8 (Lib.accHi i)]).toArray
 let h3:=put h2 8 (rowV Rows.laid_internal_strconv_uint64pow10)
 let h4:=put h3 9 (rowV Rows.laid_math_bits_deBruijn32tab)
 let h5:=put h4 10 (rowV Rows.laid_math_bits_deBruijn64tab)
 let h6:=put h5 0 (rowV Rows.laid_marquetry_lexer_signs)
 let h6:=put h6 4 plV
 let h6:=put h6 7 opV
 let n:=h6.size
 let h7:=put h6 6 #[.iface 218 (.pointer (some ⟨n,0,none⟩))]
 let h8:=put h7 5 #[.iface 218 (.pointer (some ⟨n+1,0,none⟩))]
 let h9:=(h8.push (.cells #[txtV Rows.laid_strconv_ErrRange] 220 (0,0))).push (.cells #[txtV Rows.laid_strconv_ErrSyntax] 220 (0,0))
 {w0 with heap:=h9}
end Go.Proofs.YtgeghilbikljcaaGreatDoor
