/-
  Plain facts, without the program: a text out of its runes. 'T l': the runes l as UTF-8; 'sz l': its bytes; 'ok r': r is a rune that may stand in a text.
-/
import Derived.Test.YtbpijnalmakfaaaGreatDoorGw05
set_option maxHeartbeats 40000000
set_option maxRecDepth 100000
namespace Go.Proofs.YtbpijnalmakfaaaGreatDoor.B
open Go.Lib
theorem zPo (a b:List Nat):T (a++b)=T a++T b:=by
 apply jK
 rw[ByteArray.data_append,Array.toList_append,yX,yX,yX,vI]
end Go.Proofs.YtbpijnalmakfaaaGreatDoor.B
namespace Go.Proofs.YtbpijnalmakfaaaGreatDoor.B
open Go.RowKit
def zXo (s:ByteArray) (W:World) (e:Ending) (w':World):Prop:=e = .returned (.string s)∧∃m,w'=W.drewN m
theorem zVx {s t:ByteArray} {W:World} (m:Nat) (h:t=s):zXo s W (.returned (.string t)) (W.drewN m):=⟨by rw[h],m,rfl⟩
theorem zZr {s t:ByteArray} {W:World} (h:t=s):zXo s W (.returned (.string t)) W:=⟨by rw[h],0,rfl⟩
def DG:ByteArray:=⟨#[48,49,50,51,52,53,54,55,56,57]⟩
theorem zVy (d:Nat) (h:d<10):DG.extract d (d+1)=T [48+d]:=by
 have h':d=0∨d=1∨d=2∨d=3∨d=4∨d=5∨d=6∨d=7∨d=8∨d=9:=by omega
 rcases h' with rfl | rfl | rfl | rfl | rfl | rfl | rfl | rfl | rfl | rfl
 all_goals (apply jK;rw[Lib.extract_data];rfl)
theorem zZs {u:Nat} (h:u<10):dgs u=[48+u]:=by
 unfold dgs;rw[Lib.decDigits_one h]
 show[(UInt8.ofNat (48+u)).toNat]=_
 rw[u8n _ (by omega)]
theorem zPp {u:Nat} (h:¬u<10):dgs u=dgs (u / 10)++[48+u % 10]:=by
 unfold dgs;rw[Lib.decDigits,dif_neg h,List.map_append]
 show _++[(UInt8.ofNat (48+u % 10)).toNat]=_
 rw[u8n _ (by omega)]
theorem zZt (v:Int) (h0 : -9223372036854775808≤v) (h1:v≤9223372036854775807):(T (numb v)).size≤21:=by
 have h2:=Lib.itoa_length_le v h0 h1;rw[qO,fV (sH v)];unfold numb dgs;unfold Lib.itoa at h2
 split
 ·rename_i hn
  rw[if_pos hn] at h2
  simpa using h2
 ·rename_i hn
  rw[if_neg hn] at h2
  simpa using h2
theorem zPq (d:Nat) (h:d<10):((⟨#[48,49,50,51,52,53,54,55,56,57]⟩:ByteArray).extract d (1+d)).size≤10:=by
 show(DG.extract d (1+d)).size≤10
 rw[Nat.add_comm,zVy d h,qO,zO,yY];have:=(mU (48+d)).2;omega
theorem xZ:∀(k:Nat) (n:Int),n.natAbs≤k→-9223372036854775808≤n→n≤9223372036854775807→∀w:World,
  Calls Tryz.prog 82 #[.int .i64 n] w (zXo (T (numb n)) w)
 | k,n,hk,h0,h1,w=>by
  by_cases hn:n<0
  ·by_cases hs : -10<n
   ·obtain⟨u,hu⟩:∃u:Nat,n = -(u:Int):=⟨n.natAbs,by omega⟩
    have hu1:1≤u∧u<10:=by omega
    have HA:Hid ((⟨#[126]⟩:ByteArray)++DG.extract u (1+u)=T (numb n)):=Lib.hid (by
     rw[Nat.add_comm 1 u,zVy u hu1.2];have:numb n=[126]++[48+u]:=by
      unfold numb;rw[if_pos hn,show n.natAbs=u by omega,zZs hu1.2]
      rfl
     rw[this,zPo]
     rfl)
    obtain⟨X,hX⟩:∃X,T (numb n)=X:=⟨_,rfl⟩;rw[hX] at HA ⊢;subst hu;clear hX
    go_enter Tryz.func82,Tryz.ntmps82
    go_wp2
    go_ret
    exact zZr HA.out
   ·obtain⟨u,hu⟩:∃u:Nat,n = -(u:Int):=⟨n.natAbs,by omega⟩
    obtain⟨k,rfl⟩:∃k',k=k'+1:=⟨k-1,by omega⟩;obtain⟨m,hm⟩:∃m,u / 10=m:=⟨_,rfl⟩;obtain⟨d,hd⟩:∃d,u % 10=d:=⟨_,rfl⟩;have hd10:d<10:=by omega
    have hm1:1≤m:=by omega
    have hmu:m≤u:=by omega
    have cI:=fun W=>xZ k (-(m:Int)) (by omega) (by omega) (by omega) W
    have HA:Hid (T (numb (-(m:Int)))++DG.extract d (1+d)=T (numb n)):=Lib.hid (by
     rw[Nat.add_comm 1 d,zVy d hd10,←zPo]
     congr 1
     have e1:numb n=126::dgs u:=by unfold numb;rw[if_pos hn,show n.natAbs=u by omega]
     have e2:numb (-(m:Int))=126::dgs m:=by unfold numb;rw[if_pos (by omega),show(-(m:Int)).natAbs=m by omega]
     rw[e1,e2,zPp (u:=u) (by omega),hm,hd]
     rfl)
    have q1:(-(u:Int)).tdiv 10 = -(m:Int):=by rw[Int.neg_tdiv,←hm];rfl
    have q2:(-(u:Int)).tmod 10 = -(d:Int):=by rw[Int.neg_tmod,←hd];rfl
    have q3:IntKind.i64.wrap (-(m:Int)) = -(m:Int):=IntWalk.i64_in _ (by omega);have q4:IntKind.i64.wrap (d:Int)=(d:Int):=IntWalk.i64_in _ (by omega);have q5:IntKind.i64.wrap (1+(d:Int))=1+(d:Int):=IntWalk.i64_in _ (by omega);have q6:(1+(d:Int)).toNat=1+d:=by omega
    have q7:(0:Int)≤1+(d:Int):=by omega
    have q8:1+d≤10:=by omega
    have q9:(1:Int)+(d:Int)≤10:=by omega
    obtain⟨X,hX⟩:∃X,T (numb n)=X:=⟨_,rfl⟩;obtain⟨Y,hY⟩:∃Y,T (numb (-(m:Int)))=Y:=⟨_,rfl⟩;rw[hX] at HA ⊢;have b1:Y.size≤21:=by rw[←hY];exact zZt _ (by omega) (by omega)
    have b2:=zPq d hd10;rw[hY] at HA cI;subst hu;clear hX hY hm hd;have hlt10:¬-10 < -(u:Int):=hs;have hlt0 : -(u:Int)<0:=hn
    go_enter Tryz.func82,Tryz.ntmps82
    go_wp2
    go_quiet ((go_at_call 82;exact Calls.quiet_of (cI _)))
    go_wp2
    go_ret
    exact zVx _ HA.out
  ·by_cases hs:n<10
   ·obtain⟨u,hu⟩:∃u:Nat,n=(u:Int):=⟨n.natAbs,by omega⟩
    have hu1:u<10:=by omega
    have HA:Hid (DG.extract u (u+1)=T (numb n)):=Lib.hid (by
     rw[zVy u hu1];unfold numb;rw[if_neg hn,show n.toNat=u by omega,zZs hu1])
    obtain⟨X,hX⟩:∃X,T (numb n)=X:=⟨_,rfl⟩;rw[hX] at HA ⊢;subst hu;clear hX
    go_enter Tryz.func82,Tryz.ntmps82
    go_wp2
    go_ret
    exact zZr HA.out
   ·obtain⟨u,hu⟩:∃u:Nat,n=(u:Int):=⟨n.natAbs,by omega⟩
    obtain⟨k,rfl⟩:∃k',k=k'+1:=⟨k-1,by omega⟩;obtain⟨m,hm⟩:∃m,u / 10=m:=⟨_,rfl⟩;obtain⟨d,hd⟩:∃d,u % 10=d:=⟨_,rfl⟩;have hd10:d<10:=by omega
    have hmu:m≤u:=by omega
    have cI:=fun W=>xZ k (m:Int) (by omega) (by omega) (by omega) W
    have HA:Hid (T (numb (m:Int))++DG.extract d (d+1)=T (numb n)):=Lib.hid (by
     rw[zVy d hd10,←zPo]
     congr 1
     have e1:numb n=dgs u:=by unfold numb;rw[if_neg hn,show n.toNat=u by omega]
     have e2:numb (m:Int)=dgs m:=by unfold numb;rw[if_neg (by omega),show(m:Int).toNat=m by omega]
     rw[e1,e2,zPp (u:=u) (by omega),hm,hd])
    have q1:(u:Int).tdiv 10=(m:Int):=by rw[←hm];rfl
    have q2:(u:Int).tmod 10=(d:Int):=by rw[←hd];rfl
    have q1':(u:Int) / 10=(m:Int):=by omega
    have q2':(u:Int) % 10=(d:Int):=by omega
    have q3:IntKind.i64.wrap (m:Int)=(m:Int):=IntWalk.i64_in _ (by omega);have q4:IntKind.i64.wrap (d:Int)=(d:Int):=IntWalk.i64_in _ (by omega);have q5:IntKind.i64.wrap ((d:Int)+1)=(d:Int)+1:=IntWalk.i64_in _ (by omega);have q6:((d:Int)+1).toNat=d+1:=by omega
    have q7:(0:Int)≤(d:Int)+1:=by omega
    have q8:d+1≤10:=by omega
    have q9:(d:Int)+1≤10:=by omega
    obtain⟨X,hX⟩:∃X,T (numb n)=X:=⟨_,rfl⟩;obtain⟨Y,hY⟩:∃Y,T (numb (m:Int))=Y:=⟨_,rfl⟩;rw[hX] at HA ⊢;have b1:Y.size≤21:=by rw[←hY];exact zZt _ (by omega) (by omega)
    have b2:=zPq d hd10;rw[Nat.add_comm 1 d] at b2;rw[hY] at HA cI;subst hu;clear hX hY hm hd;have hlt10:¬(u:Int)<10:=hs;have hlt0:¬(u:Int)<0:=hn
    go_enter Tryz.func82,Tryz.ntmps82
    go_wp2
    go_quiet ((go_at_call 82;exact Calls.quiet_of (cI _)))
    go_wp2
    go_ret
    exact zVx _ HA.out
end Go.Proofs.YtbpijnalmakfaaaGreatDoor.B
