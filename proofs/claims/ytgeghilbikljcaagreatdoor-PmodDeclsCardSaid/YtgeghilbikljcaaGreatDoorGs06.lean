/-
  Plain facts, without the program: texts as runes, by places in the text. 'dc s p': the rune that begins at byte p and its width; (65533, 1): none begins there. 'rns s p': the runes from place p on; 'vls s p': all from there on is right UTF-8.
-/
import Derived.Test.YtgeghilbikljcaaGreatDoorGs05
set_option maxHeartbeats 40000000
set_option maxRecDepth 100000
namespace Go.Proofs.YtgeghilbikljcaaGreatDoor.B
open Go.Lib
theorem wQ {s:ByteArray} {p:Nat} (h:bad s p=true):nx s p=(0,0):=by simp[nx,h]
theorem nH {s:ByteArray} {p:Nat} (h:bad s p=false):nx s p=dc s p:=by simp[nx,h]
def kI (s:ByteArray) (p k:Nat):Prop:=128<=bt s (p+k)/\bt s (p+k)<=191
def Lead (b n off least:Nat):Prop:=
 (n=2/\off=192/\least=128/\194<=b/\b<224)\/(n=3/\off=224/\least=2048/\224<=b/\b<240)\/(n=4/\off=240/\least=65536/\240<=b/\b<245)
theorem zXv {s:ByteArray} {p n off least:Nat} (h:Lead (bt s p) n off least) (hs:s.size-p<n):bad s p=true:=by
 rw[gC,lY];have h1:=xR s (p+1)
 rcases h with ⟨rfl,rfl,rfl,hl,hu⟩ | ⟨rfl,rfl,rfl,hl,hu⟩ | ⟨rfl,rfl,rfl,hl,hu⟩
 all_goals
  unfold decodeN
  repeat' split
  all_goals first | rfl | (exfalso;omega)
theorem pZ {s:ByteArray} {p n off least k:Nat} (h:Lead (bt s p) n off least) (hk:1<=k) (hkn:k<n) (hc:¬kI s p k):bad s p=true:=by
 rw[gC,lY];have h1:=xR s (p+1);have h2:=xR s (p+2);have h3:=xR s (p+3);unfold kI at hc;have hk':k=1\/k=2\/k=3:=by rcases h with h | h | h<;>omega
 rcases hk' with rfl | rfl | rfl
 all_goals
  rcases h with ⟨rfl,rfl,rfl,hl,hu⟩ | ⟨rfl,rfl,rfl,hl,hu⟩ | ⟨rfl,rfl,rfl,hl,hu⟩
  all_goals
   unfold decodeN
   repeat' split
   all_goals first | rfl | (exfalso;omega)
theorem zXw (s:ByteArray) (p r k:Nat) (hr:r<64) (hk:k<=3):acc s p r k<20000000:=by
 have h1:=xR s (p+1);have h2:=xR s (p+2);have h3:=xR s (p+3);have e0:acc s p r 0=r:=rfl;have e1:acc s p r 1=64*acc s p r 0+(bt s (p+1)-128):=rfl;have e2:acc s p r 2=64*acc s p r 1+(bt s (p+2)-128):=rfl;have e3:acc s p r 3=64*acc s p r 2+(bt s (p+3)-128):=rfl;have hk':k=0\/k=1\/k=2\/k=3:=by omega
 rcases hk' with rfl | rfl | rfl | rfl<;>omega
theorem zN5 {n b0 b1 b2 b3:Nat} (hl:194<=b0) (hu:b0<224) (hs:2<=n) (c1:128<=b1/\b1<=191):decodeN n b0 b1 b2 b3=(64*(b0-192)+(b1-128),2):=by
 unfold decodeN
 repeat' split
 all_goals first | (exfalso;omega) | (apply Prod.ext<;>simp only<;>omega)
theorem zXx {n b0 b1 b2 b3 r:Nat} (hl:224<=b0) (hu:b0<240) (hs:3<=n) (c1:128<=b1/\b1<=191) (c2:128<=b2/\b2<=191) (hr:r=64*(64*(b0-224)+(b1-128))+(b2-128)) :
  (r<2048\/1114111<r\/(55296<=r/\r<=57343)->decodeN n b0 b1 b2 b3=(65533,1))/\(¬(r<2048\/1114111<r\/(55296<=r/\r<=57343))->decodeN n b0 b1 b2 b3=(r,3)):=by
 constructor
 ·intro hb
  unfold decodeN
  repeat' split
  all_goals first | rfl | (exfalso;omega)
 ·intro hb
  unfold decodeN
  repeat' split
  all_goals first | (exfalso;omega) | (apply Prod.ext<;>simp only<;>omega)
theorem zSs {n b0 b1 b2 b3 r:Nat} (hl:240<=b0) (hu:b0<245) (hs:4<=n) (c1:128<=b1/\b1<=191) (c2:128<=b2/\b2<=191) (c3:128<=b3/\b3<=191)
  (hr:r=64*(64*(64*(b0-240)+(b1-128))+(b2-128))+(b3-128)) :
  (r<65536\/1114111<r\/(55296<=r/\r<=57343)->decodeN n b0 b1 b2 b3=(65533,1))/\(¬(r<65536\/1114111<r\/(55296<=r/\r<=57343))->decodeN n b0 b1 b2 b3=(r,4)):=by
 constructor
 ·intro hb
  unfold decodeN
  repeat' split
  all_goals first | rfl | (exfalso;omega)
 ·intro hb
  unfold decodeN
  repeat' split
  all_goals first | (exfalso;omega) | (apply Prod.ext<;>simp only<;>omega)
theorem oD {a b:Nat} (h:b≠1):(a,b)≠((65533:Nat),(1:Nat)):=fun hx=>h (congrArg Prod.snd hx)
theorem mI {s:ByteArray} {p n off least r:Nat} (h:Lead (bt s p) n off least) (hs:n<=s.size-p) (hc:∀k,1<=k->k<n->kI s p k) (hr:r=acc s p (bt s p-off) (n-1)) :
  (r<least\/1114111<r\/(55296<=r/\r<=57343)->bad s p=true)/\(¬(r<least\/1114111<r\/(55296<=r/\r<=57343))->bad s p=false/\dc s p=(r,n)):=by
 rw[gC,gD,lY]
 rcases h with ⟨rfl,rfl,rfl,hl,hu⟩ | ⟨rfl,rfl,rfl,hl,hu⟩ | ⟨rfl,rfl,rfl,hl,hu⟩
 ·have c1:kI s p 1:=hc 1 (by omega) (by omega)
  have hr':r=64*(bt s p-192)+(bt s (p+1)-128):=hr;unfold kI at c1;rw[zN5 hl hu hs c1,<- hr'];exact⟨fun hb=>by exfalso;omega,fun _=>⟨oD (by omega),rfl⟩⟩
 ·have c1:kI s p 1:=hc 1 (by omega) (by omega)
  have c2:kI s p 2:=hc 2 (by omega) (by omega);have hr':r=64*(64*(bt s p-224)+(bt s (p+1)-128))+(bt s (p+2)-128):=hr;have k:=zXx (b3:=bt s (p+3)) hl hu hs c1 c2 hr';exact⟨k.1,fun hb=>by rw[k.2 hb];exact⟨oD (by omega),rfl⟩⟩
 ·have c1:kI s p 1:=hc 1 (by omega) (by omega)
  have c2:kI s p 2:=hc 2 (by omega) (by omega);have c3:kI s p 3:=hc 3 (by omega) (by omega);have hr':r=64*(64*(64*(bt s p-240)+(bt s (p+1)-128))+(bt s (p+2)-128))+(bt s (p+3)-128):=hr;have k:=zSs hl hu hs c1 c2 c3 hr';exact⟨k.1,fun hb=>by rw[k.2 hb];exact⟨oD (by omega),rfl⟩⟩
theorem zSt {s:ByteArray} {p:Nat} (h1:128<=bt s p) (h2:bt s p<194\/245<=bt s p):bad s p=true:=by
 rw[gC,lY];have h3:=xR s p;exact decodeN_bad _ _ _ _ _ (by omega)
theorem rR {s:ByteArray} {p:Nat} (h:bt s p<128):bad s p=false/\dc s p=(bt s p,1):=by
 have e:dc s p=(bt s p,1):=by rw[lY];unfold decodeN;rw[if_pos h]
 exact⟨by rw[gD,e];intro hx;injection hx with h1 h2;omega,e⟩
theorem zIt {s:ByteArray} {p:Nat} (h:p<s.size) (hb:bad s p=true):vls s p=false:=by rw[mV h,if_pos hb]
theorem zXy (s:ByteArray):∀p,(rns s p).length<=s.size-p:=by
 refine along s _ ?_ ?_
 ·intro p h;rw[gE (by omega)];simp
 ·intro p h ih
  have hw:=kN s p;rw[vV h,List.length_cons];omega
end Go.Proofs.YtgeghilbikljcaaGreatDoor.B
namespace Go.Proofs.YtgeghilbikljcaaGreatDoor.B
open Go.RowKit
theorem zZj (a:Addr) (n:Nat):(a.add n).block=a.block:=by unfold Addr.add;split<;>rfl
end Go.Proofs.YtgeghilbikljcaaGreatDoor.B
namespace Go.Proofs.YtgeghilbikljcaaGreatDoor.B
open Go.Lib
def jn:List (List UInt8)->List UInt8
 | []=>[]
 | x::r=>x++(match r with | []=>[] | _::_=>46::jn r)
theorem eB (Q:List UInt8->Prop) (h1:∀l,(46:UInt8)∉l->Q l) (h2:∀a r,(46:UInt8)∉a->Q r->Q (a++46::r)):∀l,Q l:=by
 have:∀n,∀l:List UInt8,l.length<=n->Q l:=by
  intro n
  induction n with
  | zero=>intro l hl;rw[List.eq_nil_of_length_eq_zero (by omega:l.length=0)];exact h1 _ (by simp)
  | succ n ih=>
   intro l hl
   rcases zOt l with h | ⟨a,r,rfl,h⟩
   ·exact h1 l h
   ·exact h2 a r h (ih r (by simp at hl;omega))
 exact fun l=>this l.length l (Nat.le_refl _)
theorem zIu:∀l,1<=(pcl l).length/\(pcl l).length<=l.length+1:=by
 refine eB _ (fun l h=>by rw[fL h];simp) fun a r h ih=>?_
 rw[oA h];simp;omega
theorem zEx:∀l,∀x∈pcl l,x.length<=l.length:=by
 refine eB _ (fun l h x hx=>?_) fun a r h ih x hx=>?_
 ·rw[fL h] at hx;rw[List.mem_singleton.1 hx];exact Nat.le_refl _
 ·rw[oA h] at hx
  rcases List.mem_cons.1 hx with rfl | hx
  ·simp
  ·have:=ih x hx;simp;omega
theorem zIv (l:List UInt8):(tx l).data.toList=l:=rfl
def jb (l:List ByteArray):ByteArray:=tx (jn (l.map fun x=>x.data.toList))
theorem zEy (s:ByteArray):1<=(pc s).length/\(pc s).length<=s.size+1:=by
 unfold pc;rw[List.length_map,size_eq];exact zIu _
theorem pc_sz (s:ByteArray):∀x∈pc s,x.size<=s.size:=by
 intro x hx;obtain⟨y,hy,rfl⟩:=List.mem_map.1 hx;rw[oB,size_eq];exact zEx _ y hy
end Go.Proofs.YtgeghilbikljcaaGreatDoor.B
namespace Go.Proofs.YtgeghilbikljcaaGreatDoor.B
open Go.RowKit
theorem Ss.form {w:World} {B:Nat} {v:Value} {l:List ByteArray} (h:Ss w B v l) (h0:0<l.length) :
  ∃b o c,v = .slice (some ⟨b,o,none⟩) l.length c/\l.length<=c/\b<B/\∀(j:Nat) (u:ByteArray),l[j]? = some u->w.cell? ⟨b,o+j,none⟩=some (.string u):=by
 obtain⟨A,c,hv,hlc,hc⟩:=h;obtain⟨b,o,hA,hlt,_⟩:=hc 0 l[0] (List.getElem?_eq_getElem h0);refine⟨b,o,c,by rw[hv,hA],hlc,hlt,fun j u hu=>?_⟩;obtain⟨b',o',hA',_,hcell⟩:=hc j u hu;rw[hA] at hA';injection hA' with hA';injection hA' with h1 h2;subst h1 h2;exact hcell
theorem zN6 {l:List ByteArray} {f:ByteArray->Bool} (h:∀(j:Nat) y,j<l.length->l[j]? = some y->f y=true):(l.all f)=true:=by
 rw[List.all_eq_true];intro y hy;obtain⟨j,hj,rfl⟩:=List.getElem_of_mem hy;exact h j _ hj (List.getElem?_eq_getElem hj)
theorem zIw {l:List ByteArray} {f:ByteArray->Bool} {j:Nat} {y:ByteArray} (h:l[j]? = some y) (hp:f y=false):(l.all f)=false:=by
 rw[List.all_eq_false];exact⟨y,List.mem_of_getElem? h,by rw[hp];simp⟩
theorem zSu {l:List ByteArray} {Q:Nat->ByteArray->Prop} {k:Nat} {y:ByteArray} (h:∀(j:Nat) y,j<k->l[j]? = some y->Q j y) (hy:l[k]? = some y) (hq:Q k y):∀(j:Nat) y,j<k+1->l[j]? = some y->Q j y:=by
 intro j z hj hz
 rcases Nat.lt_or_ge j k with h1 | h1
 ·exact h j z h1 hz
 ·obtain rfl:j=k:=by omega
  rw[hy] at hz;injection hz with hz;rw[<- hz];exact hq
def TokAt (w:World) (b:Addr) (K:Int) (X:ByteArray) (M P:Int):Prop:=
 w.cell? b=some (.int .i64 K)/\w.cell? ⟨b.block,b.off+1,none⟩=some (.string X)/\w.cell? ⟨b.block,b.off+2,none⟩=some (.int .i64 M)/\w.cell? ⟨b.block,b.off+3,none⟩=some (.int .i64 P)
theorem zIx (l:List Nat):(cel l).length=l.length:=by simp[cel]
def Sl (w:World) (B:Nat) (v:Value) (l:List Nat):Prop:=
 ∃A c,v = .slice A l.length c/\l.length<=c/\∀(j u:Nat),l[j]? = some u->∃ad,A=some ad/\ad.block<B/\w.cell? (ad.add j)=some (.int .i32 (u:Int))
theorem Sl.nil (w:World) (B:Nat):Sl w B (.slice none 0 0) []:=⟨none,0,rfl,Nat.le_refl _,fun j u hu=>by simp at hu⟩
theorem Sl.own {w:World} {base:Nat} {e:TypeId} {v:Value} {n:Nat} {l:List Nat} (h:w.ownsRow base e 1 v n (cel l)):Sl w w.heap.size v l:=by
 have hn:l.length=n:=by have:=h.1;rw[zIx] at this;omega
 subst hn
 rcases h.2 with ⟨hv,h0⟩ | ⟨g,cap,cur,hv,_,hh,hc,_⟩
 ·have hl:l=[]:=List.eq_nil_of_length_eq_zero h0
  subst hl;exact⟨none,0,hv,Nat.le_refl _,fun j u hu=>by simp at hu⟩
 ·refine⟨some ⟨g,0,none⟩,cap,hv,hc,fun j u hu=>⟨_,rfl,qC hh,?_⟩⟩
  exact h.cells (g:=g) (by rw[hv];rfl) j _ (by simp[cel,hu])
theorem zUj {s:ByteArray} (h:vls s 0=true):rl s=rns s 0:=by simp[rl,h]
theorem zN7 {s:ByteArray} (h:vls s 0=false):rl s=[]:=by simp[rl,h]
theorem oE {s:ByteArray} (h:vls s 0=true):er s=0:=by simp[er,h]
theorem zZk {s:ByteArray} (h:vls s 0=false):er s=4:=by simp[er,h]
def lG (s:ByteArray) (W:World) (e:Ending) (w':World):Prop:=
 ∃v,e = .returned (.tuple #[v,.int .i64 (er s)])/\Sl w' w'.heap.size v (rl s)/\Below W.heap.size W w'
theorem zIy {s:ByteArray} {W w':World} (hv:vls s 0=false) (hb:Below W.heap.size W w'):lG s W (.returned (.tuple #[.slice none 0 0,.int .i64 4])) w':=
 ⟨_,by rw[zZk hv],by rw[zN7 hv];exact Sl.nil _ _,hb⟩
theorem zN8 {s:ByteArray} {W w':World} {base:Nat} {e:TypeId} {v:Value} {n:Nat} {l:List Nat} (hv:vls s 0=true) (hl:l=rns s 0) (ho:w'.ownsRow base e 1 v n (cel l)) (hb:Below W.heap.size W w') :
  lG s W (.returned (.tuple #[v,.int .i64 0])) w':=
 ⟨_,by rw[oE hv],by rw[zUj hv,<- hl];exact Sl.own ho,hb⟩
theorem zN9:(Tryz.prog.info? 21).map (fun i=>(i.zero,i.size,i.bytes))=some (some (.int .i32 0),1,4):=by kernel_rfl
def vS (s:ByteArray) (i:Nat) (w:World) (e:Ending) (w':World):Prop:=e = .returned (.tuple #[.int .i32 (nx s i).1,.int .i64 (nx s i).2])/\w=w'
theorem jS {s:ByteArray} {i:Nat} {w:World} {x y:Value} {a b:Nat} (hx:x = .int .i32 a) (hy:y = .int .i64 b) (h:nx s i=(a,b)):vS s i w (.returned (.tuple #[x,y])) w:=by
 subst hx;subst hy;unfold vS;rw[h];exact⟨rfl,rfl⟩
theorem zXz (s:ByteArray) (i:Nat) (w:World) (hi:i<s.size) (hb:bt s i<128) :
  Calls Tryz.prog 204 #[.string s,.int .i64 i] w (vS s i w):=by
 have hn:nx s i=(s[i].toNat,1):=by rw[nH (rR hb).1,(rR hb).2,xX s i hi]
 have hg:=xX s i hi;rw[<- hg] at hb;clear hg;have HN:=Lib.hid hn;clear hn
 go_enter Tryz.func204,Tryz.ntmps204
 go_wp2
 go_ret2
 exact jS rfl rfl HN.out
theorem zSv (s:ByteArray) (i:Nat) (w:World) (hi:i<s.size) (h1:128<=bt s i) (h2:bt s i<194\/245<=bt s i) :
  Calls Tryz.prog 204 #[.string s,.int .i64 i] w (vS s i w):=by
 have hn:nx s i=(0,0):=wQ (zSt h1 h2);have hg:=xX s i hi;have hl:=xR s i;rw[<- hg] at h1 h2 hl;clear hg;have HN:=Lib.hid hn;clear hn
 rcases h2 with h2 | h2
 all_goals
  go_enter Tryz.func204,Tryz.ntmps204
  go_wp2
  go_ret2
  exact jS rfl rfl HN.out
theorem zW0 (s:ByteArray) (i n off least:Nat) (w:World) (hi:i<s.size) (hL:Lead (bt s i) n off least) (hsz:s.size-i<n) :
  Calls Tryz.prog 204 #[.string s,.int .i64 i] w (vS s i w):=by
 have hn:nx s i=(0,0):=wQ (zXv hL hsz);have hg:=xX s i hi;unfold Lead at hL;rw[<- hg] at hL;clear hg;have HN:=Lib.hid hn;clear hn
 rcases hL with ⟨rfl,rfl,rfl,hl,hu⟩ | ⟨rfl,rfl,rfl,hl,hu⟩ | ⟨rfl,rfl,rfl,hl,hu⟩
 ·have hz:(s.size:Int)-(i:Int)<2:=by omega
  go_enter Tryz.func204,Tryz.ntmps204
  go_wp2
  go_ret2
  exact jS rfl rfl HN.out
 ·have hz:(s.size:Int)-(i:Int)<3:=by omega
  go_enter Tryz.func204,Tryz.ntmps204
  go_wp2
  go_ret2
  exact jS rfl rfl HN.out
 ·have hz:(s.size:Int)-(i:Int)<4:=by omega
  go_enter Tryz.func204,Tryz.ntmps204
  go_wp2
  go_ret2
  exact jS rfl rfl HN.out
theorem sC {s:ByteArray} {i a b:Nat} {z:Int} (off:Nat) (h:a=b) (hl:off<=a) (hz:z=(off:Int)):(a:Int)-z=((acc s i (b-off) (1-1):Nat):Int):=by
 show(a:Int)-z=((b-off:Nat):Int)
 omega
theorem rT (s:ByteArray) (p r j A:Nat) (hj:1<=j) (hA:acc s p r (j-1)=A):acc s p r (j+1-1)=64*A+(bt s (p+j)-128):=by
 obtain⟨k,rfl⟩:∃k,j=k+1:=⟨j-1,by omega⟩;subst hA
 rfl
theorem rU {a:Int} {A b c N:Nat} (hN:N=64*A+(b-128)) (hb:c=b) (hl:128<=c) (ha:a=64*(A:Int)+(c:Int)-128):a=(N:Int):=by omega
theorem rV {s:ByteArray} {i j:Nat} (h:∀t,1<=t->t<j->kI s i t) (h1:128<=bt s (i+j)) (h2:bt s (i+j)<=191):∀t,1<=t->t<j+1->kI s i t:=by
 intro t ht1 ht2
 by_cases e:t=j
 ·subst e;exact⟨h1,h2⟩
 ·exact h t ht1 (by omega)
theorem zNa (s:ByteArray) (i:Nat) (w:World) (hi:i<s.size) (hs:s.size<=9223372036854775807) (hL:Lead (bt s i) 2 192 128) (hsz:2<=s.size-i) :
  Calls Tryz.prog 204 #[.string s,.int .i64 i] w (vS s i w):=by
 have HL:=Lib.hid hL;have hg:=xX s i hi;have hl:194<=s[i].toNat:=by unfold Lead at hL;omega
 have hu:s[i].toNat<224:=by unfold Lead at hL;omega
 clear hL;have HG:=Lib.hid hg;clear hg;have hz:¬(s.size:Int)-(i:Int)<2:=by omega
 go_enter Tryz.func204,Tryz.ntmps204
 go_wp2
 go_loop [8,10] (fun r k=>∃j:Nat,1<=j/\j<=2/\k = .int .i64 j/\r = .int .i64 (acc s i (bt s i-192) (j-1):Nat)/\∀t,1<=t->t<j->kI s i t) (fun _ k=>2-(intOf k).toNat)
 case atStart=>exact⟨1,by omega,by omega,rfl,yS (sC 192 HG.out (by omega) rfl),fun t h1 h2=>by omega⟩
 case round=>
  obtain⟨j,hj1,hj2,rfl,rfl,hall⟩:=hrel;have HA:=Lib.hid hall;clear hall;have hA:=zXw s i (bt s i-192) (j-1) (by have:=HG.out;omega) (by omega);obtain⟨A,hA'⟩:∃A,acc s i (bt s i-192) (j-1)=A:=⟨_,rfl⟩;rw[hA'] at hA;have HA':=Lib.hid hA';rw[hA'];clear hA'
  by_cases hj:j<2
  ·have hij:i+j<s.size:=by omega
   have hc:=xR s (i+j);have hcg:=xX s (i+j) hij;rw[<- hcg] at hc;have HC:=Lib.hid hcg;clear hcg;have HNX:=Lib.hid (rT s i (bt s i-192) j A hj1 HA'.out)
   go_wp2
   all_goals first
    | (go_ret2
       exact jS rfl rfl (wQ (pZ HL.out hj1 hj (by rw[kI,<- HC.out];omega))))
    | (go_round
       case rel=>
        have k1:128<=s[i+j].toNat:=by omega
        have k2:s[i+j].toNat<=191:=by omega
        exact⟨j+1,by omega,by omega,by go_num,yS (rU HNX.out HC.out k1 (by omega)),rV HA.out (by rw[<- HC.out];exact k1) (by rw[<- HC.out];exact k2)⟩
       case measure=>simp[intOf];omega)
  ·obtain rfl:j=2:=by omega
   have HW:=Lib.hid (mI HL.out hsz HA.out HA'.out.symm);clear hj hj1 hj2
   go_wp2
   all_goals
    go_ret2
    first
    | exact jS rfl rfl (wQ (HW.out.1 (by omega)))
    | exact jS rfl rfl (by rw[nH (HW.out.2 (by omega)).1];exact(HW.out.2 (by omega)).2)
theorem zW1 (s:ByteArray) (i:Nat) (w:World) (hi:i<s.size) (hs:s.size<=9223372036854775807) (hL:Lead (bt s i) 3 224 2048) (hsz:3<=s.size-i) :
  Calls Tryz.prog 204 #[.string s,.int .i64 i] w (vS s i w):=by
 have HL:=Lib.hid hL;have hg:=xX s i hi;have hl:224<=s[i].toNat:=by unfold Lead at hL;omega
 have hu:s[i].toNat<240:=by unfold Lead at hL;omega
 clear hL;have HG:=Lib.hid hg;clear hg;have hz:¬(s.size:Int)-(i:Int)<3:=by omega
 go_enter Tryz.func204,Tryz.ntmps204
 go_wp2
 go_loop [8,10] (fun r k=>∃j:Nat,1<=j/\j<=3/\k = .int .i64 j/\r = .int .i64 (acc s i (bt s i-224) (j-1):Nat)/\∀t,1<=t->t<j->kI s i t) (fun _ k=>3-(intOf k).toNat)
 case atStart=>exact⟨1,by omega,by omega,rfl,yS (sC 224 HG.out (by omega) rfl),fun t h1 h2=>by omega⟩
 case round=>
  obtain⟨j,hj1,hj2,rfl,rfl,hall⟩:=hrel;have HA:=Lib.hid hall;clear hall;have hA:=zXw s i (bt s i-224) (j-1) (by have:=HG.out;omega) (by omega);obtain⟨A,hA'⟩:∃A,acc s i (bt s i-224) (j-1)=A:=⟨_,rfl⟩;rw[hA'] at hA;have HA':=Lib.hid hA';rw[hA'];clear hA'
  by_cases hj:j<3
  ·have hij:i+j<s.size:=by omega
   have hc:=xR s (i+j);have hcg:=xX s (i+j) hij;rw[<- hcg] at hc;have HC:=Lib.hid hcg;clear hcg;have HNX:=Lib.hid (rT s i (bt s i-224) j A hj1 HA'.out)
   go_wp2
   all_goals first
    | (go_ret2
       exact jS rfl rfl (wQ (pZ HL.out hj1 hj (by rw[kI,<- HC.out];omega))))
    | (go_round
       case rel=>
        have k1:128<=s[i+j].toNat:=by omega
        have k2:s[i+j].toNat<=191:=by omega
        exact⟨j+1,by omega,by omega,by go_num,yS (rU HNX.out HC.out k1 (by omega)),rV HA.out (by rw[<- HC.out];exact k1) (by rw[<- HC.out];exact k2)⟩
       case measure=>simp[intOf];omega)
  ·obtain rfl:j=3:=by omega
   have HW:=Lib.hid (mI HL.out hsz HA.out HA'.out.symm);clear hj hj1 hj2
   go_wp2
   all_goals
    go_ret2
    first
    | exact jS rfl rfl (wQ (HW.out.1 (by omega)))
    | exact jS rfl rfl (by rw[nH (HW.out.2 (by omega)).1];exact(HW.out.2 (by omega)).2)
theorem zSw (s:ByteArray) (i:Nat) (w:World) (hi:i<s.size) (hs:s.size<=9223372036854775807) (hL:Lead (bt s i) 4 240 65536) (hsz:4<=s.size-i) :
  Calls Tryz.prog 204 #[.string s,.int .i64 i] w (vS s i w):=by
 have HL:=Lib.hid hL;have hg:=xX s i hi;have hl:240<=s[i].toNat:=by unfold Lead at hL;omega
 have hu:s[i].toNat<245:=by unfold Lead at hL;omega
 clear hL;have HG:=Lib.hid hg;clear hg;have hz:¬(s.size:Int)-(i:Int)<4:=by omega
 go_enter Tryz.func204,Tryz.ntmps204
 go_wp2
 go_loop [8,10] (fun r k=>∃j:Nat,1<=j/\j<=4/\k = .int .i64 j/\r = .int .i64 (acc s i (bt s i-240) (j-1):Nat)/\∀t,1<=t->t<j->kI s i t) (fun _ k=>4-(intOf k).toNat)
 case atStart=>exact⟨1,by omega,by omega,rfl,yS (sC 240 HG.out (by omega) rfl),fun t h1 h2=>by omega⟩
 case round=>
  obtain⟨j,hj1,hj2,rfl,rfl,hall⟩:=hrel;have HA:=Lib.hid hall;clear hall;have hA:=zXw s i (bt s i-240) (j-1) (by have:=HG.out;omega) (by omega);obtain⟨A,hA'⟩:∃A,acc s i (bt s i-240) (j-1)=A:=⟨_,rfl⟩;rw[hA'] at hA;have HA':=Lib.hid hA';rw[hA'];clear hA'
  by_cases hj:j<4
  ·have hij:i+j<s.size:=by omega
   have hc:=xR s (i+j);have hcg:=xX s (i+j) hij;rw[<- hcg] at hc;have HC:=Lib.hid hcg;clear hcg;have HNX:=Lib.hid (rT s i (bt s i-240) j A hj1 HA'.out)
   go_wp2
   all_goals first
    | (go_ret2
       exact jS rfl rfl (wQ (pZ HL.out hj1 hj (by rw[kI,<- HC.out];omega))))
    | (go_round
       case rel=>
        have k1:128<=s[i+j].toNat:=by omega
        have k2:s[i+j].toNat<=191:=by omega
        exact⟨j+1,by omega,by omega,by go_num,yS (rU HNX.out HC.out k1 (by omega)),rV HA.out (by rw[<- HC.out];exact k1) (by rw[<- HC.out];exact k2)⟩
       case measure=>simp[intOf];omega)
  ·obtain rfl:j=4:=by omega
   have HW:=Lib.hid (mI HL.out hsz HA.out HA'.out.symm);clear hj hj1 hj2
   go_wp2
   all_goals
    go_ret2
    first
    | exact jS rfl rfl (wQ (HW.out.1 (by omega)))
    | exact jS rfl rfl (by rw[nH (HW.out.2 (by omega)).1];exact(HW.out.2 (by omega)).2)
theorem zNb (s:ByteArray) (i:Nat) (w:World) (hi:i<s.size) (hs:s.size<=9223372036854775807) :
  Calls Tryz.prog 204 #[.string s,.int .i64 i] w (vS s i w):=by
 by_cases h0:bt s i<128
 ·exact zXz s i w hi h0
 by_cases h1:bt s i<194\/245<=bt s i
 ·exact zSv s i w hi (by omega) h1
 obtain⟨n,off,least,hL⟩:∃n off least,Lead (bt s i) n off least:=by
  by_cases h2:bt s i<224
  ·exact⟨2,192,128,.inl ⟨rfl,rfl,rfl,by omega,h2⟩⟩
  by_cases h3:bt s i<240
  ·exact⟨3,224,2048,.inr (.inl ⟨rfl,rfl,rfl,by omega,h3⟩)⟩
  ·exact⟨4,240,65536,.inr (.inr ⟨rfl,rfl,rfl,by omega,by omega⟩)⟩
 by_cases hsz:s.size-i<n
 ·exact zW0 s i n off least w hi hL hsz
 have hL':=hL
 rcases hL with ⟨rfl,rfl,rfl,_⟩ | ⟨rfl,rfl,rfl,_⟩ | ⟨rfl,rfl,rfl,_⟩
 ·exact zNa s i w hi hs hL' (by omega)
 ·exact zW1 s i w hi hs hL' (by omega)
 ·exact zSw s i w hi hs hL' (by omega)
theorem zUk {s:ByteArray} {i a b:Nat} (w:World) (hi:i<s.size) (hs:s.size<=9223372036854775807) (h:nx s i=(a,b)) :
  Calls Tryz.prog 204 #[.string s,.int .i64 i] w fun e w'=>e = .returned (.tuple #[.int .i32 (a:Int),.int .i64 (b:Int)])/\w=w':=by
 have:=zNb s i w hi hs;unfold vS at this;rw[h] at this;exact this
def zEz (s:ByteArray) (W:World) (v i:Value) (wr:World):Prop:=
 ∃(p:Nat) (l:List Nat),i = .int .i64 p/\p<=s.size/\l.length<=p/\wr.ownsRow W.heap.size 21 1 v l.length (cel l)/\Below W.heap.size W wr/\l++rns s p=rns s 0/\vls s p=vls s 0
theorem zSx (s:ByteArray) (w:World) (hs:s.size<=1000000000) :
  Calls Tryz.prog 174 #[.string s] w (lG s w):=by
 obtain⟨i0,hi,hz0,hz1,hz2⟩:=info_parts zN9
 go_enter Tryz.func174,Tryz.ntmps174
 go_wp2
 go_loopw [4,5] (fun v i wr=>zEz s w v i wr) (fun _ i _=>s.size-(intOf i).toNat)
 case atStart=>exact⟨0,[],rfl,Nat.zero_le _,Nat.zero_le _,World.ownsRow_nil _ _ _ _,Below.refl _ _,rfl,rfl⟩
 case round=>
  obtain⟨p,l,rfl,hp,hlp,hown,hbel,hl,hv⟩:=hrel;have HL:=Lib.hid hl;have HV:=Lib.hid hv;clear hl hv;have hbs:=hbel.size
  by_cases hlt:p<s.size
  ·by_cases hb:bad s p=true
   ·have hnx:=wQ hb
    have HB:=Lib.hid hb;clear hb;have cN:∀W,Calls Tryz.prog 204 #[.string s,.int .i64 p] W _:=fun W=>zUk W hlt (by omega) hnx
    clear hnx
    go_wp2_with (go_at_call 204;refine(cN _).mono ?_;rintro e w' ⟨rfl,rfl⟩)
    go_ret2
    exact zIy (by rw[<- HV.out];exact zIt hlt HB.out) hbel
   ·have hb':bad s p=false:=by simpa using hb
    clear hb;have hnx:=nH hb';have HB:=Lib.hid hb';clear hb';have hw1:=kN s p;have hw2:=lZ s p hlt;have HR:=Lib.hid (vV hlt);have HS:=Lib.hid (rD hlt HB.out);obtain⟨r,k,hrk⟩:∃r k,dc s p=(r,k):=⟨_,_,rfl⟩;have hr:=zVz s p;rw[hrk] at hnx hw1 hw2 HR HS hr
    dsimp only at hw1 hw2 HR HS hr
    clear hrk;have cN:∀W,Calls Tryz.prog 204 #[.string s,.int .i64 p] W _:=fun W=>zUk W hlt (by omega) hnx
    clear hnx;have hk0:((k:Int)==0)=false:=by simp;omega
    go_wp2_with (first
     | (go_at_call 204;refine(cN _).mono ?_;rintro e w' ⟨rfl,rfl⟩)
     | (at_builtin;go_loud (refine wpList_append_own _ rfl _ _ 172 rfl w.heap.size 21 i0 (.int .i32 0) 1 4 Tryz.underlying172 hi hz0 hz1 hz2 rfl (by decide) _ _ _ rfl (hown.alloc _) ⟨wr.heap.size,0,none⟩ 1 1 [.int .i32 (r:Int)] rfl rfl (cell_one_new _ _ _) (fun x hx=>by simp at hx;subst hx;rfl) (by unfold maxLen;omega) (by omega) (by simp;omega) ?_);intro v' w1 hown1 hgrow1 _))
    go_roundw
    case rel=>
     exact⟨p+k,l++[r],by go_num,hw2,by simp;omega,by simpa [cel] using hown1,((hbel.alloc hbs _).grown hgrow1 (by simp;omega) (fun g hg=>(hown.lt g hg).1)),
      by rw[List.append_assoc,List.singleton_append,<- HR.out];exact HL.out,by rw[<- HS.out];exact HV.out⟩
    case measure=>simp[intOf];omega
  ·have e1:=gE hlt
   have e2:=tW hlt;have hl:=HL.out;have hv:=HV.out;rw[e1,List.append_nil] at hl;rw[e2] at hv;have HL2:=Lib.hid hl;have HV2:=Lib.hid hv;clear hl hv e1 e2
   go_wp2
   go_ret2
   exact zN8 HV2.out.symm HL2.out hown hbel
theorem zNc (r:Int) (w:World):Calls Tryz.prog 175 #[.int .i32 r] w fun e w'=>e = .returned (.int .i64 (cls r))/\w=w':=by
 obtain⟨c,hc⟩:∃c,cls r=c:=⟨_,rfl⟩;rw[hc];have HC:=Lib.hid hc;clear hc
 go_enter Tryz.func175,Tryz.ntmps175
 go_wp2
 all_goals go_ret
 all_goals
  refine⟨tZ (HC.out.symm.trans (zPu r _ ?_)),rfl⟩;simp only[beq_iff_eq,beq_eq_false_iff_ne,bne_iff_ne,bne_eq_false_iff_eq,ne_eq,and_true] at *;omega
def nmr (s:ByteArray):Bool:=vls s 0&&decide (1<=s.size/\s.size<=32)&&nmL (rns s 0)
theorem zD0 (s:ByteArray):nmr s=nm s:=by
 unfold nmr nm;rw[iJ]
 cases hv:vls s 0
 ·have:=zPv s 0 hv
  rw[iJ] at this
  simp[this]
 ·simp
theorem zIz {l:List Nat} {f:Nat->Bool}:(∀(j x:Nat),l[j]? = some x->f x=true)->l.all f=true:=by
 intro h;rw[List.all_eq_true];intro x hx;obtain⟨j,hj⟩:=List.getElem?_of_mem hx;exact h j x hj
def okUp (l:List Nat) (k:Nat):Prop:=∀(j x:Nat),j<k->l[j]? = some x->mst x (decide (j=0))=true
theorem eC {l:List Nat} {k x:Nat} (h:okUp l k) (hx:l[k]? = some x) (hm:mst x (decide (k=0))=true):okUp l (k+1):=by
 intro j y hj hy
 by_cases e:j=k
 ·subst e
  rw[hx] at hy
  cases hy
  exact hm
 ·exact h j y (by omega) hy
theorem zD1 {l:List Nat} (h:okUp l l.length):nmL l=true:=by
 cases l with
 | nil=>rfl
 | cons r t=>
  unfold nmL;rw[Bool.and_eq_true];refine⟨h 0 r (by simp) rfl,zIz fun j x hx=>?_⟩;have hj:j<t.length:=by
   rcases Nat.lt_or_ge j t.length with h' | h'
   ·exact h'
   ·rw[List.getElem?_eq_none h'] at hx;cases hx
  exact h (j+1) x (by simp;omega) (by simpa using hx)
theorem zUl {l:List Nat} {k x:Nat} (hx:l[k]? = some x) (hm:mst x (decide (k=0))=false):nmL l=false:=by
 cases l with
 | nil=>simp at hx
 | cons r t=>
  cases k with
  | zero=>
   simp at hx
   subst hx
   show(mst r true&&_)=false
   rw[show mst (r:Int) true=false from hm,Bool.false_and]
  | succ k=>
   have hx':t[k]? = some x:=by simpa using hx
   have hm':mst (x:Int) false=false:=hm
   show(_&&t.all _)=false
   rw[Bool.and_eq_false_iff]
   right
   rw[List.all_eq_false];exact⟨x,List.mem_of_getElem? hx',by rw[hm'];simp⟩
theorem vF (s:ByteArray) (w:World) (hs:s.size<=1000000000) :
  Calls Tryz.prog 152 #[.string s] w (vR (nm s) w):=by
 rw[<- zD0];obtain⟨ANS,hans⟩:∃b,nmr s=b:=⟨_,rfl⟩;rw[hans];have cD:=zSx s w hs;unfold lG at cD
 by_cases hgo:vls s 0=true/\1<=s.size/\s.size<=32
 ·obtain⟨hv,h1,h2⟩:=hgo
  rw[oE hv,zUj hv] at cD;have hA:nmL (rns s 0)=ANS:=by rw[<- hans];unfold nmr;rw[hv,decide_eq_true ⟨h1,h2⟩];simp
  have HA:=Lib.hid hA;clear hA hans hv;have hlen:=zXy s 0
  generalize rns s 0=l at HA cD hlen
  have hz1:¬(s.size:Int)<1:=by omega
  have hz2:¬(32:Int)<(s.size:Int):=by omega
  go_enter Tryz.func152,Tryz.ntmps152
  go_wp2_with (go_at_call 174;refine cD.mono ?_;rintro e w' ⟨v,rfl,hsl,hb⟩)
  obtain⟨A,c,rfl,hc⟩:=hsl;have HSL:=Lib.hid hc;clear hc cD
  go_loopw [5] (fun i wr=>∃k:Nat,i = .int .i64 k/\k<=l.length/\okUp l k/\∃q,wr=w'.drewN q) (fun i _=>l.length-(intOf i).toNat)
  case atStart=>exact⟨0,rfl,Nat.zero_le _,fun j x h=>by omega,0,rfl⟩
  case round=>
   obtain⟨k,rfl,hk,hok,q,rfl⟩:=hrel;have HOK:=Lib.hid hok;clear hok
   by_cases hlt:k<l.length
   ·obtain⟨x,hx⟩:∃x,l[k]? = some x:=⟨_,List.getElem?_eq_getElem hlt⟩
    obtain⟨a1,rfl,_,hc1⟩:=HSL.out.2 k x hx;have HX:=Lib.hid hx;clear hx;obtain⟨cx,hcx⟩:∃cx,cls x=cx:=⟨_,rfl⟩;have cC:∀W,Calls Tryz.prog 175 #[.int .i32 x] W _:=fun W=>zNc x W
    rw[hcx] at cC;have HCX:=Lib.hid hcx;clear hcx;have hlz:(k:Int)<(l.length:Int):=by omega
    by_cases k0:k=0
    ·have hk0:((k:Int)==0)=true:=by simp[k0]
     have HK:Hid (decide (k=0)=true):=Lib.hid (by simp[k0]);clear k0
     go_wp2_with (go_at_call 175;refine(cC _).mono ?_;rintro e w1 ⟨rfl,rfl⟩)
     all_goals first
      | (go_ret
         have e1:cx≠1:=by first | omega | (simp only[bne_iff_ne,ne_eq] at *;omega)
         exact⟨kP (by rw[<- HA.out];exact zUl HX.out (pY HCX.out ⟨e1,.inl HK.out⟩)),qE hb _⟩)
      | (go_roundw
         case rel=>
          have e1:cx=1:=by first | omega | (simp only[bne_iff_ne,bne_eq_false_iff_eq,ne_eq] at *;omega)
          exact⟨k+1,by go_num,hlt,eC HOK.out HX.out (rK HCX.out (.inl e1)),_,rfl⟩
         case measure=>simp[intOf];omega)
    ·have hk0:((k:Int)==0)=false:=by simp;omega
     have HK:Hid (decide (k=0)=false):=Lib.hid (by simp[k0]);clear k0
     go_wp2_with (go_at_call 175;refine(cC _).mono ?_;rintro e w1 ⟨rfl,rfl⟩)
     all_goals first
      | (go_ret
         have e1:cx≠1/\(cx≠2/\(x:Int)≠39):=by first | omega | (simp only[bne_iff_ne,ne_eq] at *;omega)
         exact⟨kP (by rw[<- HA.out];exact zUl HX.out (pY HCX.out ⟨e1.1,.inr e1.2⟩)),qE hb _⟩)
      | (go_roundw
         case rel=>
          have e1:cx=1\/(cx=2\/(x:Int)=39):=by first | omega | (simp only[bne_eq_false_iff_eq] at *;omega)
          exact⟨k+1,by go_num,hlt,eC HOK.out HX.out (rK HCX.out (e1.imp id fun h=>⟨h,HK.out⟩)),_,rfl⟩
         case measure=>simp[intOf];omega)
   ·have hlz:¬(k:Int)<(l.length:Int):=by omega
    have HN:=Lib.hid (zD1 (l:=l));obtain rfl:k=l.length:=by omega
    go_wp2
    go_ret
    exact⟨kP (by rw[<- HA.out];exact HN.out HOK.out),qE hb _⟩
 ·have HA:Hid (ANS=false):=Lib.hid (by
   rw[<- hans];unfold nmr
   by_cases hv:vls s 0=true
   ·rw[decide_eq_false (fun h=>hgo ⟨hv,h⟩)];simp
   ·simp[hv])
  clear hans
  cases hv:vls s 0
  ·rw[zZk hv] at cD
   clear hgo hv
   go_enter Tryz.func152,Tryz.ntmps152
   go_wp2_with (go_at_call 174;refine cD.mono ?_;rintro e w' ⟨v,rfl,hsl,hb⟩)
   go_ret
   exact⟨kP HA.out,hb⟩
  ·rw[oE hv] at cD
   have hsz:s.size<1\/(1<=s.size/\32<s.size):=by
    rcases Nat.lt_or_ge s.size 1 with h | h
    ·exact .inl h
    ·rcases Nat.lt_or_ge 32 s.size with h' | h'
     ·exact .inr ⟨h,h'⟩
     ·exact absurd ⟨hv,h,h'⟩ hgo
   clear hgo hv
   rcases hsz with h1 | ⟨h1,h2⟩
   ·have hz1:(s.size:Int)<1:=by omega
    go_enter Tryz.func152,Tryz.ntmps152
    go_wp2_with (go_at_call 174;refine cD.mono ?_;rintro e w' ⟨v,rfl,hsl,hb⟩)
    go_ret
    exact⟨kP HA.out,hb⟩
   ·have hz1:¬(s.size:Int)<1:=by omega
    have hz2:(32:Int)<(s.size:Int):=by omega
    go_enter Tryz.func152,Tryz.ntmps152
    go_wp2_with (go_at_call 174;refine cD.mono ?_;rintro e w' ⟨v,rfl,hsl,hb⟩)
    go_ret
    exact⟨kP HA.out,hb⟩
def wdV:Array Value:=(WORDS.map fun x=>Value.string (T x)).toArray
def wdk (k:Nat):List Nat:=WORDS.getD k []
theorem zD2 (k:Nat) (h:k<29):wdV[k]? = some (.string (T (wdk k))):=by
 unfold wdV wdk;rw[List.getElem?_toArray,List.getElem?_map,List.getD_eq_getElem?_getD,List.getElem?_eq_getElem (show k<WORDS.length from h)]
 rfl
theorem zSy (w:World):Calls Tryz.prog 176 #[] w fun e w'=>e = .returned (.slice (some ⟨w.heap.size,0,none⟩) 29 29)/\w'=w.alloc (.cells wdV 9):=by
 have hv:wdV=#[.string ⟨#[118,97,108]⟩]++wdV.extract 1 29:=by kernel_rfl
 clear hv
 go_enter Tryz.func176,Tryz.ntmps176
 go_wp2
 go_ret
 refine⟨rfl,?_⟩;exact congrArg (fun c=>w.alloc (.cells c 9)) (by kernel_rfl)
theorem zH0 {s:ByteArray} {k:Nat} (h:k<29) (e:T (wdk k)=s):wrd s=true:=by
 unfold wrd;rw[List.any_eq_true];refine⟨wdk k,?_,by rw[e];simp⟩;unfold wdk;rw[List.getD_eq_getElem?_getD,List.getElem?_eq_getElem (show k<WORDS.length from h)];exact List.getElem_mem _
theorem zNd {s:ByteArray} (h:∀k,k<29->T (wdk k)≠s):wrd s=false:=by
 unfold wrd;rw[List.any_eq_false];intro x hx;obtain⟨k,hk,rfl⟩:=List.getElem_of_mem hx;have:=h k hk;unfold wdk at this;rw[List.getD_eq_getElem?_getD,List.getElem?_eq_getElem hk] at this;simp only[Option.getD_some] at this;rw[decide_eq_true_iff];exact fun e=>this e.symm
theorem zH1 (s:ByteArray) (w:World):Calls Tryz.prog 153 #[.string s] w (vR (wrd s) w):=by
 have c1:=zSy w;obtain⟨V,hV⟩:∃V,wdV=V:=⟨_,rfl⟩;rw[hV] at c1;have HV:=Lib.hid hV;clear hV
 go_enter Tryz.func153,Tryz.ntmps153
 go_wp2_with fail;refine c1.mono ?_;rintro e w1 ⟨rfl,rfl⟩
 go_wp2
 have hb0:Below w.heap.size w (w.alloc (.cells V 9)):=(Below.refl _ _).alloc (Nat.le_refl _) _;have hblk:(w.alloc (.cells V 9)).heap[w.heap.size]? = some (.cells V 9 (0,0)):=heap_alloc_new w _
 generalize w.alloc (.cells V 9)=W0 at hb0 hblk ⊢
 go_loop [4] (fun i=>∃k:Nat,k<=29/\i = .int .i64 k/\∀j,j<k->T (wdk j)≠s) (fun i=>29-(intOf i).toNat)
 case atStart=>exact⟨0,Nat.zero_le _,rfl,fun j hj=>absurd hj (Nat.not_lt_zero _)⟩
 case round=>
  obtain⟨k,hk,rfl,hno⟩:=hrel;have HNO:=Lib.hid hno;clear hno
  by_cases hlt:k<29
  ·have hcell:W0.cell? ⟨w.heap.size,k,none⟩=some (.string (T (wdk k))):=by
    rw[cell_of_row W0 _ k _ _ _ hblk,<- HV.out];exact zD2 k hlt
   obtain⟨X,hX⟩:∃X,T (wdk k)=X:=⟨_,rfl⟩;rw[hX] at hcell;have HX:=Lib.hid hX;clear hX
   by_cases he:X=s
   ·have e1:(X.toList==s.toList)=true:=by rw[he];simp
    have HE:=Lib.hid he;clear he
    go_wp2
    go_ret
    exact⟨kP (zH0 hlt (HX.out.trans HE.out)),hb0⟩
   ·have e1:(X.toList==s.toList)=false:=by
     rw[beq_eq_false_iff_ne];intro h;rw[Lib.toList_data,Lib.toList_data] at h;exact he (vP h)
    have HE:=Lib.hid he;clear he
    go_wp2
    go_round
    case rel=>exact⟨k+1,by omega,by go_num,fun j hj=>by
     rcases Nat.lt_or_ge j k with h | h
     ·exact HNO.out j h
     ·rw[show j=k by omega,HX.out];exact HE.out⟩
    case measure=>simp[intOf];omega
  ·go_wp2
   go_ret
   exact⟨kP (zNd fun j hj=>HNO.out j (by omega)),hb0⟩
theorem refCk (s:ByteArray) (w:World) (hs:s.size<=1000000000):Calls Tryz.prog 118 #[.string s] w (vR (nck s) w):=by
 have cN:=fun W=>vF s W hs
 have cW:=fun W=>zH1 s W
 obtain⟨a,ha⟩:∃a,nm s=a:=⟨_,rfl⟩;obtain⟨b,hb⟩:∃b,wrd s=b:=⟨_,rfl⟩;have HA:=Lib.hid (zOz ha hb);rw[ha] at cN;rw[hb] at cW;clear ha hb
 cases a
 ·go_enter Tryz.func118,Tryz.ntmps118
  go_wp2_with fail;refine(cN _).mono ?_;rintro e w1 ⟨rfl,hb1⟩
  go_wp2
  go_ret
  exact wP HA.out hb1
 ·go_enter Tryz.func118,Tryz.ntmps118
  go_wp2_with fail;refine(cN _).mono ?_;rintro e w1 ⟨rfl,hb1⟩;have HB1:=Lib.hid hb1;clear hb1;go_wp2_with fail;refine(cW _).mono ?_;rintro e w2 ⟨rfl,hb2⟩;have hb3:=chn HB1.out hb2;clear hb2
  go_wp2
  go_ret
  exact wP (by rw[HA.out];rfl) hb3
def frm (s:ByteArray) (i:Nat):List UInt8:=s.data.toList.drop i
def PcRel (s:ByteArray) (out:List ByteArray) (a i:Nat):Prop:=
 a<=i/\i<=s.size/\pc s=out++(pcl (frm s a)).map tx/\(46:UInt8)∉(frm s a).take (i-a)
theorem zNe (s:ByteArray):PcRel s [] 0 0:=⟨Nat.le_refl _,Nat.zero_le _,by simp[frm,pc],by simp⟩
theorem zNf (s:ByteArray) (a i:Nat) (h1:a<=i) (h2:i<s.size):frm s a=(frm s a).take (i-a)++s[i]::frm s (i+1):=by
 unfold frm;have e:s[i]=s.data.toList[i]'(by rw[<- Lib.size_eq];exact h2):=by simp;rfl
 have h3:i<s.data.toList.length:=by rw[<- Lib.size_eq];exact h2
 rw[e]
 conv=>lhs;rw[<- List.take_append_drop (i-a) (s.data.toList.drop a)]
 rw[List.drop_drop,show a+(i-a)=i by omega,List.drop_eq_getElem_cons h3]
theorem zNg (s:ByteArray) (a i:Nat) (_:i<=s.size):s.extract a i=tx ((frm s a).take (i-a)):=by
 apply vP
 rw[Lib.extract_data,zIv]
 rfl
theorem zD3 {s:ByteArray} {out:List ByteArray} {a i:Nat} (h:PcRel s out a i) (hi:i<s.size) (hd:s[i]=46):PcRel s (out++[s.extract a i]) (i+1) (i+1):=by
 obtain⟨h1,h2,h3,h4⟩:=h;refine⟨Nat.le_refl _,hi,?_,by simp⟩;rw[h3,zNg s a i h2,List.append_assoc]
 congr 1
 have e:=zNf s a i h1 hi;rw[hd] at e
 conv=>lhs;rw[e,oA h4]
 rfl
theorem zH2 {s:ByteArray} {out:List ByteArray} {a i:Nat} (h:PcRel s out a i) (hi:i<s.size) (hd:s[i]≠46):PcRel s out a (i+1):=by
 obtain⟨h1,h2,h3,h4⟩:=h;refine⟨by omega,hi,h3,?_⟩;have e:=zNf s a i h1 hi;rw[e];rw[List.take_append,List.mem_append];have hl:((frm s a).take (i-a)).length=i-a:=by
  unfold frm;rw[List.length_take,List.length_drop,<- Lib.size_eq];omega
 rintro(hm | hm)
 ·exact h4 (List.mem_of_mem_take hm)
 ·rw[hl,show i+1-a-(i-a)=1 by omega,List.take_succ_cons,List.take_zero,List.mem_singleton] at hm
  exact hd hm.symm
theorem zD4 {s:ByteArray} {out:List ByteArray} {a:Nat} (h:PcRel s out a s.size):pc s=out++[s.extract a s.size]:=by
 obtain⟨h1,h2,h3,h4⟩:=h;rw[h3,zNg s a s.size (Nat.le_refl _)]
 congr 1
 have:(frm s a).take (s.size-a)=frm s a:=by
  apply List.take_of_length_le
  unfold frm;rw[List.length_drop,<- Lib.size_eq];exact Nat.le_refl _
 rw[this] at h4 ⊢;rw[fL h4]
 rfl
def PiRel (s:ByteArray) (W:World) (v a i:Value) (wr:World):Prop:=
 ∃(out:List ByteArray) (x k:Nat),a = .int .i64 x/\i = .int .i64 k/\out.length<=k/\PcRel s out x k/\wr.ownsRow W.heap.size 9 1 v out.length (sv out)/\Below W.heap.size W wr
theorem zW2 (s:ByteArray) (w:World) (hs:s.size<=1000000):Calls Tryz.prog 154 #[.string s] w (oC (pc s) w):=by
 obtain⟨i0,hi,hz0,hz1,hz2⟩:=info_parts zUe
 go_enter Tryz.func154,Tryz.ntmps154
 go_wp2
 go_loopw [3,4,5] (fun v a i wr=>PiRel s w v a i wr) (fun _ _ i _=>s.size-(intOf i).toNat)
 case atStart=>exact⟨[],0,0,rfl,rfl,Nat.le_refl _,zNe s,World.ownsRow_nil _ _ _ _,Below.refl _ _⟩
 case round=>
  obtain⟨out,x,k,rfl,rfl,hok,hpc,hown,hbel⟩:=hrel;have hxk:=hpc.1;have hks:=hpc.2.1;have hbs:=hbel.size;have HPC:=Lib.hid hpc;have HOWN:=Lib.hid hown;have HBEL:=Lib.hid hbel;clear hpc hown hbel
  by_cases hlt:k<s.size
  ·by_cases hd:s[k]=46
   ·have hde:((s[k].toNat:Int)==46)=true:=by rw[hd];rfl
    have HD:=Lib.hid hd;clear hd
    go_wp2_with (at_builtin;(refine wpList_append_own _ rfl _ _ 80 rfl w.heap.size 9 i0 (.string ⟨#[]⟩) 1 16 Tryz.underlying80 hi hz0 hz1 hz2 rfl (by decide) _ _ _ rfl (HOWN.out.alloc _) ⟨wr.heap.size,0,none⟩ 1 1 [.string (s.extract x k)] rfl rfl (cell_one_new _ _ _) (fun x hx=>by simp at hx;subst hx;rfl) (by unfold maxLen;omega) (by omega) (by simp;omega) ?_);intro v' w4 hown4 hgrow4 _)
    have hbel:=(HBEL.out.alloc hbs _).grown hgrow4 (by simp;omega) (fun g hg=>(HOWN.out.lt g hg).1);have HBEL4:=Lib.hid hbel;have HOWN4:=Lib.hid hown4;clear hown4 hgrow4 hbel
    go_roundw
    case rel=>exact⟨out++[s.extract x k],k+1,k+1,by go_num,by go_num,by simp;omega,zD3 HPC.out hlt HD.out,by simpa [sv] using HOWN4.out,HBEL4.out⟩
    case measure=>simp[intOf];omega
   ·have hde:((s[k].toNat:Int)==46)=false:=by
     rw[beq_eq_false_iff_ne];intro e
     apply hd
     apply UInt8.toNat.inj
     show s[k].toNat=46
     omega
    have HD:=Lib.hid hd;clear hd
    go_wp2
    go_roundw
    case rel=>exact⟨out,x,k+1,rfl,by go_num,by omega,zH2 HPC.out hlt HD.out,HOWN.out,HBEL.out⟩
    case measure=>simp[intOf];omega
  ·have hks2:k=s.size:=by omega
   subst hks2
   go_wp2_with (at_builtin;(refine wpList_append_own _ rfl _ _ 80 rfl w.heap.size 9 i0 (.string ⟨#[]⟩) 1 16 Tryz.underlying80 hi hz0 hz1 hz2 rfl (by decide) _ _ _ rfl (HOWN.out.alloc _) ⟨wr.heap.size,0,none⟩ 1 1 [.string (s.extract x s.size)] rfl rfl (cell_one_new _ _ _) (fun x hx=>by simp at hx;subst hx;rfl) (by unfold maxLen;omega) (by omega) (by simp;omega) ?_);intro v' w4 hown4 hgrow4 _)
   have hbel:=(HBEL.out.alloc hbs _).grown hgrow4 (by simp;omega) (fun g hg=>(HOWN.out.lt g hg).1);have HBEL4:=Lib.hid hbel;have HOWN4:=Lib.hid hown4;clear hown4 hgrow4 hbel
   go_ret
   exact zOy (zD4 HPC.out) (by simpa [sv] using HOWN4.out) HBEL4.out
theorem zH3 (s:ByteArray) (w:World) (hs:s.size<=1000000000):Calls Tryz.prog 119 #[.string s] w (vR (long s) w):=by
 by_cases hbig:s.size<=128
 ·have hz:¬(128:Int)<(s.size:Int):=by omega
  have cP:=zW2 s w (by omega);have hlen:=zEy s;have hpz:=pc_sz s;have hlg:∀b,(pc s).all nck=b->long s=b:=fun b h=>by unfold long;rw[decide_eq_true hbig,h];rfl
  obtain⟨l,hl⟩:∃l,pc s=l:=⟨_,rfl⟩;rw[hl] at cP hlen hpz hlg;have HLG:=Lib.hid hlg;have HPZ:=Lib.hid hpz;clear hl hlg hpz
  go_enter Tryz.func119,Tryz.ntmps119
  go_wp2_with fail;refine cP.mono ?_;rintro e w1 ⟨v,rfl,hv,hb1⟩;obtain⟨b,o,c,rfl,hlc,hblt,hcl⟩:=hv.form (by omega);have HCL:=Lib.hid hcl;have HB1:=Lib.hid hb1;have hs1:=hb1.size;clear hv hcl hb1
  go_wp2
  obtain⟨n,hn⟩:∃n,l.length=n:=⟨_,rfl⟩;rw[hn] at hlen hlc ⊢;have HN:=Lib.hid hn;clear hn
  go_loopw [4] (fun i wr=>∃k:Nat,k<=n/\i = .int .i64 k/\Below w1.heap.size w1 wr/\(∀(j:Nat) y,j<k->l[j]? = some y->nck y=true)) (fun i _=>n-(intOf i).toNat)
  case atStart=>exact⟨0,Nat.zero_le _,rfl,Below.refl _ _,fun j y hj=>absurd hj (Nat.not_lt_zero _)⟩
  case round=>
   obtain⟨k,hk,rfl,hbw,hall⟩:=hrel;have HALL:=Lib.hid hall;clear hall
   by_cases hlt:k<n
   ·obtain⟨y,hy⟩:∃y,l[k]? = some y:=⟨_,List.getElem?_eq_getElem (by rw[HN.out];exact hlt)⟩
    have hcell:=(hbw.cell (p:=⟨b,o+k,none⟩) hblt).trans (HCL.out k y hy);have hyz:=HPZ.out y (List.mem_of_getElem? hy);have cK:=fun W=>refCk y W (by omega)
    have HY:=Lib.hid hy;have HBW:=Lib.hid hbw;have hbs:=hbw.size;obtain⟨a,ha⟩:∃a,nck y=a:=⟨_,rfl⟩;rw[ha] at cK;have HA:=Lib.hid ha;clear hy hyz ha hbw
    cases a
    ·go_wp2_with fail
     refine(cK _).mono ?_;rintro e w2 ⟨rfl,hb2⟩;have hfin:=HB1.out.trans ((HBW.out.trans (hb2.mono hbs)).mono hs1);clear hb2
     go_wp2
     go_ret
     exact wP (HLG.out _ (zIw HY.out HA.out)) hfin
    ·go_wp2_with fail
     refine(cK _).mono ?_;rintro e w2 ⟨rfl,hb2⟩;have hbw2:=HBW.out.trans (hb2.mono hbs);clear hb2
     go_wp2
     go_roundw
     case rel=>exact⟨k+1,by omega,by go_num,hbw2,zSu HALL.out HY.out HA.out⟩
     case measure=>simp[intOf];omega
   ·have hkn:k=n:=by omega
    subst hkn;have hfin:=HB1.out.trans (hbw.mono hs1);clear hbw
    go_wp2
    go_ret
    exact wP (HLG.out _ (zN6 fun j y hj hy=>HALL.out j y (by rw[<- HN.out];exact hj) hy)) hfin
 ·have hz:(128:Int)<(s.size:Int):=by omega
  go_enter Tryz.func119,Tryz.ntmps119
  go_wp2
  go_ret
  exact wP (by unfold long;rw[decide_eq_false hbig];rfl) (Below.refl _ _)
theorem zUm {s x:ByteArray} (h:(splt s)[0]? = some x):hd s=x:=by
 unfold hd
 cases hl:splt s with
 | nil=>rw[hl] at h;simp at h
 | cons a b=>rw[hl] at h;simpa using h
structure RTok where
 k:Int
 s:ByteArray
 n:Int
 a:Int
def RTks (w:World) (B:Nat) (v:Value) (l:List RTok):Prop:=
 ∃A c,v = .slice A l.length c/\∀(j:Nat) t,l[j]? = some t->∃ad,A=some ad/\ad.block<B/\TokAt w (ad.add (j*4)) t.k t.s t.n t.a
end Go.Proofs.YtgeghilbikljcaaGreatDoor.B
