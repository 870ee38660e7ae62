/-
  The document's layer 1, as far as its layer 2 stands on it: next, Decode, Class, Check, Name: what they tell.
-/
import Derived.Test.YtbpijnalmakfaaaGreatDoorGw04
import Derived.IntWalk
import Derived.Laws.Cover4
set_option maxHeartbeats 40000000
set_option maxRecDepth 100000
namespace Go.Proofs.YtbpijnalmakfaaaGreatDoor.B
open Go.RowKit
def cel (l:List Nat):List Value:=l.map fun(r:Nat)=>Value.int .i32 (r:Int)
theorem zCt (l:List Nat):(cel l).length=l.length:=by simp[cel]
def Sl (w:World) (B:Nat) (v:Value) (l:List Nat):Prop:=
 ∃A c,v = .slice A l.length c∧l.length≤c∧∀(j u:Nat),l[j]? = some u→∃ad,A=some ad∧ad.block<B∧w.cell? (ad.add j)=some (.int .i32 (u:Int))
theorem Sl.nil (w:World) (B:Nat):Sl w B (.slice none 0 0) []:=⟨none,0,rfl,Nat.le_refl _,fun j u hu=>by simp at hu⟩
theorem Sl.own {w:World} {base:Nat} {e:TypeId} {v:Value} {n:Nat} {l:List Nat} (h:w.ownsRow base e 1 v n (cel l)):Sl w w.heap.size v l:=by
 have hn:l.length=n:=by have:=h.1;rw[zCt] at this;omega
 subst hn
 rcases h.2 with ⟨hv,h0⟩ | ⟨g,cap,cur,hv,_,hh,hc,_⟩
 ·have hl:l=[]:=List.eq_nil_of_length_eq_zero h0
  subst hl;exact⟨none,0,hv,Nat.le_refl _,fun j u hu=>by simp at hu⟩
 ·refine⟨some ⟨g,0,none⟩,cap,hv,hc,fun j u hu=>⟨_,rfl,qC hh,?_⟩⟩
  exact h.cells (g:=g) (by rw[hv];rfl) j _ (by simp[cel,hu])
def rl (s:ByteArray):List Nat:=if vls s 0 then rns s 0 else []
def er (s:ByteArray):Int:=if vls s 0 then 0 else 4
theorem aU {s:ByteArray} (h:vls s 0=true):rl s=rns s 0:=by simp[rl,h]
theorem zIb {s:ByteArray} (h:vls s 0=false):rl s=[]:=by simp[rl,h]
theorem aV {s:ByteArray} (h:vls s 0=true):er s=0:=by simp[er,h]
theorem zVu {s:ByteArray} (h:vls s 0=false):er s=4:=by simp[er,h]
def pE (s:ByteArray) (W:World) (e:Ending) (w':World):Prop:=
 ∃v,e = .returned (.tuple #[v,.int .i64 (er s)])∧Sl w' w'.heap.size v (rl s)∧Below W.heap.size W w'
theorem zCu {s:ByteArray} {W w':World} (hv:vls s 0=false) (hb:Below W.heap.size W w'):pE s W (.returned (.tuple #[.slice none 0 0,.int .i64 4])) w':=
 ⟨_,by rw[zVu hv],by rw[zIb hv];exact Sl.nil _ _,hb⟩
theorem zIc {s:ByteArray} {W w':World} {base:Nat} {e:TypeId} {v:Value} {n:Nat} {l:List Nat} (hv:vls s 0=true) (hl:l=rns s 0) (ho:w'.ownsRow base e 1 v n (cel l)) (hb:Below W.heap.size W w') :
  pE s W (.returned (.tuple #[v,.int .i64 0])) w':=
 ⟨_,by rw[aV hv],by rw[aU hv,←hl];exact Sl.own ho,hb⟩
theorem zId:(Tryz.prog.info? 21).map (fun i=>(i.zero,i.size,i.bytes))=some (some (.int .i32 0),1,4):=by kernel_rfl
def fK (s:ByteArray) (i:Nat) (w:World) (e:Ending) (w':World):Prop:=e = .returned (.tuple #[.int .i32 (nx s i).1,.int .i64 (nx s i).2])∧w=w'
theorem xJ {s:ByteArray} {i:Nat} {w:World} {x y:Value} {a b:Nat} (hx:x = .int .i32 a) (hy:y = .int .i64 b) (h:nx s i=(a,b)):fK s i w (.returned (.tuple #[x,y])) w:=by
 subst hx;subst hy;unfold fK;rw[h];exact⟨rfl,rfl⟩
theorem zR6 (s:ByteArray) (i:Nat) (w:World) (hi:i<s.size) (hb:bt s i<128) :
  Calls Tryz.prog 65 #[.string s,.int .i64 i] w (fK s i w):=by
 have hn:nx s i=(s[i].toNat,1):=by rw[nW (eV hb).1,(eV hb).2,wK s i hi]
 have hg:=wK s i hi;rw[←hg] at hb;clear hg;have HN:=Lib.hid hn;clear hn
 go_enter Tryz.func65,Tryz.ntmps65
 go_wp2
 go_ret2
 exact xJ rfl rfl HN.out
theorem zMe (s:ByteArray) (i:Nat) (w:World) (hi:i<s.size) (h1:128≤bt s i) (h2:bt s i<194∨245≤bt s i) :
  Calls Tryz.prog 65 #[.string s,.int .i64 i] w (fK s i w):=by
 have hn:nx s i=(0,0):=fI (zM5 h1 h2);have hg:=wK s i hi;have hl:=vX s i;rw[←hg] at h1 h2 hl;clear hg;have HN:=Lib.hid hn;clear hn
 rcases h2 with h2 | h2
 all_goals
  go_enter Tryz.func65,Tryz.ntmps65
  go_wp2
  go_ret2
  exact xJ rfl rfl HN.out
theorem zR7 (s:ByteArray) (i n off least:Nat) (w:World) (hi:i<s.size) (hL:Lead (bt s i) n off least) (hsz:s.size-i<n) :
  Calls Tryz.prog 65 #[.string s,.int .i64 i] w (fK s i w):=by
 have hn:nx s i=(0,0):=fI (zSs hL hsz);have hg:=wK s i hi;unfold Lead at hL;rw[←hg] at hL;clear hg;have HN:=Lib.hid hn;clear hn
 rcases hL with ⟨rfl,rfl,rfl,hl,hu⟩ | ⟨rfl,rfl,rfl,hl,hu⟩ | ⟨rfl,rfl,rfl,hl,hu⟩
 ·have hz:(s.size:Int)-(i:Int)<2:=by omega
  go_enter Tryz.func65,Tryz.ntmps65
  go_wp2
  go_ret2
  exact xJ rfl rfl HN.out
 ·have hz:(s.size:Int)-(i:Int)<3:=by omega
  go_enter Tryz.func65,Tryz.ntmps65
  go_wp2
  go_ret2
  exact xJ rfl rfl HN.out
 ·have hz:(s.size:Int)-(i:Int)<4:=by omega
  go_enter Tryz.func65,Tryz.ntmps65
  go_wp2
  go_ret2
  exact xJ rfl rfl HN.out
theorem rW {s:ByteArray} {i a b:Nat} {z:Int} (off:Nat) (h:a=b) (hl:off≤a) (hz:z=(off:Int)):(a:Int)-z=((acc s i (b-off) (1-1):Nat):Int):=by
 show(a:Int)-z=((b-off:Nat):Int)
 omega
theorem iO (s:ByteArray) (p r j A:Nat) (hj:1≤j) (hA:acc s p r (j-1)=A):acc s p r (j+1-1)=64*A+(bt s (p+j)-128):=by
 obtain⟨k,rfl⟩:∃k,j=k+1:=⟨j-1,by omega⟩;subst hA
 rfl
theorem iP {a:Int} {A b c N:Nat} (hN:N=64*A+(b-128)) (hb:c=b) (hl:128≤c) (ha:a=64*(A:Int)+(c:Int)-128):a=(N:Int):=by omega
theorem iQ {s:ByteArray} {i j:Nat} (h:∀t,1≤t→t<j→kU s i t) (h1:128≤bt s (i+j)) (h2:bt s (i+j)≤191):∀t,1≤t→t<j+1→kU s i t:=by
 intro t ht1 ht2
 by_cases e:t=j
 ·subst e;exact⟨h1,h2⟩
 ·exact h t ht1 (by omega)
theorem zIe (s:ByteArray) (i:Nat) (w:World) (hi:i<s.size) (hs:s.size≤9223372036854775807) (hL:Lead (bt s i) 2 192 128) (hsz:2≤s.size-i) :
  Calls Tryz.prog 65 #[.string s,.int .i64 i] w (fK s i w):=by
 have HL:=Lib.hid hL;have hg:=wK s i hi;have hl:194≤s[i].toNat:=by unfold Lead at hL;omega
 have hu:s[i].toNat<224:=by unfold Lead at hL;omega
 clear hL;have HG:=Lib.hid hg;clear hg;have hz:¬(s.size:Int)-(i:Int)<2:=by omega
 go_enter Tryz.func65,Tryz.ntmps65
 go_wp2
 go_loop [8,10] (fun r k=>∃j:Nat,1≤j∧j≤2∧k = .int .i64 j∧r = .int .i64 (acc s i (bt s i-192) (j-1):Nat)∧∀t,1≤t→t<j→kU s i t) (fun _ k=>2-(intOf k).toNat)
 case atStart=>exact⟨1,by omega,by omega,rfl,zV (rW 192 HG.out (by omega) rfl),fun t h1 h2=>by omega⟩
 case round=>
  obtain⟨j,hj1,hj2,rfl,rfl,hall⟩:=hrel;have HA:=Lib.hid hall;clear hall;have hA:=zSt s i (bt s i-192) (j-1) (by have:=HG.out;omega) (by omega);obtain⟨A,hA'⟩:∃A,acc s i (bt s i-192) (j-1)=A:=⟨_,rfl⟩;rw[hA'] at hA;have HA':=Lib.hid hA';rw[hA'];clear hA'
  by_cases hj:j<2
  ·have hij:i+j<s.size:=by omega
   have hc:=vX s (i+j);have hcg:=wK s (i+j) hij;rw[←hcg] at hc;have HC:=Lib.hid hcg;clear hcg;have HNX:=Lib.hid (iO s i (bt s i-192) j A hj1 HA'.out)
   go_wp2
   all_goals first
    | (go_ret2
       exact xJ rfl rfl (fI (rM HL.out hj1 hj (by rw[kU,←HC.out];omega))))
    | (go_round
       case rel=>
        have k1:128≤s[i+j].toNat:=by omega
        have k2:s[i+j].toNat≤191:=by omega
        exact⟨j+1,by omega,by omega,by go_num,zV (iP HNX.out HC.out k1 (by omega)),iQ HA.out (by rw[←HC.out];exact k1) (by rw[←HC.out];exact k2)⟩
       case measure=>simp[intOf];omega)
  ·obtain rfl:j=2:=by omega
   have HW:=Lib.hid (sE HL.out hsz HA.out HA'.out.symm);clear hj hj1 hj2
   go_wp2
   all_goals
    go_ret2
    first
    | exact xJ rfl rfl (fI (HW.out.1 (by omega)))
    | exact xJ rfl rfl (by rw[nW (HW.out.2 (by omega)).1];exact(HW.out.2 (by omega)).2)
theorem zR8 (s:ByteArray) (i:Nat) (w:World) (hi:i<s.size) (hs:s.size≤9223372036854775807) (hL:Lead (bt s i) 3 224 2048) (hsz:3≤s.size-i) :
  Calls Tryz.prog 65 #[.string s,.int .i64 i] w (fK s i w):=by
 have HL:=Lib.hid hL;have hg:=wK s i hi;have hl:224≤s[i].toNat:=by unfold Lead at hL;omega
 have hu:s[i].toNat<240:=by unfold Lead at hL;omega
 clear hL;have HG:=Lib.hid hg;clear hg;have hz:¬(s.size:Int)-(i:Int)<3:=by omega
 go_enter Tryz.func65,Tryz.ntmps65
 go_wp2
 go_loop [8,10] (fun r k=>∃j:Nat,1≤j∧j≤3∧k = .int .i64 j∧r = .int .i64 (acc s i (bt s i-224) (j-1):Nat)∧∀t,1≤t→t<j→kU s i t) (fun _ k=>3-(intOf k).toNat)
 case atStart=>exact⟨1,by omega,by omega,rfl,zV (rW 224 HG.out (by omega) rfl),fun t h1 h2=>by omega⟩
 case round=>
  obtain⟨j,hj1,hj2,rfl,rfl,hall⟩:=hrel;have HA:=Lib.hid hall;clear hall;have hA:=zSt s i (bt s i-224) (j-1) (by have:=HG.out;omega) (by omega);obtain⟨A,hA'⟩:∃A,acc s i (bt s i-224) (j-1)=A:=⟨_,rfl⟩;rw[hA'] at hA;have HA':=Lib.hid hA';rw[hA'];clear hA'
  by_cases hj:j<3
  ·have hij:i+j<s.size:=by omega
   have hc:=vX s (i+j);have hcg:=wK s (i+j) hij;rw[←hcg] at hc;have HC:=Lib.hid hcg;clear hcg;have HNX:=Lib.hid (iO s i (bt s i-224) j A hj1 HA'.out)
   go_wp2
   all_goals first
    | (go_ret2
       exact xJ rfl rfl (fI (rM HL.out hj1 hj (by rw[kU,←HC.out];omega))))
    | (go_round
       case rel=>
        have k1:128≤s[i+j].toNat:=by omega
        have k2:s[i+j].toNat≤191:=by omega
        exact⟨j+1,by omega,by omega,by go_num,zV (iP HNX.out HC.out k1 (by omega)),iQ HA.out (by rw[←HC.out];exact k1) (by rw[←HC.out];exact k2)⟩
       case measure=>simp[intOf];omega)
  ·obtain rfl:j=3:=by omega
   have HW:=Lib.hid (sE HL.out hsz HA.out HA'.out.symm);clear hj hj1 hj2
   go_wp2
   all_goals
    go_ret2
    first
    | exact xJ rfl rfl (fI (HW.out.1 (by omega)))
    | exact xJ rfl rfl (by rw[nW (HW.out.2 (by omega)).1];exact(HW.out.2 (by omega)).2)
theorem zMf (s:ByteArray) (i:Nat) (w:World) (hi:i<s.size) (hs:s.size≤9223372036854775807) (hL:Lead (bt s i) 4 240 65536) (hsz:4≤s.size-i) :
  Calls Tryz.prog 65 #[.string s,.int .i64 i] w (fK s i w):=by
 have HL:=Lib.hid hL;have hg:=wK s i hi;have hl:240≤s[i].toNat:=by unfold Lead at hL;omega
 have hu:s[i].toNat<245:=by unfold Lead at hL;omega
 clear hL;have HG:=Lib.hid hg;clear hg;have hz:¬(s.size:Int)-(i:Int)<4:=by omega
 go_enter Tryz.func65,Tryz.ntmps65
 go_wp2
 go_loop [8,10] (fun r k=>∃j:Nat,1≤j∧j≤4∧k = .int .i64 j∧r = .int .i64 (acc s i (bt s i-240) (j-1):Nat)∧∀t,1≤t→t<j→kU s i t) (fun _ k=>4-(intOf k).toNat)
 case atStart=>exact⟨1,by omega,by omega,rfl,zV (rW 240 HG.out (by omega) rfl),fun t h1 h2=>by omega⟩
 case round=>
  obtain⟨j,hj1,hj2,rfl,rfl,hall⟩:=hrel;have HA:=Lib.hid hall;clear hall;have hA:=zSt s i (bt s i-240) (j-1) (by have:=HG.out;omega) (by omega);obtain⟨A,hA'⟩:∃A,acc s i (bt s i-240) (j-1)=A:=⟨_,rfl⟩;rw[hA'] at hA;have HA':=Lib.hid hA';rw[hA'];clear hA'
  by_cases hj:j<4
  ·have hij:i+j<s.size:=by omega
   have hc:=vX s (i+j);have hcg:=wK s (i+j) hij;rw[←hcg] at hc;have HC:=Lib.hid hcg;clear hcg;have HNX:=Lib.hid (iO s i (bt s i-240) j A hj1 HA'.out)
   go_wp2
   all_goals first
    | (go_ret2
       exact xJ rfl rfl (fI (rM HL.out hj1 hj (by rw[kU,←HC.out];omega))))
    | (go_round
       case rel=>
        have k1:128≤s[i+j].toNat:=by omega
        have k2:s[i+j].toNat≤191:=by omega
        exact⟨j+1,by omega,by omega,by go_num,zV (iP HNX.out HC.out k1 (by omega)),iQ HA.out (by rw[←HC.out];exact k1) (by rw[←HC.out];exact k2)⟩
       case measure=>simp[intOf];omega)
  ·obtain rfl:j=4:=by omega
   have HW:=Lib.hid (sE HL.out hsz HA.out HA'.out.symm);clear hj hj1 hj2
   go_wp2
   all_goals
    go_ret2
    first
    | exact xJ rfl rfl (fI (HW.out.1 (by omega)))
    | exact xJ rfl rfl (by rw[nW (HW.out.2 (by omega)).1];exact(HW.out.2 (by omega)).2)
theorem zIf (s:ByteArray) (i:Nat) (w:World) (hi:i<s.size) (hs:s.size≤9223372036854775807) :
  Calls Tryz.prog 65 #[.string s,.int .i64 i] w (fK s i w):=by
 by_cases h0:bt s i<128
 ·exact zR6 s i w hi h0
 by_cases h1:bt s i<194∨245≤bt s i
 ·exact zMe s i w hi (by omega) h1
 obtain⟨n,off,least,hL⟩:∃n off least,Lead (bt s i) n off least:=by
  by_cases h2:bt s i<224
  ·exact⟨2,192,128,.inl ⟨rfl,rfl,rfl,by omega,h2⟩⟩
  by_cases h3:bt s i<240
  ·exact⟨3,224,2048,.inr (.inl ⟨rfl,rfl,rfl,by omega,h3⟩)⟩
  ·exact⟨4,240,65536,.inr (.inr ⟨rfl,rfl,rfl,by omega,by omega⟩)⟩
 by_cases hsz:s.size-i<n
 ·exact zR7 s i n off least w hi hL hsz
 have hL':=hL
 rcases hL with ⟨rfl,rfl,rfl,_⟩ | ⟨rfl,rfl,rfl,_⟩ | ⟨rfl,rfl,rfl,_⟩
 ·exact zIe s i w hi hs hL' (by omega)
 ·exact zR8 s i w hi hs hL' (by omega)
 ·exact zMf s i w hi hs hL' (by omega)
theorem aW {s:ByteArray} {i a b:Nat} (w:World) (hi:i<s.size) (hs:s.size≤9223372036854775807) (h:nx s i=(a,b)) :
  Calls Tryz.prog 65 #[.string s,.int .i64 i] w fun e w'=>e = .returned (.tuple #[.int .i32 (a:Int),.int .i64 (b:Int)])∧w=w':=by
 have:=zIf s i w hi hs;unfold fK at this;rw[h] at this;exact this
def yXu (s:ByteArray) (W:World) (v i:Value) (wr:World):Prop:=
 ∃(p:Nat) (l:List Nat),i = .int .i64 p∧p≤s.size∧l.length≤p∧wr.ownsRow W.heap.size 21 1 v l.length (cel l)∧Below W.heap.size W wr∧l++rns s p=rns s 0∧vls s p=vls s 0
theorem zZo (s:ByteArray) (w:World) (hs:s.size≤1000000000) :
  Calls Tryz.prog 30 #[.string s] w (pE s w):=by
 obtain⟨i0,hi,hz0,hz1,hz2⟩:=info_parts zId
 go_enter Tryz.func30,Tryz.ntmps30
 go_wp2
 go_loopw [4,5] (fun v i wr=>yXu s w v i wr) (fun _ i _=>s.size-(intOf i).toNat)
 case atStart=>exact⟨0,[],rfl,Nat.zero_le _,Nat.zero_le _,World.ownsRow_nil _ _ _ _,Below.refl _ _,rfl,rfl⟩
 case round=>
  obtain⟨p,l,rfl,hp,hlp,hown,hbel,hl,hv⟩:=hrel;have HL:=Lib.hid hl;have HV:=Lib.hid hv;clear hl hv;have hbs:=hbel.size
  by_cases hlt:p<s.size
  ·by_cases hb:bad s p=true
   ·have hnx:=fI hb
    have HB:=Lib.hid hb;clear hb;have cN:∀W,Calls Tryz.prog 65 #[.string s,.int .i64 p] W _:=fun W=>aW W hlt (by omega) hnx
    clear hnx
    go_wp2_with (go_at_call 65;refine(cN _).mono ?_;rintro e w' ⟨rfl,rfl⟩)
    go_ret2
    exact zCu (by rw[←HV.out];exact zC8 hlt HB.out) hbel
   ·have hb':bad s p=false:=by simpa using hb
    clear hb;have hnx:=nW hb';have HB:=Lib.hid hb';clear hb';have hw1:=kT s p;have hw2:=eU s p hlt;have HR:=Lib.hid (wL hlt);have HS:=Lib.hid (tD hlt HB.out);obtain⟨r,k,hrk⟩:∃r k,dc s p=(r,k):=⟨_,_,rfl⟩;have hr:=zP3 s p;rw[hrk] at hnx hw1 hw2 HR HS hr
    dsimp only at hw1 hw2 HR HS hr
    clear hrk;have cN:∀W,Calls Tryz.prog 65 #[.string s,.int .i64 p] W _:=fun W=>aW W hlt (by omega) hnx
    clear hnx;have hk0:((k:Int)==0)=false:=by simp;omega
    go_wp2_with (first
     | (go_at_call 65;refine(cN _).mono ?_;rintro e w' ⟨rfl,rfl⟩)
     | (at_builtin;go_loud (refine wpList_append_own _ rfl _ _ 68 rfl w.heap.size 21 i0 (.int .i32 0) 1 4 Tryz.underlying68 hi hz0 hz1 hz2 rfl (by decide) _ _ _ rfl (hown.alloc _) ⟨wr.heap.size,0,none⟩ 1 1 [.int .i32 (r:Int)] rfl rfl (cell_one_new _ _ _) (fun x hx=>by simp at hx;subst hx;rfl) (by unfold maxLen;omega) (by omega) (by simp;omega) ?_);intro v' w1 hown1 hgrow1 _))
    go_roundw
    case rel=>
     exact⟨p+k,l++[r],by go_num,hw2,by simp;omega,by simpa [cel] using hown1,((hbel.alloc hbs _).grown hgrow1 (by simp;omega) (fun g hg=>(hown.lt g hg).1)),
      by rw[List.append_assoc,List.singleton_append,←HR.out];exact HL.out,by rw[←HS.out];exact HV.out⟩
    case measure=>simp[intOf];omega
  ·have e1:=gQ hlt
   have e2:=tA hlt;have hl:=HL.out;have hv:=HV.out;rw[e1,List.append_nil] at hl;rw[e2] at hv;have HL2:=Lib.hid hl;have HV2:=Lib.hid hv;clear hl hv e1 e2
   go_wp2
   go_ret2
   exact zIc HV2.out.symm HL2.out hown hbel
theorem gC (r:Int) (w:World):Calls Tryz.prog 32 #[.int .i32 r] w fun e w'=>e = .returned (.int .i64 (cls r))∧w=w':=by
 obtain⟨c,hc⟩:∃c,cls r=c:=⟨_,rfl⟩;rw[hc];have HC:=Lib.hid hc;clear hc
 go_enter Tryz.func32,Tryz.ntmps32
 go_wp2
 all_goals go_ret
 all_goals
  refine⟨aH (HC.out.symm.trans (zJi r _ ?_)),rfl⟩;simp only[beq_iff_eq,beq_eq_false_iff_ne,bne_iff_ne,bne_eq_false_iff_eq,ne_eq,and_true] at *;omega
def nmr (s:ByteArray):Bool:=vls s 0&&decide (1≤s.size∧s.size≤32)&&nmL (rns s 0)
theorem yXv (s:ByteArray):nmr s=nm s:=by
 unfold nmr nm;rw[zX6]
 cases hv:vls s 0
 ·have:=zJj s 0 hv
  rw[zX6] at this
  simp[this]
 ·simp
theorem zCv {l:List Nat} {f:Nat→Bool}:(∀(j x:Nat),l[j]? = some x→f x=true)→l.all f=true:=by
 intro h;rw[List.all_eq_true];intro x hx;obtain⟨j,hj⟩:=List.getElem?_of_mem hx;exact h j x hj
def okUp (l:List Nat) (k:Nat):Prop:=∀(j x:Nat),j<k→l[j]? = some x→mst x (decide (j=0))=true
theorem zZp {l:List Nat} {k x:Nat} (h:okUp l k) (hx:l[k]? = some x) (hm:mst x (decide (k=0))=true):okUp l (k+1):=by
 intro j y hj hy
 by_cases e:j=k
 ·subst e
  rw[hx] at hy
  cases hy
  exact hm
 ·exact h j y (by omega) hy
theorem yXw {l:List Nat} (h:okUp l l.length):nmL l=true:=by
 cases l with
 | nil=>rfl
 | cons r t=>
  unfold nmL;rw[Bool.and_eq_true];refine⟨h 0 r (by simp) rfl,zCv fun j x hx=>?_⟩;have hj:j<t.length:=by
   rcases Nat.lt_or_ge j t.length with h' | h'
   ·exact h'
   ·rw[List.getElem?_eq_none h'] at hx;cases hx
  exact h (j+1) x (by simp;omega) (by simpa using hx)
theorem zPm {l:List Nat} {k x:Nat} (hx:l[k]? = some x) (hm:mst x (decide (k=0))=false):nmL l=false:=by
 cases l with
 | nil=>simp at hx
 | cons r t=>
  cases k with
  | zero=>
   simp at hx
   subst hx
   show(mst r true&&_)=false
   rw[show mst (r:Int) true=false from hm,Bool.false_and]
  | succ k=>
   have hx':t[k]? = some x:=by simpa using hx
   have hm':mst (x:Int) false=false:=hm
   show(_&&t.all _)=false
   rw[Bool.and_eq_false_iff]
   right
   rw[List.all_eq_false];exact⟨x,List.mem_of_getElem? hx',by rw[hm'];simp⟩
theorem gY (s:ByteArray) (w:World) (hs:s.size≤1000000000) :
  Calls Tryz.prog 132 #[.string s] w (fJ (nm s) w):=by
 rw[←yXv];obtain⟨ANS,hans⟩:∃b,nmr s=b:=⟨_,rfl⟩;rw[hans];have cD:=zZo s w hs;unfold pE at cD
 by_cases hgo:vls s 0=true∧1≤s.size∧s.size≤32
 ·obtain⟨hv,h1,h2⟩:=hgo
  rw[aV hv,aU hv] at cD;have hA:nmL (rns s 0)=ANS:=by rw[←hans];unfold nmr;rw[hv,decide_eq_true ⟨h1,h2⟩];simp
  have HA:=Lib.hid hA;clear hA hans hv;have hlen:=eX s 0
  generalize rns s 0=l at HA cD hlen
  have hz1:¬(s.size:Int)<1:=by omega
  have hz2:¬(32:Int)<(s.size:Int):=by omega
  go_enter Tryz.func132,Tryz.ntmps132
  go_wp2_with (go_at_call 30;refine cD.mono ?_;rintro e w' ⟨v,rfl,hsl,hb⟩)
  obtain⟨A,c,rfl,hc⟩:=hsl;have HSL:=Lib.hid hc;clear hc cD
  go_loopw [5] (fun i wr=>∃k:Nat,i = .int .i64 k∧k≤l.length∧okUp l k∧∃q,wr=w'.drewN q) (fun i _=>l.length-(intOf i).toNat)
  case atStart=>exact⟨0,rfl,Nat.zero_le _,fun j x h=>by omega,0,rfl⟩
  case round=>
   obtain⟨k,rfl,hk,hok,q,rfl⟩:=hrel;have HOK:=Lib.hid hok;clear hok
   by_cases hlt:k<l.length
   ·obtain⟨x,hx⟩:∃x,l[k]? = some x:=⟨_,List.getElem?_eq_getElem hlt⟩
    obtain⟨a1,rfl,_,hc1⟩:=HSL.out.2 k x hx;have HX:=Lib.hid hx;clear hx;obtain⟨cx,hcx⟩:∃cx,cls x=cx:=⟨_,rfl⟩;have cC:∀W,Calls Tryz.prog 32 #[.int .i32 x] W _:=fun W=>gC x W
    rw[hcx] at cC;have HCX:=Lib.hid hcx;clear hcx;have hlz:(k:Int)<(l.length:Int):=by omega
    by_cases k0:k=0
    ·have hk0:((k:Int)==0)=true:=by simp[k0]
     have HK:Hid (decide (k=0)=true):=Lib.hid (by simp[k0]);clear k0
     go_wp2_with (go_at_call 32;refine(cC _).mono ?_;rintro e w1 ⟨rfl,rfl⟩)
     all_goals first
      | (go_ret
         have e1:cx≠1:=by first | omega | (simp only[bne_iff_ne,ne_eq] at *;omega)
         exact⟨kN (by rw[←HA.out];exact zPm HX.out (rN HCX.out ⟨e1,.inl HK.out⟩)),qD hb _⟩)
      | (go_roundw
         case rel=>
          have e1:cx=1:=by first | omega | (simp only[bne_iff_ne,bne_eq_false_iff_eq,ne_eq] at *;omega)
          exact⟨k+1,by go_num,hlt,zZp HOK.out HX.out (iC HCX.out (.inl e1)),_,rfl⟩
         case measure=>simp[intOf];omega)
    ·have hk0:((k:Int)==0)=false:=by simp;omega
     have HK:Hid (decide (k=0)=false):=Lib.hid (by simp[k0]);clear k0
     go_wp2_with (go_at_call 32;refine(cC _).mono ?_;rintro e w1 ⟨rfl,rfl⟩)
     all_goals first
      | (go_ret
         have e1:cx≠1∧(cx≠2∧(x:Int)≠39):=by first | omega | (simp only[bne_iff_ne,ne_eq] at *;omega)
         exact⟨kN (by rw[←HA.out];exact zPm HX.out (rN HCX.out ⟨e1.1,.inr e1.2⟩)),qD hb _⟩)
      | (go_roundw
         case rel=>
          have e1:cx=1∨(cx=2∨(x:Int)=39):=by first | omega | (simp only[bne_eq_false_iff_eq] at *;omega)
          exact⟨k+1,by go_num,hlt,zZp HOK.out HX.out (iC HCX.out (e1.imp id fun h=>⟨h,HK.out⟩)),_,rfl⟩
         case measure=>simp[intOf];omega)
   ·have hlz:¬(k:Int)<(l.length:Int):=by omega
    have HN:=Lib.hid (yXw (l:=l));obtain rfl:k=l.length:=by omega
    go_wp2
    go_ret
    exact⟨kN (by rw[←HA.out];exact HN.out HOK.out),qD hb _⟩
 ·have HA:Hid (ANS=false):=Lib.hid (by
   rw[←hans];unfold nmr
   by_cases hv:vls s 0=true
   ·rw[decide_eq_false (fun h=>hgo ⟨hv,h⟩)];simp
   ·simp[hv])
  clear hans
  cases hv:vls s 0
  ·rw[zVu hv] at cD
   clear hgo hv
   go_enter Tryz.func132,Tryz.ntmps132
   go_wp2_with (go_at_call 30;refine cD.mono ?_;rintro e w' ⟨v,rfl,hsl,hb⟩)
   go_ret
   exact⟨kN HA.out,hb⟩
  ·rw[aV hv] at cD
   have hsz:s.size<1∨(1≤s.size∧32<s.size):=by
    rcases Nat.lt_or_ge s.size 1 with h | h
    ·exact .inl h
    ·rcases Nat.lt_or_ge 32 s.size with h' | h'
     ·exact .inr ⟨h,h'⟩
     ·exact absurd ⟨hv,h,h'⟩ hgo
   clear hgo hv
   rcases hsz with h1 | ⟨h1,h2⟩
   ·have hz1:(s.size:Int)<1:=by omega
    go_enter Tryz.func132,Tryz.ntmps132
    go_wp2_with (go_at_call 30;refine cD.mono ?_;rintro e w' ⟨v,rfl,hsl,hb⟩)
    go_ret
    exact⟨kN HA.out,hb⟩
   ·have hz1:¬(s.size:Int)<1:=by omega
    have hz2:(32:Int)<(s.size:Int):=by omega
    go_enter Tryz.func132,Tryz.ntmps132
    go_wp2_with (go_at_call 30;refine cD.mono ?_;rintro e w' ⟨v,rfl,hsl,hb⟩)
    go_ret
    exact⟨kN HA.out,hb⟩
end Go.Proofs.YtbpijnalmakfaaaGreatDoor.B
namespace Go.Proofs.YtbpijnalmakfaaaGreatDoor.B
open Go.Lib
theorem zVv (v:Int) (h : -1073741824≤v∧v≤1073741824):sz (numb v)≤21:=by
 have h1:=itoa_length_le v (by omega) (by omega);rw[fV (sH v)];unfold numb dgs;unfold itoa at h1
 split
 ·rename_i hn
  rw[if_pos hn] at h1
  simpa using h1
 ·rename_i hn
  rw[if_neg hn] at h1
  simpa using h1
end Go.Proofs.YtbpijnalmakfaaaGreatDoor.B
namespace Go.Proofs.YtbpijnalmakfaaaGreatDoor.B
open Go.RowKit
theorem zIg {s:ByteArray} {a b:Bool} (ha:nm s=a) (hb:wrd s=b):nck s=(a && !b):=by unfold nck;rw[ha,hb]
theorem wE (s:ByteArray) (w:World) (hs:s.size≤1000000000):Calls Tryz.prog 162 #[.string s] w (fJ (nck s) w):=by
 have cN:=fun W=>zVd s W hs
 have cW:=fun W=>fX s W
 obtain⟨a,ha⟩:∃a,nm s=a:=⟨_,rfl⟩;obtain⟨b,hb⟩:∃b,wrd s=b:=⟨_,rfl⟩;have HA:=Lib.hid (zIg ha hb);rw[ha] at cN;rw[hb] at cW;clear ha hb
 cases a
 ·go_enter Tryz.func162,Tryz.ntmps162
  go_wp2_with fail;refine(cN _).mono ?_;rintro e w1 ⟨rfl,hb1⟩
  go_wp2
  go_ret
  exact gU HA.out hb1
 ·go_enter Tryz.func162,Tryz.ntmps162
  go_wp2_with fail;refine(cN _).mono ?_;rintro e w1 ⟨rfl,hb1⟩;go_wp2_with fail;refine(cW _).mono ?_;rintro e w2 ⟨rfl,rfl⟩
  go_wp2
  go_ret
  exact gU (by rw[HA.out];rfl) hb1
theorem cut_no {s:ByteArray} (h:(46:UInt8)∉s.data.toList) (hs:s.size≤1000000000) (w:World) (hL:Nx w) :
  Calls Tryz.prog 216 #[.string s,.string ⟨#[46]⟩] w fun e w'=>e = .returned (.tuple #[.string s,.string ⟨#[]⟩,.bool false])∧Below w.heap.size w w':=by
 obtain⟨m,hm⟩:=hL.2;refine(Tryz.strings_Cut s ⟨#[46]⟩ m w (by omega) hm).mono fun e w' ⟨he,n,hw⟩=>⟨?_,?_⟩
 ·rw[he]
  have e1:Lib.cut s.data.toList (ByteArray.mk #[46]).data.toList=(s.data.toList,[],false):=zVs h;rw[e1]
 ·rw[hw];exact qD (Below.refl _ _) n
def ctx (s:ByteArray):ByteArray×ByteArray×Bool:=(tx (Lib.cut s.data.toList [46]).1,tx (Lib.cut s.data.toList [46]).2.1,(Lib.cut s.data.toList [46]).2.2)
theorem zCw (s:ByteArray) (hs:s.size≤1000000000) (w:World) (hL:Nx w) :
  Calls Tryz.prog 216 #[.string s,.string ⟨#[46]⟩] w fun e w'=>e = .returned (.tuple #[.string (ctx s).1,.string (ctx s).2.1,.bool (ctx s).2.2])∧Below w.heap.size w w':=by
 obtain⟨m,hm⟩:=hL.2;exact(Tryz.strings_Cut s ⟨#[46]⟩ m w (by omega) hm).mono fun e w' ⟨he,n,hw⟩=>⟨he,by rw[hw];exact qD (Below.refl _ _) n⟩
theorem zIh (s:ByteArray):pc s=(ctx s).1::(if (ctx s).2.2 then pc (ctx s).2.1 else [])∧(ctx s).1.size≤s.size∧((ctx s).2.2=true→(ctx s).2.1.size<s.size)∧((ctx s).2.2=false→(ctx s).2.1=⟨#[]⟩):=by
 unfold ctx
 rcases zI2 s.data.toList with h | ⟨a,r,hs,h⟩
 ·rw[zVs h]
  refine⟨?_,by rw[zPf];exact Nat.le_refl _,fun h=>by simp at h,fun _=>rfl⟩;unfold pc;rw[wM h]
  rfl
 ·rw[hs,yXq h]
  have hz:s.size=a.length+(r.length+1):=by rw[Lib.size_eq,hs];simp
  refine⟨?_,by rw[zXi];dsimp only;omega,fun _=>by rw[zXi];dsimp only;omega,fun h=>by simp at h⟩;unfold pc;rw[hs,rT h]
  rfl
def more (m:Bool) (x:ByteArray):List ByteArray:=if m then pc x else []
theorem zR9 (x:ByteArray):more false x=[]:=rfl
theorem zMg (x:ByteArray):more true x=pc x:=rfl
theorem zZq {s x p y:ByteArray} {m:Bool} {done:List ByteArray} (h:pc s=done++more true x) (hc:ctx x=(p,y,m)):pc s=(done++[p])++more m y:=by
 rw[h,zMg,(zIh x).1,hc]
 simp[more]
theorem zMh {s x p y:ByteArray} {m:Bool} {done:List ByteArray} (h:pc s=done++more true x) (hc:ctx x=(p,y,m)) (hp:nck p=false):splt s=[]:=by
 apply iM
 unfold long;rw[zZq h hc,List.all_append,List.all_append]
 simp[hp]
theorem zMi {s x:ByteArray} {done:List ByteArray} (h:pc s=done++more false x) (hn:done.all nck=true) (hs:s.size≤128):splt s=done:=by
 rw[zR9,List.append_nil] at h;rw[zZm (pD.2 ⟨hs,by rw[h];exact hn⟩),h]
theorem zIi {l:List ByteArray} {x:ByteArray} {f:ByteArray→Bool} (h:l.all f=true) (hx:f x=true):(l++[x]).all f=true:=by rw[List.all_append,h];simp[hx]
def mea (m:Bool) (x:ByteArray):Nat:=if m then x.size+1 else 0
def yXx (s:ByteArray) (W:World) (x v m:Value) (wr:World):Prop:=
 ∃(X:ByteArray) (b:Bool) (done:List ByteArray),x = .string X∧m = .bool b∧X.size≤128∧done.length+mea b X≤130∧pc s=done++more b X∧done.all nck=true∧wr.ownsRow W.heap.size 9 1 v done.length (sv done)∧Below W.heap.size W wr∧Nx wr
theorem zMj (s:ByteArray) (w:World) (hs:s.size≤1000000000) (hL:Nx w):Calls Tryz.prog 190 #[.string s] w (zXk (splt s) w):=by
 by_cases hbig:s.size≤128
 ·have hz:¬(128:Int)<(s.size:Int):=by omega
  obtain⟨i0,hi,hz0,hz1,hz2⟩:=info_parts aO;have HBIG:=Lib.hid hbig;have HNX:=Lib.hid hL;clear hL
  go_enter Tryz.func190,Tryz.ntmps190
  go_wp2
  go_loopw [0,3,4,5] (fun x v m p wr=>yXx s w x v m wr) (fun x _ m _ _=>match x,m with | .string X,.bool b=>mea b X | _,_=>0)
  case atStart=>exact⟨s,true,[],rfl,rfl,hbig,by simp[mea];omega,by simp[more],rfl,World.ownsRow_nil _ _ _ _,Below.refl _ _,HNX.out⟩
  case round=>
   obtain⟨X,b,done,rfl,rfl,hx,hmz,hpc,hall,hown,hbel,hnx⟩:=hrel;have hbs:=hbel.size;have HOWN:=Lib.hid hown;have HBEL:=Lib.hid hbel;have HALL:=Lib.hid hall;have HN:=Lib.hid hnx
   cases b
   ·have HEND:=Lib.hid (zMi hpc hall HBIG.out)
    clear hown hbel hall hnx hpc
    go_wp2
    go_ret
    exact zI7 HEND.out HOWN.out HBEL.out
   ·obtain⟨p,y,m,hc⟩:∃p y m,ctx X=(p,y,m):=⟨_,_,_,rfl⟩
    have cC:=zCw X (by omega) wr hnx;have hcx:=zIh X;rw[hc] at cC hcx
    dsimp only at cC hcx
    obtain⟨_,hcx1,hcx2,hcx3⟩:=hcx;have hpz:p.size≤128:=by omega
    have hyz:y.size≤128:=by
     cases m
     ·rw[hcx3 rfl];exact Nat.zero_le _
     ·have:=hcx2 rfl;omega
    have hme:mea m y+1≤mea true X:=by
     unfold mea
     cases m
     ·simp
     ·have:=hcx2 rfl;simp;omega
    have cK:=fun W=>wE p W (by omega)
    obtain⟨b,hb⟩:∃b,nck p=b:=⟨_,rfl⟩;rw[hb] at cK;have HB:=Lib.hid hb;have HC:=Lib.hid hc;have HPC:=Lib.hid hpc;have HME:=Lib.hid hme;have hdl:done.length≤130:=by omega
    have HMZ:=Lib.hid hmz;clear hown hbel hall hnx hpc hb hc hcx1 hcx2 hcx3 hme hmz;go_wp2_with fail;refine cC.mono ?_;rintro e w1 ⟨rfl,hb1⟩;have HB1:=Lib.hid hb1;clear hb1;go_wp2_with fail;refine(cK _).mono ?_;rintro e w2 ⟨rfl,hb2⟩;have hbw2:=HBEL.out.trans ((chn HB1.out hb2).mono hbs);have hown2:=yC HOWN.out (chn HB1.out hb2);have HOWN2:=Lib.hid hown2;have HBW2:=Lib.hid hbw2;have HN2:=Lib.hid (HN.out.below (chn HB1.out hb2));have hs2:=hbw2.size;clear hown2 hb2 hbw2
    cases b
    ·go_wp2
     go_ret
     exact zI6 (zMh HPC.out HC.out HB.out) HBW2.out
    ·go_wp2_with (at_builtin;(refine wpList_append_own _ rfl _ _ 80 rfl w.heap.size 9 i0 (.string ⟨#[]⟩) 1 16 Tryz.underlying80 hi hz0 hz1 hz2 rfl (by decide) _ _ _ rfl (HOWN2.out.alloc _) ⟨w2.heap.size,0,none⟩ 1 1 [.string p] rfl rfl (cell_one_new _ _ _) (fun x hx=>by simp at hx;subst hx;rfl) (by unfold maxLen;omega) (by omega) (by simp;omega) ?_);intro v' w4 hown4 hgrow4 _)
     have hbel:=(HBW2.out.alloc hs2 _).grown hgrow4 (by simp;omega) (fun g hg=>(HOWN2.out.lt g hg).1);have hlt4:=hgrow4.size;have HBEL4:=Lib.hid hbel;have HOWN4:=Lib.hid hown4;clear hown4 hgrow4
     go_roundw
     case rel=>exact⟨y,m,done++[p],rfl,rfl,hyz,by have:=HME.out;have:=HMZ.out;simp;omega,zZq HPC.out HC.out,zIi HALL.out HB.out,by simpa [sv] using HOWN4.out,HBEL4.out,HNX.out.below HBEL4.out⟩
     case measure=>exact HME.out
 ·have hz:(128:Int)<(s.size:Int):=by omega
  go_enter Tryz.func190,Tryz.ntmps190
  go_wp2
  go_ret
  exact zI6 (iM (by unfold long;rw[decide_eq_false hbig];rfl)) (Below.refl _ _)
theorem zVw (s:ByteArray) (w:World) (hs:s.size≤1000000000) (hL:Nx w):Calls Tryz.prog 160 #[.string s] w (fJ (long s) w):=by
 have cS:=zMj s w hs hL;have hln:=zI5 s;obtain⟨l,hl⟩:∃l,splt s=l:=⟨_,rfl⟩;obtain⟨b,hb⟩:∃b,long s=b:=⟨_,rfl⟩;rw[hl] at cS hln;rw[hb] at hln ⊢;have HLN:=Lib.hid hln;clear hl hb hln hL
 by_cases h0:0<l.length
 ·have hz:(0:Int)<(l.length:Int):=by omega
  go_enter Tryz.func160,Tryz.ntmps160
  go_wp2_with fail;refine cS.mono ?_;rintro e w1 ⟨v,rfl,⟨A,c,rfl,hlc,hcl⟩,hb⟩;have HCL:=Lib.hid hcl;clear hcl
  go_wp2
  go_ret
  exact gU (by rw[HLN.out,decide_eq_true h0]) hb
 ·have hz:¬(0:Int)<(l.length:Int):=by omega
  go_enter Tryz.func160,Tryz.ntmps160
  go_wp2_with fail;refine cS.mono ?_;rintro e w1 ⟨v,rfl,⟨A,c,rfl,hlc,hcl⟩,hb⟩;have HCL:=Lib.hid hcl;clear hcl
  go_wp2
  go_ret
  exact gU (by rw[HLN.out,decide_eq_false h0]) hb
def wdV:Array Value:=(WORDS.map fun x=>Value.string (T x)).toArray
def wdk (k:Nat):List Nat:=WORDS.getD k []
theorem yXy (k:Nat) (h:k<29):wdV[k]? = some (.string (T (wdk k))):=by
 unfold wdV wdk;rw[List.getElem?_toArray,List.getElem?_map,List.getD_eq_getElem?_getD,List.getElem?_eq_getElem (show k<WORDS.length from h)]
 rfl
theorem zMk (w:World):Calls Tryz.prog 176 #[] w fun e w'=>e = .returned (.slice (some ⟨w.heap.size,0,none⟩) 29 29)∧w'=w.alloc (.cells wdV 9):=by
 have hv:wdV=#[.string ⟨#[118,97,108]⟩]++wdV.extract 1 29:=by kernel_rfl
 clear hv
 go_enter Tryz.func176,Tryz.ntmps176
 go_wp2
 go_ret
 refine⟨rfl,?_⟩;exact congrArg (fun c=>w.alloc (.cells c 9)) (by kernel_rfl)
theorem zCx {s:ByteArray} {k:Nat} (h:k<29) (e:T (wdk k)=s):wrd s=true:=by
 unfold wrd;rw[List.any_eq_true];refine⟨wdk k,?_,by rw[e];simp⟩;unfold wdk;rw[List.getD_eq_getElem?_getD,List.getElem?_eq_getElem (show k<WORDS.length from h)];exact List.getElem_mem _
theorem zIj {s:ByteArray} (h:∀k,k<29→T (wdk k)≠s):wrd s=false:=by
 unfold wrd;rw[List.any_eq_false];intro x hx;obtain⟨k,hk,rfl⟩:=List.getElem_of_mem hx;have:=h k hk;unfold wdk at this;rw[List.getD_eq_getElem?_getD,List.getElem?_eq_getElem hk] at this;simp only[Option.getD_some] at this;rw[decide_eq_true_iff];exact fun e=>this e.symm
theorem zXm (s:ByteArray) (w:World):Calls Tryz.prog 131 #[.string s] w (fJ (wrd s) w):=by
 have c1:=zMk w;obtain⟨V,hV⟩:∃V,wdV=V:=⟨_,rfl⟩;rw[hV] at c1;have HV:=Lib.hid hV;clear hV
 go_enter Tryz.func131,Tryz.ntmps131
 go_wp2_with fail;refine c1.mono ?_;rintro e w1 ⟨rfl,rfl⟩
 go_wp2
 have hb0:Below w.heap.size w (w.alloc (.cells V 9)):=(Below.refl _ _).alloc (Nat.le_refl _) _;have hblk:(w.alloc (.cells V 9)).heap[w.heap.size]? = some (.cells V 9 (0,0)):=heap_alloc_new w _
 generalize w.alloc (.cells V 9)=W0 at hb0 hblk ⊢
 go_loop [4] (fun i=>∃k:Nat,k≤29∧i = .int .i64 k∧∀j,j<k→T (wdk j)≠s) (fun i=>29-(intOf i).toNat)
 case atStart=>exact⟨0,Nat.zero_le _,rfl,fun j hj=>absurd hj (Nat.not_lt_zero _)⟩
 case round=>
  obtain⟨k,hk,rfl,hno⟩:=hrel;have HNO:=Lib.hid hno;clear hno
  by_cases hlt:k<29
  ·have hcell:W0.cell? ⟨w.heap.size,k,none⟩=some (.string (T (wdk k))):=by
    rw[cell_of_row W0 _ k _ _ _ hblk,←HV.out];exact yXy k hlt
   obtain⟨X,hX⟩:∃X,T (wdk k)=X:=⟨_,rfl⟩;rw[hX] at hcell;have HX:=Lib.hid hX;clear hX
   by_cases he:X=s
   ·have e1:(X.toList==s.toList)=true:=by rw[he];simp
    have HE:=Lib.hid he;clear he
    go_wp2
    go_ret
    exact⟨kN (zCx hlt (HX.out.trans HE.out)),hb0⟩
   ·have e1:(X.toList==s.toList)=false:=by
     rw[beq_eq_false_iff_ne];intro h;rw[Lib.toList_data,Lib.toList_data] at h;exact he (jK h)
    have HE:=Lib.hid he;clear he
    go_wp2
    go_round
    case rel=>exact⟨k+1,by omega,by go_num,fun j hj=>by
     rcases Nat.lt_or_ge j k with h | h
     ·exact HNO.out j h
     ·rw[show j=k by omega,HX.out];exact HE.out⟩
    case measure=>simp[intOf];omega
  ·go_wp2
   go_ret
   exact⟨kN (zIj fun j hj=>HNO.out j (by omega)),hb0⟩
theorem refCk (s:ByteArray) (w:World) (hs:s.size≤1000000000):Calls Tryz.prog 173 #[.string s] w (fJ (nck s) w):=by
 have cN:=fun W=>gY s W hs
 have cW:=fun W=>zXm s W
 obtain⟨a,ha⟩:∃a,nm s=a:=⟨_,rfl⟩;obtain⟨b,hb⟩:∃b,wrd s=b:=⟨_,rfl⟩;have HA:=Lib.hid (zIg ha hb);rw[ha] at cN;rw[hb] at cW;clear ha hb
 cases a
 ·go_enter Tryz.func173,Tryz.ntmps173
  go_wp2_with fail;refine(cN _).mono ?_;rintro e w1 ⟨rfl,hb1⟩
  go_wp2
  go_ret
  exact gU HA.out hb1
 ·go_enter Tryz.func173,Tryz.ntmps173
  go_wp2_with fail;refine(cN _).mono ?_;rintro e w1 ⟨rfl,hb1⟩;have HB1:=Lib.hid hb1;clear hb1;go_wp2_with fail;refine(cW _).mono ?_;rintro e w2 ⟨rfl,hb2⟩;have hb3:=chn HB1.out hb2;clear hb2
  go_wp2
  go_ret
  exact gU (by rw[HA.out];rfl) hb3
def frm (s:ByteArray) (i:Nat):List UInt8:=s.data.toList.drop i
def PcRel (s:ByteArray) (out:List ByteArray) (a i:Nat):Prop:=
 a≤i∧i≤s.size∧pc s=out++(pcl (frm s a)).map tx∧(46:UInt8)∉(frm s a).take (i-a)
theorem zIk (s:ByteArray):PcRel s [] 0 0:=⟨Nat.le_refl _,Nat.zero_le _,by simp[frm,pc],by simp⟩
theorem zIl (s:ByteArray) (a i:Nat) (h1:a≤i) (h2:i<s.size):frm s a=(frm s a).take (i-a)++s[i]::frm s (i+1):=by
 unfold frm;have e:s[i]=s.data.toList[i]'(by rw[←Lib.size_eq];exact h2):=by simp;rfl
 have h3:i<s.data.toList.length:=by rw[←Lib.size_eq];exact h2
 rw[e]
 conv=>lhs;rw[←List.take_append_drop (i-a) (s.data.toList.drop a)]
 rw[List.drop_drop,show a+(i-a)=i by omega,List.drop_eq_getElem_cons h3]
theorem zIm (s:ByteArray) (a i:Nat) (_:i≤s.size):s.extract a i=tx ((frm s a).take (i-a)):=by
 apply jK
 rw[Lib.extract_data,tI]
 rfl
theorem yXz {s:ByteArray} {out:List ByteArray} {a i:Nat} (h:PcRel s out a i) (hi:i<s.size) (hd:s[i]=46):PcRel s (out++[s.extract a i]) (i+1) (i+1):=by
 obtain⟨h1,h2,h3,h4⟩:=h;refine⟨Nat.le_refl _,hi,?_,by simp⟩;rw[h3,zIm s a i h2,List.append_assoc]
 congr 1
 have e:=zIl s a i h1 hi;rw[hd] at e
 conv=>lhs;rw[e,rT h4]
 rfl
theorem zCy {s:ByteArray} {out:List ByteArray} {a i:Nat} (h:PcRel s out a i) (hi:i<s.size) (hd:s[i]≠46):PcRel s out a (i+1):=by
 obtain⟨h1,h2,h3,h4⟩:=h;refine⟨by omega,hi,h3,?_⟩;have e:=zIl s a i h1 hi;rw[e];rw[List.take_append,List.mem_append];have hl:((frm s a).take (i-a)).length=i-a:=by
  unfold frm;rw[List.length_take,List.length_drop,←Lib.size_eq];omega
 rintro(hm | hm)
 ·exact h4 (List.mem_of_mem_take hm)
 ·rw[hl,show i+1-a-(i-a)=1 by omega,List.take_succ_cons,List.take_zero,List.mem_singleton] at hm
  exact hd hm.symm
theorem yW0 {s:ByteArray} {out:List ByteArray} {a:Nat} (h:PcRel s out a s.size):pc s=out++[s.extract a s.size]:=by
 obtain⟨h1,h2,h3,h4⟩:=h;rw[h3,zIm s a s.size (Nat.le_refl _)]
 congr 1
 have:(frm s a).take (s.size-a)=frm s a:=by
  apply List.take_of_length_le
  unfold frm;rw[List.length_drop,←Lib.size_eq];exact Nat.le_refl _
 rw[this] at h4 ⊢;rw[wM h4]
 rfl
def PiRel (s:ByteArray) (W:World) (v a i:Value) (wr:World):Prop:=
 ∃(out:List ByteArray) (x k:Nat),a = .int .i64 x∧i = .int .i64 k∧out.length≤k∧PcRel s out x k∧wr.ownsRow W.heap.size 9 1 v out.length (sv out)∧Below W.heap.size W wr
theorem zRa (s:ByteArray) (w:World) (hs:s.size≤1000000):Calls Tryz.prog 206 #[.string s] w (zXk (pc s) w):=by
 obtain⟨i0,hi,hz0,hz1,hz2⟩:=info_parts aO
 go_enter Tryz.func206,Tryz.ntmps206
 go_wp2
 go_loopw [3,4,5] (fun v a i wr=>PiRel s w v a i wr) (fun _ _ i _=>s.size-(intOf i).toNat)
 case atStart=>exact⟨[],0,0,rfl,rfl,Nat.le_refl _,zIk s,World.ownsRow_nil _ _ _ _,Below.refl _ _⟩
 case round=>
  obtain⟨out,x,k,rfl,rfl,hok,hpc,hown,hbel⟩:=hrel;have hxk:=hpc.1;have hks:=hpc.2.1;have hbs:=hbel.size;have HPC:=Lib.hid hpc;have HOWN:=Lib.hid hown;have HBEL:=Lib.hid hbel;clear hpc hown hbel
  by_cases hlt:k<s.size
  ·by_cases hd:s[k]=46
   ·have hde:((s[k].toNat:Int)==46)=true:=by rw[hd];rfl
    have HD:=Lib.hid hd;clear hd
    go_wp2_with (at_builtin;(refine wpList_append_own _ rfl _ _ 80 rfl w.heap.size 9 i0 (.string ⟨#[]⟩) 1 16 Tryz.underlying80 hi hz0 hz1 hz2 rfl (by decide) _ _ _ rfl (HOWN.out.alloc _) ⟨wr.heap.size,0,none⟩ 1 1 [.string (s.extract x k)] rfl rfl (cell_one_new _ _ _) (fun x hx=>by simp at hx;subst hx;rfl) (by unfold maxLen;omega) (by omega) (by simp;omega) ?_);intro v' w4 hown4 hgrow4 _)
    have hbel:=(HBEL.out.alloc hbs _).grown hgrow4 (by simp;omega) (fun g hg=>(HOWN.out.lt g hg).1);have HBEL4:=Lib.hid hbel;have HOWN4:=Lib.hid hown4;clear hown4 hgrow4 hbel
    go_roundw
    case rel=>exact⟨out++[s.extract x k],k+1,k+1,by go_num,by go_num,by simp;omega,yXz HPC.out hlt HD.out,by simpa [sv] using HOWN4.out,HBEL4.out⟩
    case measure=>simp[intOf];omega
   ·have hde:((s[k].toNat:Int)==46)=false:=by
     rw[beq_eq_false_iff_ne];intro e
     apply hd
     apply UInt8.toNat.inj
     show s[k].toNat=46
     omega
    have HD:=Lib.hid hd;clear hd
    go_wp2
    go_roundw
    case rel=>exact⟨out,x,k+1,rfl,by go_num,by omega,zCy HPC.out hlt HD.out,HOWN.out,HBEL.out⟩
    case measure=>simp[intOf];omega
  ·have hks2:k=s.size:=by omega
   subst hks2
   go_wp2_with (at_builtin;(refine wpList_append_own _ rfl _ _ 80 rfl w.heap.size 9 i0 (.string ⟨#[]⟩) 1 16 Tryz.underlying80 hi hz0 hz1 hz2 rfl (by decide) _ _ _ rfl (HOWN.out.alloc _) ⟨wr.heap.size,0,none⟩ 1 1 [.string (s.extract x s.size)] rfl rfl (cell_one_new _ _ _) (fun x hx=>by simp at hx;subst hx;rfl) (by unfold maxLen;omega) (by omega) (by simp;omega) ?_);intro v' w4 hown4 hgrow4 _)
   have hbel:=(HBEL.out.alloc hbs _).grown hgrow4 (by simp;omega) (fun g hg=>(HOWN.out.lt g hg).1);have HBEL4:=Lib.hid hbel;have HOWN4:=Lib.hid hown4;clear hown4 hgrow4 hbel
   go_ret
   exact zI7 (yW0 HPC.out) (by simpa [sv] using HOWN4.out) HBEL4.out
theorem zPn (s:ByteArray) (w:World) (hs:s.size≤1000000000):Calls Tryz.prog 182 #[.string s] w (fJ (long s) w):=by
 by_cases hbig:s.size≤128
 ·have hz:¬(128:Int)<(s.size:Int):=by omega
  have cP:=zRa s w (by omega);have hlen:=yXs s;have hpz:=pc_sz s;have hlg:∀b,(pc s).all nck=b→long s=b:=fun b h=>by unfold long;rw[decide_eq_true hbig,h];rfl
  obtain⟨l,hl⟩:∃l,pc s=l:=⟨_,rfl⟩;rw[hl] at cP hlen hpz hlg;have HLG:=Lib.hid hlg;have HPZ:=Lib.hid hpz;clear hl hlg hpz
  go_enter Tryz.func182,Tryz.ntmps182
  go_wp2_with fail;refine cP.mono ?_;rintro e w1 ⟨v,rfl,hv,hb1⟩;obtain⟨b,o,c,rfl,hlc,hblt,hcl⟩:=hv.form (by omega);have HCL:=Lib.hid hcl;have HB1:=Lib.hid hb1;have hs1:=hb1.size;clear hv hcl hb1
  go_wp2
  obtain⟨n,hn⟩:∃n,l.length=n:=⟨_,rfl⟩;rw[hn] at hlen hlc ⊢;have HN:=Lib.hid hn;clear hn
  go_loopw [4] (fun i wr=>∃k:Nat,k≤n∧i = .int .i64 k∧Below w1.heap.size w1 wr∧(∀(j:Nat) y,j<k→l[j]? = some y→nck y=true)) (fun i _=>n-(intOf i).toNat)
  case atStart=>exact⟨0,Nat.zero_le _,rfl,Below.refl _ _,fun j y hj=>absurd hj (Nat.not_lt_zero _)⟩
  case round=>
   obtain⟨k,hk,rfl,hbw,hall⟩:=hrel;have HALL:=Lib.hid hall;clear hall
   by_cases hlt:k<n
   ·obtain⟨y,hy⟩:∃y,l[k]? = some y:=⟨_,List.getElem?_eq_getElem (by rw[HN.out];exact hlt)⟩
    have hcell:=(hbw.cell (p:=⟨b,o+k,none⟩) hblt).trans (HCL.out k y hy);have hyz:=HPZ.out y (List.mem_of_getElem? hy);have cK:=fun W=>refCk y W (by omega)
    have HY:=Lib.hid hy;have HBW:=Lib.hid hbw;have hbs:=hbw.size;obtain⟨a,ha⟩:∃a,nck y=a:=⟨_,rfl⟩;rw[ha] at cK;have HA:=Lib.hid ha;clear hy hyz ha hbw
    cases a
    ·go_wp2_with fail
     refine(cK _).mono ?_;rintro e w2 ⟨rfl,hb2⟩;have hfin:=HB1.out.trans ((HBW.out.trans (hb2.mono hbs)).mono hs1);clear hb2
     go_wp2
     go_ret
     exact gU (HLG.out _ (zCr HY.out HA.out)) hfin
    ·go_wp2_with fail
     refine(cK _).mono ?_;rintro e w2 ⟨rfl,hb2⟩;have hbw2:=HBW.out.trans (hb2.mono hbs);clear hb2
     go_wp2
     go_roundw
     case rel=>exact⟨k+1,by omega,by go_num,hbw2,zMd HALL.out HY.out HA.out⟩
     case measure=>simp[intOf];omega
   ·have hkn:k=n:=by omega
    subst hkn;have hfin:=HB1.out.trans (hbw.mono hs1);clear hbw
    go_wp2
    go_ret
    exact gU (HLG.out _ (zI8 fun j y hj hy=>HALL.out j y (by rw[←HN.out];exact hj) hy)) hfin
 ·have hz:(128:Int)<(s.size:Int):=by omega
  go_enter Tryz.func182,Tryz.ntmps182
  go_wp2
  go_ret
  exact gU (by unfold long;rw[decide_eq_false hbig];rfl) (Below.refl _ _)
def RS:List (List Nat):=[[40],[41],[123],[125],[44],[58],[58,62],[61],[61,62],[45,62],[42],[43],[45],[60],[124],[35,49],[35,50]]
def rs (k:Nat):List Nat:=RS.getD k []
end Go.Proofs.YtbpijnalmakfaaaGreatDoor.B
