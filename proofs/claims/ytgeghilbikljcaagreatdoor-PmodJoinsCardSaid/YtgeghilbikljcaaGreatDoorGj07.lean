/-
  Plain definitions, without the program: trees as forests; their size, depth, cells, paths; what stands at a path, and what is put there; what a list of cells is the tree of.
-/
import Derived.Below
import Derived.BigQuiet
import Derived.Deep.AppendLies
import Derived.Deep.DeepMust
import Derived.Deep.QuietTactic
import Derived.Deep.RegionHeld3
import Derived.Deep.RegionLaw
import Derived.Laws.Rows
import Derived.Lib.Hide
import Derived.Lib.OthersKept
import Derived.Lib.Strings
import Derived.Maps.AppendAt
import Derived.Outline
import Derived.OwnWalk
import Derived.Test.YtgeghilbikljcaaGreatDoorRows
import Derived.WalkKit
import Derived.WalkLawsBesides
import Derived.WalkSmall
import Derived.WalkSpells
set_option maxHeartbeats 40000000
set_option maxRecDepth 100000
namespace Go.Proofs.YtgeghilbikljcaaGreatDoor
structure Nod where
 k:Int
 n:Int
 a:ByteArray
 m:ByteArray
inductive Fr where
 | nil:Fr
 | cons (x:Nod) (ks:Fr) (rs:Fr):Fr
abbrev Tr:=Nod×Fr
def Fr.len:Fr->Nat
 | .nil=>0
 | .cons _ _ r=>r.len+1
def Fr.sz:Fr->Nat
 | .nil=>0
 | .cons _ k r=>1+k.sz+r.sz
def Fr.dp:Fr->Nat
 | .nil=>0
 | .cons _ k r=>max (1+k.dp) r.dp
def szT (t:Tr):Nat:=1+t.2.sz
def dpT (t:Tr):Nat:=1+t.2.dp
def szO:Option Tr->Nat
 | none=>0
 | some t=>szT t
def dpO:Option Tr->Nat
 | none=>0
 | some t=>dpT t
def Fr.app:Fr->Fr->Fr
 | .nil,b=>b
 | .cons x k r,b=>.cons x k (r.app b)
def Fr.get:Fr->Nat->Option Tr
 | .nil,_=>none
 | .cons x k _,0=>some (x,k)
 | .cons _ _ r,i+1=>r.get i
theorem Fr.len_le (f:Fr):f.len<=f.sz:=by
 induction f with
 | nil=>exact Nat.le_refl _
 | cons x k r _ ih=>unfold Fr.len Fr.sz;omega
theorem Fr.dp_le (f:Fr):f.dp<=f.sz:=by
 induction f with
 | nil=>exact Nat.le_refl _
 | cons x k r ihk ihr=>unfold Fr.dp Fr.sz;omega
theorem Fr.len_app (a b:Fr):(a.app b).len=a.len+b.len:=by
 induction a with
 | nil=>simp[Fr.app,Fr.len]
 | cons x k r _ ih=>simp only[Fr.app,Fr.len,ih];omega
theorem Fr.sz_app (a b:Fr):(a.app b).sz=a.sz+b.sz:=by
 induction a with
 | nil=>simp[Fr.app,Fr.sz]
 | cons x k r _ ih=>simp only[Fr.app,Fr.sz,ih];omega
theorem Fr.dp_app (a b:Fr):(a.app b).dp=max a.dp b.dp:=by
 induction a with
 | nil=>simp[Fr.app,Fr.dp]
 | cons x k r _ ih=>simp only[Fr.app,Fr.dp,ih];omega
theorem Fr.app_assoc (a b c:Fr):(a.app b).app c=a.app (b.app c):=by
 induction a with
 | nil=>rfl
 | cons x k r _ ih=>simp only[Fr.app,ih]
theorem Fr.app_nil (a:Fr):a.app .nil=a:=by
 induction a with
 | nil=>rfl
 | cons x k r _ ih=>simp only[Fr.app,ih]
theorem Fr.get_lt {f:Fr} {i:Nat} {t:Tr} (h:f.get i=some t):i<f.len:=by
 induction f generalizing i with
 | nil=>cases h
 | cons x k r _ ih=>
  cases i with
  | zero=>exact Nat.succ_pos _
  | succ i=>exact Nat.succ_lt_succ (ih h)
theorem Fr.get_some {f:Fr} {i:Nat} (h:i<f.len):∃t,f.get i=some t:=by
 induction f generalizing i with
 | nil=>exact absurd h (Nat.not_lt_zero _)
 | cons x k r _ ih=>
  cases i with
  | zero=>exact⟨_,rfl⟩
  | succ i=>exact ih (Nat.lt_of_succ_lt_succ h)
theorem Fr.get_sz {f:Fr} {i:Nat} {t:Tr} (h:f.get i=some t):szT t<=f.sz:=by
 induction f generalizing i with
 | nil=>cases h
 | cons x k r _ ih=>
  cases i with
  | zero=>injection h with h;subst h;show 1+k.sz<=1+k.sz+r.sz;omega
  | succ i=>have:=ih h;simp only[Fr.sz];omega
structure Cel where
 x:Nod
 ks:List Int
def rowOf:List Tr->Fr
 | []=>.nil
 | t::r=>.cons t.1 t.2 (rowOf r)
def nod0:Nod:=⟨0,0,⟨#[]⟩,⟨#[]⟩⟩
def cel (cs:List Cel) (i:Nat):Cel:=cs.getD i ⟨nod0,[]⟩
def gr (cs:List Cel):Nat->Nat->Tr
 | 0,i=>((cel cs i).x,.nil)
 | f+1,i=>((cel cs i).x,rowOf ((cel cs i).ks.map fun x=>gr cs f x.toNat))
end Go.Proofs.YtgeghilbikljcaaGreatDoor
namespace Go.Proofs.YtgeghilbikljcaaGreatDoor
open Go.RowKit
theorem chn {w w1 w2:World} (h:Below w.heap.size w w1) (h':Below w1.heap.size w1 w2):Below w.heap.size w w2:=h.trans (h'.mono h.size)
theorem jR {a b:Int} (h:a=b):Value.int .i64 a = .int .i64 b:=by rw[h]
theorem zXg {a b:Int} (h:a=b):Ending.returned (.int .i64 b) = .returned (.int .i64 a):=by rw[h]
theorem jS {a b:Bool} (h:a=b):Ending.returned (.bool b) = .returned (.bool a):=by rw[h]
theorem qE {B:Nat} {a w:World} (h:Below B a w) (n:Nat):Below B a (w.drewN n):=h.trans ⟨rfl,rfl,rfl,Nat.le_refl _,fun _ _=>rfl⟩
theorem zZ {w:World} {a:Addr} {v:Value} (h:w.cell? a=some v):a.block<w.heap.size:=by
 rcases Nat.lt_or_ge a.block w.heap.size with h' | h'
 ·exact h'
 ·simp[World.cell?,Array.getElem?_eq_none h'] at h
theorem qC {w:World} {g:Nat} {o:Obj} (h:w.heap[g]? = some o):g<w.heap.size:=by
 rcases Nat.lt_or_ge g w.heap.size with h' | h'
 ·exact h'
 ·rw[Array.getElem?_eq_none h'] at h;cases h
theorem zC {w w':World} {g:Nat} {o:Obj} (h:w.heap[g]? = some o) (hb:Below w.heap.size w w'):w'.heap[g]? = some o:=(hb.block g (qC h)).trans h
def Pln (w:World) (b:Nat):Prop:=∃cs e,w.heap[b]? = some (.cells cs e (0,0))
def Nd (w:World) (S:Nat->Prop) (v:Value) (x:Nod) (n:Nat) (K:Nat->Nat->Prop):Prop:=
 ∃q p A c,v = .pointer (some ⟨q,p,none⟩)/\S q/\Pln w q/\w.cell? ⟨q,p,none⟩=some (.int .i64 x.k)/\w.cell? ⟨q,p+1,none⟩=some (.int .i64 x.n)/\w.cell? ⟨q,p+2,none⟩=some (.string x.a)/\
  w.cell? ⟨q,p+3,none⟩=some (.string x.m)/\w.cell? ⟨q,p+4,none⟩=some (.slice A n c)/\n<=c/\(0<n->∃kb ko,A=some ⟨kb,ko,none⟩/\S kb/\K kb ko)
def InF (w:World) (S:Nat->Prop):Fr->Nat->Nat->Prop
 | .nil,_,_=>True
 | .cons x ks rs,b,o=>(∃v,w.cell? ⟨b,o,none⟩=some v/\Nd w S v x ks.len (InF w S ks))/\InF w S rs b (o+1)
def InT (w:World) (S:Nat->Prop) (v:Value) (t:Tr):Prop:=Nd w S v t.1 t.2.len (InF w S t.2)
def InO (w:World) (S:Nat->Prop) (v:Value):Option Tr->Prop
 | none=>v = .pointer none
 | some t=>InT w S v t
theorem InF.keep {w w':World} {S S':Nat->Prop} {t:Fr} (hS:∀q,S q->S' q) (hk:∀b,S b->w'.heap[b]? = w.heap[b]?):∀{b o:Nat},S b->InF w S t b o->InF w' S' t b o:=by
 induction t with
 | nil=>intro b o _ _;trivial
 | cons x ks rs ihk ihr=>
  intro b o hb h;have hk':=fun(p:Addr) (hp:S p.block)=>World.cell?_of_block (w:=w) (w':=w') (hk p.block hp)
  obtain⟨⟨v,hv,q,p,A,c,e,hq,⟨xs,te,hx⟩,h0,h1,h2,h3,h4,hc,hkids⟩,hr⟩:=h;refine⟨⟨v,(hk' ⟨b,o,none⟩ hb).trans hv,q,p,A,c,e,hS q hq,⟨xs,te,(hk q hq).trans hx⟩,(hk' ⟨q,p,none⟩ hq).trans h0,(hk' ⟨q,p+1,none⟩ hq).trans h1,(hk' ⟨q,p+2,none⟩ hq).trans h2,(hk' ⟨q,p+3,none⟩ hq).trans h3,(hk' ⟨q,p+4,none⟩ hq).trans h4,hc,fun hn=>?_⟩,ihr hb hr⟩;obtain⟨kb,ko,hA,h5,h7⟩:=hkids hn;exact⟨kb,ko,hA,hS kb h5,ihk h5 h7⟩
theorem InT.keep {w w':World} {S S':Nat->Prop} {v:Value} {t:Tr} (h:InT w S v t) (hS:∀q,S q->S' q) (hk:∀b,S b->w'.heap[b]? = w.heap[b]?):InT w' S' v t:=by
 have hk':=fun(p:Addr) (hp:S p.block)=>World.cell?_of_block (w:=w) (w':=w') (hk p.block hp)
 obtain⟨q,p,A,c,e,hq,⟨xs,te,hx⟩,h0,h1,h2,h3,h4,hc,hkids⟩:=h;refine⟨q,p,A,c,e,hS q hq,⟨xs,te,(hk q hq).trans hx⟩,(hk' ⟨q,p,none⟩ hq).trans h0,(hk' ⟨q,p+1,none⟩ hq).trans h1,(hk' ⟨q,p+2,none⟩ hq).trans h2,(hk' ⟨q,p+3,none⟩ hq).trans h3,(hk' ⟨q,p+4,none⟩ hq).trans h4,hc,fun hn=>?_⟩;obtain⟨kb,ko,hA,h5,h7⟩:=hkids hn;exact⟨kb,ko,hA,hS kb h5,InF.keep hS hk h5 h7⟩
def Bel (S:Nat->Prop) (B:Nat):Prop:=∀q,S q->q<B
theorem InT.below {w w':World} {S:Nat->Prop} {B:Nat} {v:Value} {t:Tr} (h:InT w S v t) (hS:Bel S B) (hb:Below B w w'):InT w' S v t:=h.keep (fun _ h=>h) fun _ hp=>hb.block _ (hS _ hp)
theorem InO.keep {w w':World} {S S':Nat->Prop} {v:Value} {t:Option Tr} (h:InO w S v t) (hS:∀q,S q->S' q) (hk:∀b,S b->w'.heap[b]? = w.heap[b]?):InO w' S' v t:=by
 cases t with
 | none=>exact h
 | some t=>exact InT.keep h hS hk
def Kid (w:World) (S:Nat->Prop) (A:Option Addr) (rest:Fr) (i:Nat):Prop:=0<rest.len->∃kb ko,A=some ⟨kb,ko,none⟩/\S kb/\InF w S rest kb (ko+i)
theorem Kid.next {w:World} {S:Nat->Prop} {A:Option Addr} {x:Nod} {k r:Fr} {i:Nat} (h:Kid w S A (.cons x k r) i) :
  ∃kb ko v,A=some ⟨kb,ko,none⟩/\S kb/\w.cell? ⟨kb,ko+i,none⟩=some v/\InT w S v (x,k)/\Kid w S A r (i+1):=by
 obtain⟨kb,ko,hA,h1,⟨v,hv,hn⟩,hr⟩:=h (Nat.succ_pos _);exact⟨kb,ko,v,hA,h1,hv,hn,fun _=>⟨kb,ko,hA,h1,hr⟩⟩
theorem Kid.keep {w w':World} {S S':Nat->Prop} {A:Option Addr} {r:Fr} {i:Nat} (h:Kid w S A r i) (hS:∀q,S q->S' q) (hk:∀b,S b->w'.heap[b]? = w.heap[b]?):Kid w' S' A r i:=by
 intro h0;obtain⟨kb,ko,hA,h1,h3⟩:=h h0;exact⟨kb,ko,hA,hS kb h1,InF.keep hS hk h1 h3⟩
theorem Fr.cut {f:Fr} (h:0<f.len):∃x k r,f = .cons x k r:=by
 cases f with
 | nil=>exact absurd h (Nat.lt_irrefl _)
 | cons x k r=>exact⟨x,k,r,rfl⟩
theorem Fr.app_cons (a:Fr) (x:Nod) (k r:Fr):a.app (.cons x k r)=(a.app (.cons x k .nil)).app r:=by rw[Fr.app_assoc];rfl
theorem InT.open {w:World} {S:Nat->Prop} {v:Value} {x:Nod} {ks:Fr} (h:InT w S v (x,ks)) :
  ∃q p A c,v = .pointer (some ⟨q,p,none⟩)/\S q/\w.cell? ⟨q,p,none⟩=some (.int .i64 x.k)/\w.cell? ⟨q,p+1,none⟩=some (.int .i64 x.n)/\w.cell? ⟨q,p+2,none⟩=some (.string x.a)/\
  w.cell? ⟨q,p+3,none⟩=some (.string x.m)/\w.cell? ⟨q,p+4,none⟩=some (.slice A ks.len c)/\ks.len<=c/\Kid w S A ks 0:=by
 obtain⟨q,p,A,c,hv,hq,_,h⟩:=h;exact⟨q,p,A,c,hv,hq,h⟩
theorem InT.ptr {w:World} {S:Nat->Prop} {v:Value} {t:Tr} (h:InT w S v t):∃q p,v = .pointer (some ⟨q,p,none⟩):=by
 obtain⟨q,p,_,_,hv,_⟩:=h;exact⟨q,p,hv⟩
theorem InT.drew {w:World} {S:Nat->Prop} {v:Value} {t:Tr} (h:InT w S v t) (q:Nat):InT (w.drewN q) S v t:=h.keep (fun _ h=>h) fun _ _=>rfl
theorem ba_eq {s t:ByteArray} (h:s.data.toList=t.data.toList):s=t:=by
 apply ByteArray.ext
 exact Array.ext' h
theorem zZw {x y:ByteArray} (h:x=y):(x.toList==y.toList)=true/\(x.toList != y.toList)=false:=by subst h;simp
theorem zS4 {x y:ByteArray} (h:x≠y):(x.toList==y.toList)=false/\(x.toList != y.toList)=true:=by
 have:(x.toList==y.toList)=false:=by
  rw[beq_eq_false_iff_ne];intro e;rw[Lib.toList_data,Lib.toList_data] at e;exact h (ba_eq e)
 exact⟨this,by unfold bne;rw[this];rfl⟩
theorem fF {x y:Int} (h:x=y):(x==y)=true/\(x != y)=false:=by subst h;simp
theorem zS5 {x y:Int} (h:x≠y):(x==y)=false/\(x != y)=true:=by simp[h]
def zZx (b:Bool) (w:World) (e:Ending) (w':World):Prop:=e = .returned (.bool b)/\∃q,w'=w.drewN q
theorem xJ {a b:Bool} {w w':World} (h:b=a) (hw:∃q,w'=w.drewN q):zZx b w (.returned (.bool a)) w':=⟨by rw[h],hw⟩
theorem mR {P:Program} {f:FuncId} {args:Array Value} {w:World} {q x:Nat} {v:Value} (h:Calls P f args (w.drewN (q+x)) fun e w'=>e = .returned v/\∃m,w'=(w.drewN (q+x)).drewN m) :
  Calls P f args (w.drewN (q+x)) fun e w''=>e = .returned v/\∃n,w''=w.drewN (q+n):=h.mono fun _ _ ⟨he,m,hm⟩=>⟨he,x+m,by rw[hm,World.drewN_drewN,Nat.add_assoc]⟩
theorem xC {b:Bool} {P:Prop} (h:b=true↔P) (hn:¬P):b=false:=by cases b;rfl;exact absurd (h.1 rfl) hn
theorem zS6 {b:Bool} {P:Prop} (h:b=true↔P) (hp:P):b=true:=h.2 hp
theorem Fr.app_inj (a:Fr) {b c:Fr} (h:a.app b=a.app c):b=c:=by
 induction a with
 | nil=>exact h
 | cons x k r _ ih=>simp only[Fr.app,Fr.cons.injEq] at h;exact ih h.2.2
theorem zO8 {x y:Nod} (h1:x.k=y.k) (h2:x.n=y.n) (h3:x.a=y.a) (h4:x.m=y.m):x=y:=by
 cases x;cases y;simp only at h1 h2 h3 h4;subst h1 h2 h3 h4;rfl
theorem zXw:∀(n:Nat) (t u:Tr),szT t<=n->n<=1000000000->∀(w:World) (Sq Sq':Nat->Prop) (v v':Value),InT w Sq v t->InT w Sq' v' u->∀b:Bool,(b=true↔t=u)->
  Calls Tryz.prog 12 #[v,v'] w (zZx b w)
 | 0,t,_,h,_,_,_,_,_,_,_,_,_,_=>absurd h (by unfold szT;omega)
 | n+1,(x,ks),(y,ls),hn,hbig,w,Sq,Sq',v,v',hin,hin',ANS,hans=>by
  have ih:=zXw n;obtain⟨q,p,A,c,rfl,hq1,c0,c1,c2,c3,c4,hc,hkid⟩:=hin.open;obtain⟨q',p',A',c',rfl,hq1',c0',c1',c2',c3',c4',hc',hkid'⟩:=hin'.open;have HA:=Lib.hid hans;have HK:=Lib.hid hkid;have HK':=Lib.hid hkid';have hsz:szT (x,ks)=1+ks.sz:=rfl;have hll:=Fr.len_le ks;obtain⟨S,hS⟩:∃S,szT (x,ks)=S:=⟨_,rfl⟩;rw[hS] at hn hsz;obtain⟨N,hN⟩:∃N,ks.len=N:=⟨_,rfl⟩;obtain⟨M,hM⟩:∃M,ls.len=M:=⟨_,rfl⟩;rw[hN] at c4 hll;rw[hM] at c4';have hN1:N<=1000000000:=by omega
  have HNN:=Lib.hid hN;have HMM:=Lib.hid hM;have HSZ:=Lib.hid hsz;clear hin hin' hkid hkid' hS hc hc' hN hM hsz hans
  by_cases d0:x.k=y.k
  ·by_cases d1:x.n=y.n
   ·by_cases d2:x.a=y.a
    ·by_cases d3:x.m=y.m
     ·have HXY:=Lib.hid (zO8 d0 d1 d2 d3)
      obtain⟨e0,f0⟩:=fF d0;obtain⟨e1,f1⟩:=fF d1;obtain⟨e2,f2⟩:=zZw d2;obtain⟨e3,f3⟩:=zZw d3;clear d0 d1 d2 d3
      by_cases d4:N=M
      ·subst d4
       go_enter Tryz.func12,Tryz.ntmps12
       go_wp2_with fail
       go_quiet (fail)
       go_wp2_with fail
       go_loopw [5] (fun i wr=>∃(k:Nat) (done r1 r2:Fr),i = .int .i64 k/\k=done.len/\ks=done.app r1/\ls=done.app r2/\Kid w Sq A r1 k/\Kid w Sq' A' r2 k/\∃q,wr=w.drewN q) (fun i _=>N-(intOf i).toNat)
       case atStart=>exact⟨0,.nil,ks,ls,rfl,rfl,rfl,rfl,HK.out,HK'.out,_,rfl⟩
       case round=>
        obtain⟨k,done,r1,r2,rfl,hk,hks,hls,hkid,hkid',qq,rfl⟩:=hrel;have hl:N=done.len+r1.len:=by rw[<- HNN.out,hks,Fr.len_app]
        have hl':N=done.len+r2.len:=by rw[<- HMM.out,hls,Fr.len_app]
        have hs:ks.sz=done.sz+r1.sz:=by rw[hks,Fr.sz_app]
        have hsz:=HSZ.out;have HKS:=Lib.hid hks;have HLS:=Lib.hid hls
        by_cases hlt:0<r1.len
        ·obtain⟨y1,l1,s1,rfl⟩:=Fr.cut hlt
         obtain⟨y2,l2,s2,rfl⟩:=Fr.cut (f:=r2) (by omega);obtain⟨kb,ko,u1,rfl,hkb,hcell,hu1,hnext⟩:=hkid.next;obtain⟨kb',ko',u2,rfl,hkb',hcell',hu2,hnext'⟩:=hkid'.next;have hyl:szT (y1,l1)=1+l1.sz:=rfl;have hsr:(Fr.cons y1 l1 s1).sz=1+l1.sz+s1.sz:=rfl;have hlr:(Fr.cons y1 l1 s1).len=s1.len+1:=rfl;have cI:=fun m b hb=>ih (y1,l1) (y2,l2) (by omega) (by omega) (w.drewN m) Sq Sq' u1 u2 (hu1.drew m) (hu2.drew m) b hb
         have HN:=Lib.hid hnext;have HN':=Lib.hid hnext';have hkN:k<N:=by omega
         have hkz:(k:Int)<(N:Int):=by omega
         have HK1:=Lib.hid hk;clear hkid hkid' hnext hnext' hu1 hu2 hks hls ih hk hl hl' hs hlr hsr hsz hyl
         by_cases heq:((y1,l1):Tr)=(y2,l2)
         ·have cI:=fun m=>cI m true ⟨fun _=>heq,fun _=>rfl⟩
          have HEQ:=Lib.hid heq;clear heq;go_wp2_with fail
          go_quiet ((go_at_call 12;exact mR (cI _)))
          go_wp2_with fail
          go_roundw
          case rel=>exact⟨k+1,done.app (.cons y1 l1 .nil),s1,s2,by go_num,by rw[Fr.len_app,HK1.out];rfl,by rw[HKS.out,Fr.app_cons],by
           rw[HLS.out,Fr.app_cons];have:=HEQ.out;simp only[Prod.mk.injEq] at this;rw[this.1,this.2],HN.out,HN'.out,_,rfl⟩
          case measure=>simp[intOf];omega
         ·have cI:=fun m=>cI m false ⟨fun h=>(by cases h),fun h=>absurd h heq⟩
          have HE:Hid (ANS=false):=Lib.hid (xC HA.out fun e=>heq (by
           have e2:=(Prod.mk.inj e).2;rw[HKS.out,HLS.out] at e2;have e3:=Fr.app_inj done e2;simp only[Fr.cons.injEq] at e3;rw[e3.1,e3.2.1]))
          clear heq;go_wp2_with fail
          go_quiet ((go_at_call 12;exact mR (cI _)))
          go_wp2_with fail
          go_ret
          exact xJ HE.out ⟨_,World.drewN_drewN _ _ _⟩
        ·have h1:r1 = .nil:=by
          cases r1 with
          | nil=>rfl
          | cons y l r=>exact absurd (Nat.succ_pos _) hlt
         subst h1;have hl1:N=done.len:=by simpa [Fr.len] using hl
         have h2:r2 = .nil:=by
          cases r2 with
          | nil=>rfl
          | cons y l r=>simp only[Fr.len] at hl';omega
         subst h2;have hkz:¬(k:Int)<(N:Int):=by omega
         have HE:Hid (ANS=true):=Lib.hid (zS6 HA.out (by rw[HXY.out,HKS.out,HLS.out]));clear hkid hkid' hks hls ih hk hl hl' hl1 hs hsz;go_wp2_with fail
         go_ret
         exact xJ HE.out ⟨_,rfl⟩
      ·have e4:((N:Int)==(M:Int))=false:=by rw[beq_eq_false_iff_ne];omega
       have f4:((N:Int) != (M:Int))=true:=by rw[bne_iff_ne];omega
       have HE:Hid (ANS=false):=Lib.hid (xC HA.out fun e=>d4 (by rw[<- HNN.out,<- HMM.out,(Prod.mk.inj e).2]))
       go_enter Tryz.func12,Tryz.ntmps12
       go_wp2_with fail
       go_quiet (fail)
       go_wp2_with fail
       go_ret
       exact xJ HE.out ⟨_,rfl⟩
     ·obtain⟨e0,f0⟩:=fF d0
      obtain⟨e1,f1⟩:=fF d1;obtain⟨e2,f2⟩:=zZw d2;obtain⟨e3,f3⟩:=zS4 d3;have HE:Hid (ANS=false):=Lib.hid (xC HA.out fun e=>d3 (by rw[(Prod.mk.inj e).1]));clear d0 d1 d2 d3
      go_enter Tryz.func12,Tryz.ntmps12
      go_wp2_with fail
      go_quiet (fail)
      go_wp2_with fail
      go_ret
      exact xJ HE.out ⟨_,rfl⟩
    ·obtain⟨e0,f0⟩:=fF d0
     obtain⟨e1,f1⟩:=fF d1;obtain⟨e2,f2⟩:=zS4 d2;have HE:Hid (ANS=false):=Lib.hid (xC HA.out fun e=>d2 (by rw[(Prod.mk.inj e).1]));clear d0 d1 d2
     go_enter Tryz.func12,Tryz.ntmps12
     go_wp2_with fail
     go_quiet (fail)
     go_wp2_with fail
     go_ret
     exact xJ HE.out ⟨_,rfl⟩
   ·obtain⟨e0,f0⟩:=fF d0
    obtain⟨e1,f1⟩:=zS5 d1;have HE:Hid (ANS=false):=Lib.hid (xC HA.out fun e=>d1 (by rw[(Prod.mk.inj e).1]));clear d0 d1
    go_enter Tryz.func12,Tryz.ntmps12
    go_wp2_with fail
    go_quiet (fail)
    go_wp2_with fail
    go_ret
    exact xJ HE.out ⟨_,rfl⟩
  ·obtain⟨e0,f0⟩:=zS5 d0
   have HE:Hid (ANS=false):=Lib.hid (xC HA.out fun e=>d0 (by rw[(Prod.mk.inj e).1]));clear d0
   go_enter Tryz.func12,Tryz.ntmps12
   go_wp2_with fail
   go_quiet (fail)
   go_wp2_with fail
   go_ret
   exact xJ HE.out ⟨_,rfl⟩
theorem zS7 (t u:Option Tr) (w:World) (Sq Sq':Nat->Prop) (v v':Value) (h:InO w Sq v t) (h':InO w Sq' v' u) (ht:szO t<=1000000000) (b:Bool) (hb:b=true↔t=u) :
  Calls Tryz.prog 12 #[v,v'] w (zZx b w):=by
 cases t with
 | none=>
  have hv:v = .pointer none:=h;subst hv
  cases u with
  | none=>
   have hv:v' = .pointer none:=h';subst hv;have HE:Hid (b=true):=Lib.hid (hb.2 rfl);clear hb h h'
   go_enter Tryz.func12,Tryz.ntmps12
   go_wp2_with fail
   go_ret
   exact xJ HE.out ⟨0,rfl⟩
  | some u=>
   obtain⟨q,p,rfl⟩:=InT.ptr h';have HE:Hid (b=false):=Lib.hid (xC hb (by simp));clear hb h h'
   go_enter Tryz.func12,Tryz.ntmps12
   go_wp2_with fail
   go_ret
   exact xJ HE.out ⟨0,rfl⟩
 | some t=>
  cases u with
  | none=>
   have hv:v' = .pointer none:=h';subst hv;obtain⟨q,p,rfl⟩:=InT.ptr h;have HE:Hid (b=false):=Lib.hid (xC hb (by simp));clear hb h h'
   go_enter Tryz.func12,Tryz.ntmps12
   go_wp2_with fail
   go_ret
   exact xJ HE.out ⟨0,rfl⟩
  | some u=>exact zXw (szT t) t u (Nat.le_refl _) ht w Sq Sq' v v' h h' b (by rw[hb];simp)
theorem InF.at {w:World} {Sq:Nat->Prop}:∀{f:Fr} {b o i:Nat} {t:Tr},InF w Sq f b o->f.get i=some t->∃v,w.cell? ⟨b,o+i,none⟩=some v/\InT w Sq v t
 | .nil,_,_,_,_,_,h=>by cases h
 | .cons x k r,b,o,0,t,⟨⟨v,hv,hn⟩,_⟩,h=>by injection h with h;subst h;exact⟨v,hv,hn⟩
 | .cons x k r,b,o,i+1,t,⟨_,hr⟩,h=>by
  obtain⟨v,hv,hn⟩:=InF.at (f:=r) hr h;refine⟨v,?_,hn⟩;rw[show o+(i+1)=o+1+i by omega];exact hv
theorem Kid.at {w:World} {Sq:Nat->Prop} {A:Option Addr} {f:Fr} {i:Nat} {t:Tr} (h:Kid w Sq A f 0) (hi:f.get i=some t):∃kb ko v,A=some ⟨kb,ko,none⟩/\Sq kb/\w.cell? ⟨kb,ko+i,none⟩=some v/\InT w Sq v t:=by
 have hlt:=Fr.get_lt hi;obtain⟨kb,ko,hA,h2,h3⟩:=h (by omega);obtain⟨v,hv,hn⟩:=h3.at hi;exact⟨kb,ko,v,hA,h2,hv,hn⟩
theorem xP {w w':World} {base:Nat} {e:TypeId} {size:Nat} {v:Value} {n:Nat} {xs:List Value} (h:w.ownsRow base e size v n xs) (hb:Below w.heap.size w w'):w'.ownsRow base e size v n xs:=by
 refine⟨h.1,?_⟩
 rcases h.2 with h2 | ⟨g,cap,cur,hv,hbg,hh,d⟩
 ·exact .inl h2
 ·exact .inr ⟨g,cap,cur,hv,hbg,zC hh hb,d⟩
def PtF (w:World) (S:Nat->Prop):List Value->Fr->Prop
 | [],.nil=>True
 | v::vs,.cons x ks rs=>InT w S v (x,ks)/\PtF w S vs rs
 | _,_=>False
theorem PtF.len {w:World} {S:Nat->Prop}:∀{vs:List Value} {f:Fr},PtF w S vs f->vs.length=f.len
 | [],.nil,_=>rfl
 | [],.cons _ _ _,h=>h.elim
 | _::_,.nil,h=>h.elim
 | v::vs,.cons x ks rs,h=>by simp only[List.length_cons,Fr.len,PtF.len (vs:=vs) (f:=rs) h.2]
theorem PtF.keep {w w':World} {S S':Nat->Prop} (hS:∀q,S q->S' q) (hk:∀b,S b->w'.heap[b]? = w.heap[b]?):∀{vs:List Value} {f:Fr},PtF w S vs f->PtF w' S' vs f
 | [],.nil,_=>trivial
 | [],.cons _ _ _,h=>h.elim
 | _::_,.nil,h=>h.elim
 | _::vs,.cons _ _ rs,h=>⟨h.1.keep hS hk,PtF.keep hS hk (vs:=vs) (f:=rs) h.2⟩
theorem PtF.snoc {w:World} {S:Nat->Prop} {v:Value} {t:Tr} (hv:InT w S v t):∀{vs:List Value} {f:Fr},PtF w S vs f->PtF w S (vs++[v]) (f.app (.cons t.1 t.2 .nil))
 | [],.nil,_=>⟨hv,trivial⟩
 | [],.cons _ _ _,h=>h.elim
 | _::_,.nil,h=>h.elim
 | _::vs,.cons _ _ rs,h=>⟨h.1,PtF.snoc hv (vs:=vs) (f:=rs) h.2⟩
theorem PtF.row {w:World} {S:Nat->Prop} {b:Nat}:∀{vs:List Value} {f:Fr} {o:Nat},PtF w S vs f->(∀(j:Nat) u,vs[j]? = some u->w.cell? ⟨b,o+j,none⟩=some u)->InF w S f b o
 | [],.nil,_,_,_=>trivial
 | [],.cons _ _ _,_,h,_=>h.elim
 | _::_,.nil,_,h,_=>h.elim
 | v::vs,.cons x ks rs,o,h,hc=>by
  refine⟨⟨v,by have:=hc 0 v rfl;rwa [Nat.add_zero] at this,h.1⟩,PtF.row (vs:=vs) (f:=rs) h.2 fun j u hu=>?_⟩;rw[show o+1+j=o+(j+1) by omega];exact hc (j+1) u hu
def OwnT (w:World) (base:Nat) (e:TypeId) (v:Value) (S:Nat->Prop) (f:Fr):Prop:=∃ps,w.ownsRow base e 1 v f.len ps/\PtF w S ps f
theorem OwnT.nil (w:World) (base:Nat) (e:TypeId) (S:Nat->Prop):OwnT w base e (.slice none 0 0) S .nil:=⟨[],World.ownsRow_nil _ _ _ _,trivial⟩
theorem OwnT.tree {w:World} {base:Nat} {e e':TypeId} {v:Value} {S:Nat->Prop} {f:Fr} {x:Nod} {b:Nat} (h:OwnT w base e v S f)
  (hb:w.heap[b]? = some (.cells #[.int .i64 x.k,.int .i64 x.n,.string x.a,.string x.m,v] e' (0,0))) (hS:S b) (hg:∀g,v.ownBlock=some g->S g):InT w S (.pointer (some ⟨b,0,none⟩)) (x,f):=by
 have c:∀i u,(#[Value.int .i64 x.k,.int .i64 x.n,.string x.a,.string x.m,v]:Array Value)[i]? = some u->w.cell? ⟨b,i,none⟩=some u:=by
  intro i u hu;rw[cell_of_row w b i _ _ _ hb];exact hu
 obtain⟨ps,ho,hp⟩:=h;have hl:=ho.1;rw[Nat.mul_one] at hl
 rcases ho.2 with ⟨hv,h0⟩ | ⟨g,cap,cur,hv,_,hh,hc,_⟩
 ·subst hv
  refine⟨b,0,none,0,rfl,hS,⟨_,_,hb⟩,c 0 _ rfl,c 1 _ rfl,c 2 _ rfl,c 3 _ rfl,?_,by simp only;omega,fun hn=>?_⟩
  ·simp only
   rw[h0];exact c 4 _ rfl
  ·simp only at hn;omega
 ·subst hv
  refine⟨b,0,some ⟨g,0,none⟩,cap,rfl,hS,⟨_,_,hb⟩,c 0 _ rfl,c 1 _ rfl,c 2 _ rfl,c 3 _ rfl,c 4 _ rfl,hc,fun _=>⟨g,0,rfl,hg g rfl,hp.row fun j u hu=>?_⟩⟩;have h1:=ho.cells (g:=g) rfl j u hu;have e1:(⟨g,0,none⟩:Addr).add j=⟨g,0+j,none⟩:=by unfold Addr.add;split<;>simp_all
  rwa [e1] at h1
def Nb (w:World) (b:Nat) (x:Nod) (v:Value):Prop:=w.heap[b]? = some (.cells #[.int .i64 x.k,.int .i64 x.n,.string x.a,.string x.m,v] 44 (0,0))
theorem Nb.cell {w:World} {b:Nat} {x:Nod} {v:Value} (h:Nb w b x v):w.cell? ⟨b,4,none⟩=some v/\w.frozen? ⟨b,4,none⟩=false:=⟨cell_of_row w b 4 _ _ _ h,frozen_of_row w b 4 _ _ h⟩
theorem Nb.far {w w4:World} {b:Nat} {x:Nod} {v:Value} {ob:Obj} (h:Nb w b x v) (hg:(w.alloc ob).grownBy w4 v.ownBlock) (hv:v.ownBlock≠some b):Nb w4 b x v:=by
 have hb:=qC h;have hasz:(w.alloc ob).heap.size=w.heap.size+1:=by simp
 exact((hg.block b (by omega) fun e=>hv e.symm).trans (((Below.refl w.heap.size w).alloc (Nat.le_refl _) ob).block b hb)).trans h
theorem Nb.store {w:World} {b:Nat} {x:Nod} {v:Value} (h:Nb w b x v) (u:Value):Nb (w.setCell ⟨b,4,none⟩ u) b x u:=by
 unfold Nb at h ⊢
 simp[World.setCell,Array.getElem?_modify,h]
theorem jD {w:World} {base:Nat} {e:TypeId} {size:Nat} {v:Value} {n:Nat} {xs:List Value} (h:w.ownsRow base e size v n xs) (a:Addr) (u:Value) (ha:∀g,v.ownBlock=some g->g≠a.block):(w.setCell a u).ownsRow base e size v n xs:=by
 refine⟨h.1,?_⟩
 rcases h.2 with h2 | ⟨g,cap,cur,hv,hbg,hh,d⟩
 ·exact .inl h2
 ·refine .inr ⟨g,cap,cur,hv,hbg,?_,d⟩
  rw[Below.heap_setCell _ _ _ _ (ha g (by rw[hv];rfl))];exact hh
theorem zS {w:World} (a p:Addr) (u:Value) (h:p.block≠a.block):(w.setCell a u).cell? p=w.cell? p:=World.cell?_of_block (Below.heap_setCell _ _ _ _ h)
theorem zO9:(Tryz.prog.info? 24).map (fun i=>(i.zero,i.size,i.bytes))=some (some (.pointer none),1,8):=by kernel_rfl
theorem gC (w:World) (o1 o2 o3:Obj) {H:Nat} (hH:w.heap.size=H):(((w.alloc o1).alloc o2).alloc o3).heap[H]? = some o1/\(((w.alloc o1).alloc o2).alloc o3).heap[H+1]? = some o2/\(((w.alloc o1).alloc o2).alloc o3).heap[H+2]? = some o3/\
  Below H w (((w.alloc o1).alloc o2).alloc o3)/\(((w.alloc o1).alloc o2).alloc o3).heap.size=H+3:=by
 have s1:(w.alloc o1).heap.size=H+1:=by simp;omega
 have s2:((w.alloc o1).alloc o2).heap.size=H+2:=by simp;omega
 have a1:(w.alloc o1).heap[H]? = some o1:=by rw[<- hH];exact heap_alloc_new w o1
 have a2:((w.alloc o1).alloc o2).heap[H+1]? = some o2:=by rw[<- s1];exact heap_alloc_new _ o2
 have a3:(((w.alloc o1).alloc o2).alloc o3).heap[H+2]? = some o3:=by rw[<- s2];exact heap_alloc_new _ o3
 refine⟨?_,?_,a3,((((Below.refl H w).alloc (by omega) o1).alloc (by omega) o2).alloc (by omega) o3),by simp;omega⟩
 ·rw[Below.heap_alloc _ _ _ (by omega),Below.heap_alloc _ _ _ (by omega)];exact a1
 ·rw[Below.heap_alloc _ _ _ (by omega)];exact a2
def Up (W w:World):Prop:=Below W.heap.size W w
theorem Up.refl (W:World):Up W W:=Below.refl _ _
theorem Up.trans {W a b:World} (h:Up W a) (k:Up a b):Up W b:=Below.trans h (Below.mono k h.size)
theorem Up.of {W a b:World} (h:Up W a) (k:Below a.heap.size a b):Up W b:=h.trans k
theorem Up.drew {W a:World} (h:Up W a):Up W a.drew:=Below.drew h
theorem Up.drewN {W a:World} (h:Up W a) (q:Nat):Up W (a.drewN q):=qE h q
theorem Up.alloc {W a:World} (h:Up W a) (o:Obj):Up W (a.alloc o):=Below.alloc h h.size o
theorem Up.cell {W a:World} (h:Up W a) {p:Addr} {v:Value} (k:W.cell? p=some v):a.cell? p=some v:=(Below.cell h (zZ k)).trans k
theorem Up.row {W a:World} (h:Up W a) {b:Nat} {o:Obj} (k:W.heap[b]? = some o):a.heap[b]? = some o:=(h.block b (qC k)).trans k
def HasT (w:World) (v:Value) (o:Option Tr):Prop:=InO w (fun q=>q<w.heap.size) v o
theorem HasT.up {W w:World} {v:Value} {o:Option Tr} (h:HasT W v o) (u:Up W w):HasT w v o:=InO.keep h (fun _ hq=>Nat.lt_of_lt_of_le hq u.size) fun b hb=>u.block b hb
theorem HasT.bel {w:World}:Bel (fun q=>q<w.heap.size) w.heap.size:=fun _ h=>h
structure Upw (W:World) where
 w:World
 h:Up W w
instance (W:World):Nonempty (Upw W):=⟨⟨W,Up.refl W⟩⟩
theorem Upw.cell {W:World} {p:Addr} {v:Value} (k:W.cell? p=some v) (u:Upw W):u.w.cell? p=some v:=u.h.cell k
theorem Calls.upw {P:Program} {f:FuncId} {args:Array Value} {W:World} {u:Upw W} {v:Value} (h:Calls P f args u.w fun e w'=>e = .returned v/\Up W w') :
  Calls P f args u.w fun e w''=>e = .returned v/\∃u':Upw W,w''=u'.w:=h.mono fun _ w' ⟨he,hu⟩=>⟨he,⟨w',hu⟩,rfl⟩
theorem zT {P:Program} {id:Nat} {Q:Exit->Act->World->Prop} {a:Act} {W w:World} {l:List Oper} (hu:Up W w) (hm:P.follows .mixedOrders=true) (hB:Region.lexB .any l.toArray=true)
  (h:wpQuiet P l.toArray (fun w'=>∃u:Upw W,w'=u.w) (fun a'=>∀w',(∃u:Upw W,w'=u.w)->Q .normal a' w') l a):(Code.region id l.toArray true).wp P Q a w:=
 wp_region_quiet (C:=fun w'=>∃u:Upw W,w'=u.w) hm hB ⟨⟨_,hu.drew⟩,rfl⟩ (by simpa using h)
def BoP (b:Bool) (W:World) (e:Ending) (w':World):Prop:=e = .returned (.bool b)/\Up W w'
def NuP (n:Nat) (W:World) (e:Ending) (w':World):Prop:=e = .returned (.int .i64 (n:Int))/\Up W w'
end Go.Proofs.YtgeghilbikljcaaGreatDoor
namespace Go.Proofs.YtgeghilbikljcaaGreatDoor
structure Rw where
 cat:Int
 kind:Int
 nm:List UInt8
 mr:List UInt8
 fr:Int
 toF:Int
 ks:List UInt8
def RWS:List Rw:=[
 ⟨1,1,[],[],0,0,[]⟩,⟨1,2,[],[],0,0,[]⟩,⟨1,3,[],[],0,0,[]⟩,⟨1,4,[108],[],0,0,[]⟩,
 ⟨1,5,[],[],0,0,[116,116]⟩,⟨1,6,[],[],0,0,[116,116]⟩,⟨1,7,[110],[],0,0,[67]⟩,
 ⟨2,20,[],[],-1073741824,1073741824,[]⟩,⟨2,21,[],[],0,1,[]⟩,⟨2,22,[],[],0,0,[]⟩,⟨2,23,[108],[],0,0,[]⟩,
 ⟨2,24,[110],[],0,0,[116,101]⟩,⟨2,25,[],[],0,0,[101,101]⟩,⟨2,26,[],[],0,0,[101,101]⟩,⟨2,27,[],[],0,0,[101]⟩,
 ⟨2,28,[],[],0,0,[101]⟩,⟨2,29,[110],[],0,0,[101,101]⟩,⟨2,30,[],[],0,0,[101,101,101]⟩,⟨2,31,[],[],1,5,[101,101]⟩,
 ⟨2,32,[],[],0,0,[101,65]⟩,⟨2,33,[],[],0,0,[101,116,65]⟩,
 ⟨3,40,[],[],0,0,[42,105]⟩,⟨3,41,[108],[],0,0,[]⟩,⟨3,42,[110],[],0,0,[109]⟩,⟨3,43,[],[],0,1,[109,115]⟩,
 ⟨4,50,[],[],0,0,[42,112]⟩,⟨4,51,[110],[],0,0,[]⟩,⟨4,52,[108],[],0,0,[115,116]⟩,
 ⟨5,60,[110],[],0,0,[116]⟩,⟨5,61,[110],[],0,0,[116]⟩,⟨5,61,[110],[],0,0,[]⟩,⟨5,62,[110],[],0,0,[67]⟩,
 ⟨5,63,[110],[],0,0,[115]⟩,⟨5,64,[],[],0,0,[115]⟩,⟨5,65,[108],[108],0,0,[]⟩,
 ⟨6,70,[110],[],0,0,[101]⟩,⟨6,70,[110],[],0,0,[116,101]⟩,⟨6,71,[110],[],0,0,[116]⟩,⟨6,72,[110],[],0,0,[67]⟩,
 ⟨6,73,[110],[],0,0,[109]⟩,⟨6,74,[110],[],0,0,[115]⟩,⟨6,75,[110],[110],0,0,[115,109]⟩,⟨6,76,[108],[],0,0,[]⟩,⟨6,77,[108],[],0,0,[]⟩,
 ⟨7,80,[],[],0,0,[42,100]⟩,
 ⟨8,8,[110],[],0,0,[116]⟩,⟨9,34,[110],[110],0,0,[101]⟩]
def isEmp (s:ByteArray):Bool:=decide (s.size=0)
def wordR (nk lg:ByteArray->Bool) (s:ByteArray) (w:List UInt8):Bool:=if w=[110] then nk s else if w=[108] then lg s else isEmp s
def catOf (c:UInt8):Int:=if c=116 then 1 else if c=101 then 2 else if c=109 then 3 else if c=115 then 4 else if c=112 then 5 else 6
structure Inf where
 k:Int
 a:ByteArray
 is:Int->Bool
def jV:List Inf->Bool
 | []=>true
 | i::l=>l.all (fun j=>decide (i.a≠j.a))&&jV l
def seqOk:List Inf->List UInt8->Bool
 | l,[]=>l.isEmpty
 | l,c::r=>
  if c=42 then l.all fun i=>i.is (catOf (r.headD 0)) && !(decide (r.headD 0=105)&&(decide (i.k=74)||decide (i.k=75)))
  else if c=67 then !l.isEmpty&&(l.all fun i=>i.is 8)&&jV l
  else if c=65 then !l.isEmpty&&l.all fun i=>i.is 9
  else match l with
   | []=>false
   | i::t=>i.is (catOf c)&&seqOk t r
def fitR (nk lg:ByteArray->Bool) (x:Nod) (l:List Inf) (c:Int) (r:Rw):Bool:=
 decide (r.cat=c)&&decide (r.kind=x.k)&&wordR nk lg x.a r.nm&&wordR nk lg x.m r.mr&&decide (r.fr<=x.n)&&decide (x.n<=r.toF)&&seqOk l r.ks
def isX (nk lg:ByteArray->Bool) (x:Nod) (l:List Inf) (c:Int):Bool:=RWS.any (fitR nk lg x l c)
def infF (nk lg:ByteArray->Bool):Fr->List Inf
 | .nil=>[]
 | .cons x k r=>⟨x.k,x.a,isX nk lg x (infF nk lg k)⟩::infF nk lg r
def isT (nk lg:ByteArray->Bool) (t:Tr) (c:Int):Bool:=isX nk lg t.1 (infF nk lg t.2) c
def infT (nk lg:ByteArray->Bool) (t:Tr):Inf:=⟨t.1.k,t.1.a,isT nk lg t⟩
section
variable {nk lg:ByteArray->Bool}
theorem tO (f:Fr):(infF nk lg f).length=f.len:=by
 induction f with
 | nil=>rfl
 | cons x k r _ ih=>simp only[infF,List.length_cons,Fr.len,ih]
theorem tP (a b:Fr):infF nk lg (a.app b)=infF nk lg a++infF nk lg b:=by
 induction a with
 | nil=>rfl
 | cons x k r _ ih=>simp only[Fr.app,infF,ih,List.cons_append]
theorem qT {x:Nod} {l:List Inf} {c:Int}:isX nk lg x l c=true↔∃r∈RWS,fitR nk lg x l c r=true:=by
 unfold isX;rw[List.any_eq_true]
theorem qU {x:Nod} {l:List Inf} {c:Int} {r:Rw}:fitR nk lg x l c r=true↔r.cat=c/\r.kind=x.k/\wordR nk lg x.a r.nm=true/\wordR nk lg x.m r.mr=true/\r.fr<=x.n/\x.n<=r.toF/\seqOk l r.ks=true:=by
 unfold fitR;simp only[Bool.and_eq_true,decide_eq_true_iff,and_assoc]
end
structure Tk where
 k:Int
 s:ByteArray
abbrev Rs (α:Type):=(α×Nat) ⊕ (Nat×Int)
def kInt:ByteArray:=⟨#[105,110,116]⟩
def kBool:ByteArray:=⟨#[98,111,111,108]⟩
def kUnit:ByteArray:=⟨#[117,110,105,116]⟩
def kOpen:ByteArray:=⟨#[40]⟩
def kShut:ByteArray:=⟨#[41]⟩
def kMu:ByteArray:=⟨#[109,117]⟩
def kLeft:ByteArray:=⟨#[123]⟩
def jW:ByteArray:=⟨#[125]⟩
def kOf:ByteArray:=⟨#[111,102]⟩
def kBar:ByteArray:=⟨#[124]⟩
def jX:ByteArray:=⟨#[45,62]⟩
def kStar:ByteArray:=⟨#[42]⟩
def nob:ByteArray:=⟨#[]⟩
def key (l:List Tk) (i:Nat) (x:ByteArray):Bool:=match l[i]? with
 | some t=>decide (t.k=3)&&decide (t.s=x)
 | none=>false
def nam (p:ByteArray->Bool) (l:List Tk) (i:Nat):Option ByteArray:=match l[i]? with
 | some t=>if decide (t.k=1)&&p t.s then some t.s else none
 | none=>none
def nd (k:Int) (a:ByteArray) (ks:Fr):Tr:=(⟨k,0,a,nob⟩,ks)
def fr1 (a:Tr):Fr:=.cons a.1 a.2 .nil
def fr2 (a b:Tr):Fr:=.cons a.1 a.2 (fr1 b)
def hasN:Fr->ByteArray->Bool
 | .nil,_=>false
 | .cons x _ r,s=>decide (x.a=s)||hasN r s
section
variable (nk lg:ByteArray->Bool)
mutual
def typF:Nat->List Tk->Nat->Rs Tr
 | 0,_,i=>.inr (i,6)
 | n+1,l,i=>match prodF n l i with
  | .inr e=>.inr e
  | .inl (a,j)=>if key l j jX then (match typF n l (j+1) with
   | .inr e=>.inr e
   | .inl (b,m)=>.inl (nd 5 nob (fr2 a b),m)) else .inl (a,j)
def prodF:Nat->List Tk->Nat->Rs Tr
 | 0,_,i=>.inr (i,6)
 | n+1,l,i=>match atomF n l i with
  | .inr e=>.inr e
  | .inl (a,j)=>if key l j kStar then (match prodF n l (j+1) with
   | .inr e=>.inr e
   | .inl (b,m)=>.inl (nd 6 nob (fr2 a b),m)) else .inl (a,j)
def atomF:Nat->List Tk->Nat->Rs Tr
 | 0,_,i=>.inr (i,6)
 | n+1,l,i=>match nam lg l i with
  | some s=>.inl (nd 4 s .nil,i+1)
  | none=>
   if key l i kInt then .inl (nd 1 nob .nil,i+1)
   else if key l i kBool then .inl (nd 2 nob .nil,i+1)
   else if key l i kUnit then .inl (nd 3 nob .nil,i+1)
   else if key l i kOpen then (match typF n l (i+1) with
    | .inr e=>.inr e
    | .inl (t,j)=>if key l j kShut then .inl (t,j+1) else .inr (j,6))
   else if key l i kMu then (match nam nk l (i+1) with
    | none=>.inr (i+1,6)
    | some s=>if key l (i+2) kLeft then (match consF n l (i+3) .nil with
     | .inr e=>.inr e
     | .inl (c,j)=>if key l j jW then .inl (nd 7 s c,j+1) else .inr (j,6)) else .inr (i+2,6))
   else .inr (i,6)
def consF:Nat->List Tk->Nat->Fr->Rs Fr
 | 0,_,i,_=>.inr (i,6)
 | n+1,l,i,acc=>match nam nk l i with
  | none=>.inr (i,6)
  | some s=>if hasN acc s then .inr (i,9) else if key l (i+1) kOf then (match typF n l (i+2) with
   | .inr e=>.inr e
   | .inl (t,j)=>if key l j kBar then consF n l (j+1) (acc.app (fr1 (nd 8 s (fr1 t)))) else .inl (acc.app (fr1 (nd 8 s (fr1 t))),j)) else .inr (i+1,6)
end
end
section
variable {nk lg:ByteArray->Bool}
theorem zY {l:List Tk} {i:Nat} {x:ByteArray} (h:key l i x=true):i<l.length:=by
 unfold key at h
 split at h
 ·rename_i t ht
  exact(List.getElem?_eq_some_iff.1 ht).1
 ·cases h
theorem eD {p:ByteArray->Bool} {l:List Tk} {i:Nat} {s:ByteArray} (h:nam p l i=some s):i<l.length:=by
 unfold nam at h
 split at h
 ·rename_i t ht
  exact(List.getElem?_eq_some_iff.1 ht).1
 ·cases h
def Ahead {α:Type} (i:Nat):Rs α->Prop
 | .inl (_,j)=>i<j
 | .inr (p,_)=>i<=p
theorem kV (l:List Tk):∀(n:Nat),(∀i,Ahead i (typF nk lg n l i))/\(∀i,Ahead i (prodF nk lg n l i))/\(∀i,Ahead i (atomF nk lg n l i))/\(∀i acc,Ahead i (consF nk lg n l i acc))
 | 0=>⟨fun i=>by unfold typF;exact Nat.le_refl _,fun i=>by unfold prodF;exact Nat.le_refl _,fun i=>by unfold atomF;exact Nat.le_refl _,fun i _=>by unfold consF;exact Nat.le_refl _⟩
 | n+1=>by
  obtain⟨hT,hP,hA,hC⟩:=kV l n;refine⟨fun i=>?_,fun i=>?_,fun i=>?_,fun i acc=>?_⟩
  ·have h1:=hP i
   unfold typF
   cases h:prodF nk lg n l i with
   | inr e=>rw[h] at h1;exact h1
   | inl r=>
    obtain⟨a,j⟩:=r;rw[h] at h1;have h1:i<j:=h1;have h2:=hT (j+1);simp only
    split
    ·cases h':typF nk lg n l (j+1) with
     | inr e=>rw[h'] at h2;have h2:j+1<=e.1:=h2;show i<=e.1;omega
     | inl r=>rw[h'] at h2;have h2:j+1<r.2:=h2;show i<r.2;omega
    ·exact h1
  ·have h1:=hA i
   unfold prodF
   cases h:atomF nk lg n l i with
   | inr e=>rw[h] at h1;exact h1
   | inl r=>
    obtain⟨a,j⟩:=r;rw[h] at h1;have h1:i<j:=h1;have h2:=hP (j+1);simp only
    split
    ·cases h':prodF nk lg n l (j+1) with
     | inr e=>rw[h'] at h2;have h2:j+1<=e.1:=h2;show i<=e.1;omega
     | inl r=>rw[h'] at h2;have h2:j+1<r.2:=h2;show i<r.2;omega
    ·exact h1
  ·have h1:=hT (i+1)
   have h2:=hC (i+3) .nil;unfold atomF
   split
   ·show i<i+1;omega
   ·split
    ·show i<i+1;omega
    ·split
     ·show i<i+1;omega
     ·split
      ·show i<i+1;omega
      ·split
       ·cases h:typF nk lg n l (i+1) with
        | inr e=>rw[h] at h1;have h1:i+1<=e.1:=h1;show i<=e.1;omega
        | inl r=>
         rw[h] at h1;have h1:i+1<r.2:=h1;simp only
         split
         ·show i<r.2+1;omega
         ·show i<=r.2;omega
       ·split
        ·split
         ·show i<=i+1;omega
         ·split
          ·cases h:consF nk lg n l (i+3) .nil with
           | inr e=>rw[h] at h2;have h2:i+3<=e.1:=h2;show i<=e.1;omega
           | inl r=>
            rw[h] at h2;have h2:i+3<r.2:=h2;simp only
            split
            ·show i<r.2+1;omega
            ·show i<=r.2;omega
          ·show i<=i+2;omega
        ·exact Nat.le_refl _
  ·have h1:=hT (i+2)
   unfold consF
   split
   ·exact Nat.le_refl _
   ·split
    ·exact Nat.le_refl _
    ·split
     ·cases h:typF nk lg n l (i+2) with
      | inr e=>rw[h] at h1;have h1:i+2<=e.1:=h1;show i<=e.1;omega
      | inl r=>
       rw[h] at h1;have h1:i+2<r.2:=h1;simp only
       split
       ·have h2:=hC (r.2+1) (acc.app (fr1 (nd 8 ‹ByteArray› (fr1 r.1))))
        cases h':consF nk lg n l (r.2+1) (acc.app (fr1 (nd 8 ‹ByteArray› (fr1 r.1)))) with
        | inr e=>rw[h'] at h2;have h2:r.2+1<=e.1:=h2;show i<=e.1;omega
        | inl q=>rw[h'] at h2;have h2:r.2+1<q.2:=h2;show i<q.2;omega
       ·show i<r.2;omega
     ·show i<=i+1;omega
def typS (m:ByteArray) (k:Int) (l:List Tk) (r:Rs Tr) (T:Nat->Rs Tr):Rs Tr:=match r with
 | .inr e=>.inr e
 | .inl (a,j)=>if key l j m then (match T (j+1) with
  | .inr e=>.inr e
  | .inl (b,q)=>.inl (nd k nob (fr2 a b),q)) else .inl (a,j)
def atomS (nk lg:ByteArray->Bool) (l:List Tk) (i:Nat) (T:Nat->Rs Tr) (C:Nat->Fr->Rs Fr):Rs Tr:=match nam lg l i with
 | some s=>.inl (nd 4 s .nil,i+1)
 | none=>
  if key l i kInt then .inl (nd 1 nob .nil,i+1)
  else if key l i kBool then .inl (nd 2 nob .nil,i+1)
  else if key l i kUnit then .inl (nd 3 nob .nil,i+1)
  else if key l i kOpen then (match T (i+1) with
   | .inr e=>.inr e
   | .inl (t,j)=>if key l j kShut then .inl (t,j+1) else .inr (j,6))
  else if key l i kMu then (match nam nk l (i+1) with
   | none=>.inr (i+1,6)
   | some s=>if key l (i+2) kLeft then (match C (i+3) .nil with
    | .inr e=>.inr e
    | .inl (c,j)=>if key l j jW then .inl (nd 7 s c,j+1) else .inr (j,6)) else .inr (i+2,6))
  else .inr (i,6)
def consS (nk:ByteArray->Bool) (l:List Tk) (i:Nat) (acc:Fr) (T:Nat->Rs Tr) (C:Nat->Fr->Rs Fr):Rs Fr:=match nam nk l i with
 | none=>.inr (i,6)
 | some s=>if hasN acc s then .inr (i,9) else if key l (i+1) kOf then (match T (i+2) with
  | .inr e=>.inr e
  | .inl (t,j)=>if key l j kBar then C (j+1) (acc.app (fr1 (nd 8 s (fr1 t)))) else .inl (acc.app (fr1 (nd 8 s (fr1 t))),j)) else .inr (i+1,6)
theorem vS (n:Nat) (l:List Tk) (i:Nat):typF nk lg (n+1) l i=typS jX 5 l (prodF nk lg n l i) (typF nk lg n l):=by rw[typF];rfl
theorem xD (n:Nat) (l:List Tk) (i:Nat):prodF nk lg (n+1) l i=typS kStar 6 l (atomF nk lg n l i) (prodF nk lg n l):=by rw[prodF];rfl
theorem xE (n:Nat) (l:List Tk) (i:Nat):atomF nk lg (n+1) l i=atomS nk lg l i (typF nk lg n l) (consF nk lg n l):=by rw[atomF];rfl
theorem xF (n:Nat) (l:List Tk) (i:Nat) (acc:Fr):consF nk lg (n+1) l i acc=consS nk l i acc (typF nk lg n l) (consF nk lg n l):=by rw[consF];rfl
theorem dX {m:ByteArray} {k:Int} {l:List Tk} {r:Rs Tr} {T T':Nat->Rs Tr} (h:∀a j,r = .inl (a,j)->key l j m=true->T (j+1)=T' (j+1)):typS m k l r T=typS m k l r T':=by
 unfold typS
 cases r with
 | inr e=>rfl
 | inl r=>
  obtain⟨a,j⟩:=r;simp only
  split
  ·rw[h a j rfl ‹_›]
  ·rfl
theorem zZy {l:List Tk} {i:Nat} {T T':Nat->Rs Tr} {C C':Nat->Fr->Rs Fr} (h1:i<l.length->T (i+1)=T' (i+1)) (h2:i+2<l.length->C (i+3) .nil=C' (i+3) .nil):atomS nk lg l i T C=atomS nk lg l i T' C':=by
 unfold atomS
 split
 ·rfl
 ·split
  ·rfl
  ·split
   ·rfl
   ·split
    ·rfl
    ·split
     ·rename_i hk
      rw[h1 (zY hk)]
     ·split
      ·split
       ·rfl
       ·split
        ·rename_i hk
         rw[h2 (zY hk)]
        ·rfl
      ·rfl
theorem zZz {l:List Tk} {i:Nat} {acc:Fr} {T T':Nat->Rs Tr} {C C':Nat->Fr->Rs Fr} (h1:i+1<l.length->T (i+2)=T' (i+2)) (h2:∀t j a,T' (i+2) = .inl (t,j)->j<l.length->C (j+1) a=C' (j+1) a):consS nk l i acc T C=consS nk l i acc T' C':=by
 unfold consS
 split
 ·rfl
 ·split
  ·rfl
  ·split
   ·rename_i hk
    rw[h1 (zY hk)]
    cases h:T' (i+2) with
    | inr e=>rfl
    | inl r=>
     obtain⟨t,j⟩:=r;simp only
     split
     ·rename_i hk
      exact h2 t j _ h (zY hk)
     ·rfl
   ·rfl
theorem vT (l:List Tk):∀(n:Nat),(∀i,4*(l.length-i)+3<=n->typF nk lg (n+1) l i=typF nk lg n l i)/\(∀i,4*(l.length-i)+2<=n->prodF nk lg (n+1) l i=prodF nk lg n l i)/\
  (∀i,4*(l.length-i)+1<=n->atomF nk lg (n+1) l i=atomF nk lg n l i)/\(∀i acc,4*(l.length-i)+4<=n->consF nk lg (n+1) l i acc=consF nk lg n l i acc)
 | 0=>⟨fun i h=>by omega,fun i h=>by omega,fun i h=>by omega,fun i _ h=>by omega⟩
 | n+1=>by
  obtain⟨hT,hP,hA,hC⟩:=vT l n;obtain⟨aT,aP,aA,aC⟩:=kV (nk:=nk) (lg:=lg) l n;refine⟨fun i hi=>?_,fun i hi=>?_,fun i hi=>?_,fun i acc hi=>?_⟩
  ·rw[vS (n+1),vS n,hP i (by omega)]
   refine dX fun a j h hk=>hT _ ?_
   have h1:=aP i;rw[h] at h1;have h1:i<j:=h1;have:=zY hk;omega
  ·rw[xD (n+1),xD n,hA i (by omega)]
   refine dX fun a j h hk=>hP _ ?_
   have h1:=aA i;rw[h] at h1;have h1:i<j:=h1;have:=zY hk;omega
  ·rw[xE (n+1),xE n]
   exact zZy (fun h=>hT _ (by omega)) (fun h=>hC _ _ (by omega))
  ·rw[xF (n+1),xF n]
   refine zZz (fun h=>hT _ (by omega)) fun t j a h hj=>hC _ _ ?_
   have h1:=aT (i+2);rw[h] at h1;have h1:i+2<j:=h1;omega
theorem xQ {l:List Tk} {i n:Nat} (h:4*(l.length-i)+3<=n):∀d,typF nk lg (n+d) l i=typF nk lg n l i
 | 0=>rfl
 | d+1=>by rw[<- Nat.add_assoc,(vT l (n+d)).1 i (by omega),xQ h d]
theorem tQ {l:List Tk} {i n:Nat} (h:4*(l.length-i)+2<=n):∀d,prodF nk lg (n+d) l i=prodF nk lg n l i
 | 0=>rfl
 | d+1=>by rw[<- Nat.add_assoc,(vT l (n+d)).2.1 i (by omega),tQ h d]
theorem tR {l:List Tk} {i n:Nat} (h:4*(l.length-i)+1<=n):∀d,atomF nk lg (n+d) l i=atomF nk lg n l i
 | 0=>rfl
 | d+1=>by rw[<- Nat.add_assoc,(vT l (n+d)).2.2.1 i (by omega),tR h d]
theorem vD {l:List Tk} {i n:Nat} {acc:Fr} (h:4*(l.length-i)+4<=n):∀d,consF nk lg (n+d) l i acc=consF nk lg n l i acc
 | 0=>rfl
 | d+1=>by rw[<- Nat.add_assoc,(vT l (n+d)).2.2.2 i acc (by omega),vD h d]
end
section
variable (nk lg:ByteArray->Bool)
def typL (l:List Tk) (i:Nat):Rs Tr:=typF nk lg (4*l.length+8) l i
def prodL (l:List Tk) (i:Nat):Rs Tr:=prodF nk lg (4*l.length+8) l i
def atomL (l:List Tk) (i:Nat):Rs Tr:=atomF nk lg (4*l.length+8) l i
def consL (l:List Tk) (i:Nat) (acc:Fr):Rs Fr:=consF nk lg (4*l.length+8) l i acc
end
section
variable {nk lg:ByteArray->Bool}
theorem zOa (l:List Tk) (i:Nat):typL nk lg l i=typS jX 5 l (prodL nk lg l i) (typL nk lg l):=by
 have h:typL nk lg l i=typF nk lg (4*l.length+8+1) l i:=(xQ (by omega) 1).symm;rw[h,vS]
 rfl
theorem zS8 (l:List Tk) (i:Nat):prodL nk lg l i=typS kStar 6 l (atomL nk lg l i) (prodL nk lg l):=by
 have h:prodL nk lg l i=prodF nk lg (4*l.length+8+1) l i:=(tQ (by omega) 1).symm;rw[h,xD]
 rfl
theorem zS9 (l:List Tk) (i:Nat):atomL nk lg l i=atomS nk lg l i (typL nk lg l) (consL nk lg l):=by
 have h:atomL nk lg l i=atomF nk lg (4*l.length+8+1) l i:=(tR (by omega) 1).symm;rw[h,xE]
 rfl
theorem zSa (l:List Tk) (i:Nat) (acc:Fr):consL nk lg l i acc=consS nk l i acc (typL nk lg l) (consL nk lg l):=by
 have h:consL nk lg l i acc=consF nk lg (4*l.length+8+1) l i acc:=(vD (by omega) 1).symm;rw[h,xF]
 rfl
theorem fG (l:List Tk) (i:Nat):Ahead i (typL nk lg l i):=(kV l _).1 i
theorem vU (l:List Tk) (i:Nat):Ahead i (prodL nk lg l i):=(kV l _).2.1 i
theorem vV (l:List Tk) (i:Nat):Ahead i (atomL nk lg l i):=(kV l _).2.2.1 i
theorem oP (l:List Tk) (i:Nat) (acc:Fr):Ahead i (consL nk lg l i acc):=(kV l _).2.2.2 i acc
end
end Go.Proofs.YtgeghilbikljcaaGreatDoor
