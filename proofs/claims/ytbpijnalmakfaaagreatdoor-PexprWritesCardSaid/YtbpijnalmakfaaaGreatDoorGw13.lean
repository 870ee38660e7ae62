/-
  Plain definitions, without the program: trees as forests; their size, depth, cells, paths; what stands at a path, and what is put there; what a list of cells is the tree of.
-/
import Derived.Below
import Derived.BigQuiet
import Derived.Deep.AppendLies
import Derived.Deep.DeepMust
import Derived.Deep.QuietTactic
import Derived.Deep.RegionHeld3
import Derived.Deep.RegionLaw
import Derived.Laws.Rows
import Derived.Lib.Hide
import Derived.Lib.OthersKept
import Derived.Lib.Strings
import Derived.Maps.AppendAt
import Derived.Outline
import Derived.OwnWalk
import Derived.Test.YtbpijnalmakfaaaGreatDoorRows
import Derived.WalkKit
import Derived.WalkLawsBesides
import Derived.WalkSmall
import Derived.WalkSpells
set_option maxHeartbeats 40000000
set_option maxRecDepth 100000
namespace Go.Proofs.YtbpijnalmakfaaaGreatDoor
structure Nod where
 k:Int
 n:Int
 a:ByteArray
 m:ByteArray
inductive Fr where
 | nil:Fr
 | cons (x:Nod) (ks:Fr) (rs:Fr):Fr
abbrev Tr:=Nod×Fr
def Fr.len:Fr→Nat
 | .nil=>0
 | .cons _ _ r=>r.len+1
def Fr.sz:Fr→Nat
 | .nil=>0
 | .cons _ k r=>1+k.sz+r.sz
def Fr.dp:Fr→Nat
 | .nil=>0
 | .cons _ k r=>max (1+k.dp) r.dp
def szT (t:Tr):Nat:=1+t.2.sz
def dpT (t:Tr):Nat:=1+t.2.dp
def szO:Option Tr→Nat
 | none=>0
 | some t=>szT t
def dpO:Option Tr→Nat
 | none=>0
 | some t=>dpT t
def Fr.app:Fr→Fr→Fr
 | .nil,b=>b
 | .cons x k r,b=>.cons x k (r.app b)
def Fr.get:Fr→Nat→Option Tr
 | .nil,_=>none
 | .cons x k _,0=>some (x,k)
 | .cons _ _ r,i+1=>r.get i
theorem Fr.len_le (f:Fr):f.len≤f.sz:=by
 induction f with
 | nil=>exact Nat.le_refl _
 | cons x k r _ ih=>unfold Fr.len Fr.sz;omega
theorem Fr.dp_le (f:Fr):f.dp≤f.sz:=by
 induction f with
 | nil=>exact Nat.le_refl _
 | cons x k r ihk ihr=>unfold Fr.dp Fr.sz;omega
theorem Fr.len_app (a b:Fr):(a.app b).len=a.len+b.len:=by
 induction a with
 | nil=>simp[Fr.app,Fr.len]
 | cons x k r _ ih=>simp only[Fr.app,Fr.len,ih];omega
theorem Fr.sz_app (a b:Fr):(a.app b).sz=a.sz+b.sz:=by
 induction a with
 | nil=>simp[Fr.app,Fr.sz]
 | cons x k r _ ih=>simp only[Fr.app,Fr.sz,ih];omega
theorem Fr.dp_app (a b:Fr):(a.app b).dp=max a.dp b.dp:=by
 induction a with
 | nil=>simp[Fr.app,Fr.dp]
 | cons x k r _ ih=>simp only[Fr.app,Fr.dp,ih];omega
theorem Fr.app_assoc (a b c:Fr):(a.app b).app c=a.app (b.app c):=by
 induction a with
 | nil=>rfl
 | cons x k r _ ih=>simp only[Fr.app,ih]
theorem Fr.app_nil (a:Fr):a.app .nil=a:=by
 induction a with
 | nil=>rfl
 | cons x k r _ ih=>simp only[Fr.app,ih]
theorem Fr.get_lt {f:Fr} {i:Nat} {t:Tr} (h:f.get i=some t):i<f.len:=by
 induction f generalizing i with
 | nil=>cases h
 | cons x k r _ ih=>
  cases i with
  | zero=>exact Nat.succ_pos _
  | succ i=>exact Nat.succ_lt_succ (ih h)
theorem Fr.get_some {f:Fr} {i:Nat} (h:i<f.len):∃t,f.get i=some t:=by
 induction f generalizing i with
 | nil=>exact absurd h (Nat.not_lt_zero _)
 | cons x k r _ ih=>
  cases i with
  | zero=>exact⟨_,rfl⟩
  | succ i=>exact ih (Nat.lt_of_succ_lt_succ h)
theorem Fr.get_sz {f:Fr} {i:Nat} {t:Tr} (h:f.get i=some t):szT t≤f.sz:=by
 induction f generalizing i with
 | nil=>cases h
 | cons x k r _ ih=>
  cases i with
  | zero=>injection h with h;subst h;show 1+k.sz≤1+k.sz+r.sz;omega
  | succ i=>have:=ih h;simp only[Fr.sz];omega
structure Cel where
 x:Nod
 ks:List Int
def celF:Fr→Nat→List Cel×List Int
 | .nil,_=>([],[])
 | .cons x k r,f=>
  let p:=celF k f
  let q:=celF r (f+p.1.length+1)
  (p.1++⟨x,p.2⟩::q.1,((f+p.1.length:Nat):Int)::q.2)
def celT (t:Tr) (f:Nat):List Cel:=(celF t.2 f).1++[⟨t.1,(celF t.2 f).2⟩]
theorem wO (t:Fr):∀f,(celF t f).1.length=t.sz∧(celF t f).2.length=t.len:=by
 induction t with
 | nil=>intro f;exact⟨rfl,rfl⟩
 | cons x k r ihk ihr=>
  intro f;simp only[celF,List.length_append,List.length_cons,Fr.sz,Fr.len];have h1:=ihk f;have h2:=ihr (f+(celF k f).1.length+1);omega
theorem zHg (t:Tr) (f:Nat):(celT t f).length=szT t:=by
 unfold celT szT;rw[List.length_append,(wO t.2 f).1,List.length_singleton];omega
theorem zHh (a b:Fr) (f:Nat):celF (a.app b) f=((celF a f).1++(celF b (f+a.sz)).1,(celF a f).2++(celF b (f+a.sz)).2):=by
 induction a generalizing f with
 | nil=>simp[celF,Fr.app,Fr.sz]
 | cons x k r _ ih=>
  simp only[Fr.app,celF,ih,Fr.sz,(wO k f).1];have e:f+k.sz+1+r.sz=f+(1+k.sz+r.sz):=by omega
  rw[e]
  simp
def rowOf:List Tr→Fr
 | []=>.nil
 | t::r=>.cons t.1 t.2 (rowOf r)
def nod0:Nod:=⟨0,0,⟨#[]⟩,⟨#[]⟩⟩
def cel (cs:List Cel) (i:Nat):Cel:=cs.getD i ⟨nod0,[]⟩
def gr (cs:List Cel):Nat→Nat→Tr
 | 0,i=>((cel cs i).x,.nil)
 | f+1,i=>((cel cs i).x,rowOf ((cel cs i).ks.map fun x=>gr cs f x.toNat))
end Go.Proofs.YtbpijnalmakfaaaGreatDoor
namespace Go.Proofs.YtbpijnalmakfaaaGreatDoor
open Go.RowKit
theorem chn {w w1 w2:World} (h:Below w.heap.size w w1) (h':Below w1.heap.size w1 w2):Below w.heap.size w w2:=h.trans (h'.mono h.size)
theorem zV {a b:Int} (h:a=b):Value.int .i64 a = .int .i64 b:=by rw[h]
theorem aH {a b:Int} (h:a=b):Ending.returned (.int .i64 b) = .returned (.int .i64 a):=by rw[h]
theorem kN {a b:Bool} (h:a=b):Ending.returned (.bool b) = .returned (.bool a):=by rw[h]
theorem qD {B:Nat} {a w:World} (h:Below B a w) (n:Nat):Below B a (w.drewN n):=h.trans ⟨rfl,rfl,rfl,Nat.le_refl _,fun _ _=>rfl⟩
theorem vO (a:Addr) (n:Nat):(a.add n).block=a.block:=by unfold Addr.add;split<;>rfl
theorem yL {w:World} {a:Addr} {v:Value} (h:w.cell? a=some v):a.block<w.heap.size:=by
 rcases Nat.lt_or_ge a.block w.heap.size with h' | h'
 ·exact h'
 ·simp[World.cell?,Array.getElem?_eq_none h'] at h
theorem qC {w:World} {g:Nat} {o:Obj} (h:w.heap[g]? = some o):g<w.heap.size:=by
 rcases Nat.lt_or_ge g w.heap.size with h' | h'
 ·exact h'
 ·rw[Array.getElem?_eq_none h'] at h;cases h
theorem qS {w w':World} {g:Nat} {o:Obj} (h:w.heap[g]? = some o) (hb:Below w.heap.size w w'):w'.heap[g]? = some o:=(hb.block g (qC h)).trans h
def Pln (w:World) (b:Nat):Prop:=∃cs e,w.heap[b]? = some (.cells cs e (0,0))
def Nd (w:World) (S:Nat→Prop) (v:Value) (x:Nod) (n:Nat) (K:Nat→Nat→Prop):Prop:=
 ∃q p A c,v = .pointer (some ⟨q,p,none⟩)∧S q∧Pln w q∧w.cell? ⟨q,p,none⟩=some (.int .i64 x.k)∧w.cell? ⟨q,p+1,none⟩=some (.int .i64 x.n)∧w.cell? ⟨q,p+2,none⟩=some (.string x.a)∧
  w.cell? ⟨q,p+3,none⟩=some (.string x.m)∧w.cell? ⟨q,p+4,none⟩=some (.slice A n c)∧n≤c∧(0<n→∃kb ko,A=some ⟨kb,ko,none⟩∧S kb∧K kb ko)
def InF (w:World) (S:Nat→Prop):Fr→Nat→Nat→Prop
 | .nil,_,_=>True
 | .cons x ks rs,b,o=>(∃v,w.cell? ⟨b,o,none⟩=some v∧Nd w S v x ks.len (InF w S ks))∧InF w S rs b (o+1)
def InT (w:World) (S:Nat→Prop) (v:Value) (t:Tr):Prop:=Nd w S v t.1 t.2.len (InF w S t.2)
def InO (w:World) (S:Nat→Prop) (v:Value):Option Tr→Prop
 | none=>v = .pointer none
 | some t=>InT w S v t
theorem InF.keep {w w':World} {S S':Nat→Prop} {t:Fr} (hS:∀q,S q→S' q) (hk:∀b,S b→w'.heap[b]? = w.heap[b]?):∀{b o:Nat},S b→InF w S t b o→InF w' S' t b o:=by
 induction t with
 | nil=>intro b o _ _;trivial
 | cons x ks rs ihk ihr=>
  intro b o hb h;have hk':=fun(p:Addr) (hp:S p.block)=>World.cell?_of_block (w:=w) (w':=w') (hk p.block hp)
  obtain⟨⟨v,hv,q,p,A,c,e,hq,⟨xs,te,hx⟩,h0,h1,h2,h3,h4,hc,hkids⟩,hr⟩:=h;refine⟨⟨v,(hk' ⟨b,o,none⟩ hb).trans hv,q,p,A,c,e,hS q hq,⟨xs,te,(hk q hq).trans hx⟩,(hk' ⟨q,p,none⟩ hq).trans h0,(hk' ⟨q,p+1,none⟩ hq).trans h1,(hk' ⟨q,p+2,none⟩ hq).trans h2,(hk' ⟨q,p+3,none⟩ hq).trans h3,(hk' ⟨q,p+4,none⟩ hq).trans h4,hc,fun hn=>?_⟩,ihr hb hr⟩;obtain⟨kb,ko,hA,h5,h7⟩:=hkids hn;exact⟨kb,ko,hA,hS kb h5,ihk h5 h7⟩
theorem InT.keep {w w':World} {S S':Nat→Prop} {v:Value} {t:Tr} (h:InT w S v t) (hS:∀q,S q→S' q) (hk:∀b,S b→w'.heap[b]? = w.heap[b]?):InT w' S' v t:=by
 have hk':=fun(p:Addr) (hp:S p.block)=>World.cell?_of_block (w:=w) (w':=w') (hk p.block hp)
 obtain⟨q,p,A,c,e,hq,⟨xs,te,hx⟩,h0,h1,h2,h3,h4,hc,hkids⟩:=h;refine⟨q,p,A,c,e,hS q hq,⟨xs,te,(hk q hq).trans hx⟩,(hk' ⟨q,p,none⟩ hq).trans h0,(hk' ⟨q,p+1,none⟩ hq).trans h1,(hk' ⟨q,p+2,none⟩ hq).trans h2,(hk' ⟨q,p+3,none⟩ hq).trans h3,(hk' ⟨q,p+4,none⟩ hq).trans h4,hc,fun hn=>?_⟩;obtain⟨kb,ko,hA,h5,h7⟩:=hkids hn;exact⟨kb,ko,hA,hS kb h5,InF.keep hS hk h5 h7⟩
def Bel (S:Nat→Prop) (B:Nat):Prop:=∀q,S q→q<B
theorem InT.below {w w':World} {S:Nat→Prop} {B:Nat} {v:Value} {t:Tr} (h:InT w S v t) (hS:Bel S B) (hb:Below B w w'):InT w' S v t:=h.keep (fun _ h=>h) fun _ hp=>hb.block _ (hS _ hp)
theorem InO.keep {w w':World} {S S':Nat→Prop} {v:Value} {t:Option Tr} (h:InO w S v t) (hS:∀q,S q→S' q) (hk:∀b,S b→w'.heap[b]? = w.heap[b]?):InO w' S' v t:=by
 cases t with
 | none=>exact h
 | some t=>exact InT.keep h hS hk
def Kid (w:World) (S:Nat→Prop) (A:Option Addr) (rest:Fr) (i:Nat):Prop:=0<rest.len→∃kb ko,A=some ⟨kb,ko,none⟩∧S kb∧InF w S rest kb (ko+i)
theorem Kid.next {w:World} {S:Nat→Prop} {A:Option Addr} {x:Nod} {k r:Fr} {i:Nat} (h:Kid w S A (.cons x k r) i) :
  ∃kb ko v,A=some ⟨kb,ko,none⟩∧S kb∧w.cell? ⟨kb,ko+i,none⟩=some v∧InT w S v (x,k)∧Kid w S A r (i+1):=by
 obtain⟨kb,ko,hA,h1,⟨v,hv,hn⟩,hr⟩:=h (Nat.succ_pos _);exact⟨kb,ko,v,hA,h1,hv,hn,fun _=>⟨kb,ko,hA,h1,hr⟩⟩
theorem Kid.keep {w w':World} {S S':Nat→Prop} {A:Option Addr} {r:Fr} {i:Nat} (h:Kid w S A r i) (hS:∀q,S q→S' q) (hk:∀b,S b→w'.heap[b]? = w.heap[b]?):Kid w' S' A r i:=by
 intro h0;obtain⟨kb,ko,hA,h1,h3⟩:=h h0;exact⟨kb,ko,hA,hS kb h1,InF.keep hS hk h1 h3⟩
theorem Fr.cut {f:Fr} (h:0<f.len):∃x k r,f = .cons x k r:=by
 cases f with
 | nil=>exact absurd h (Nat.lt_irrefl _)
 | cons x k r=>exact⟨x,k,r,rfl⟩
theorem Fr.app_cons (a:Fr) (x:Nod) (k r:Fr):a.app (.cons x k r)=(a.app (.cons x k .nil)).app r:=by rw[Fr.app_assoc];rfl
theorem InT.open {w:World} {S:Nat→Prop} {v:Value} {x:Nod} {ks:Fr} (h:InT w S v (x,ks)) :
  ∃q p A c,v = .pointer (some ⟨q,p,none⟩)∧S q∧w.cell? ⟨q,p,none⟩=some (.int .i64 x.k)∧w.cell? ⟨q,p+1,none⟩=some (.int .i64 x.n)∧w.cell? ⟨q,p+2,none⟩=some (.string x.a)∧
  w.cell? ⟨q,p+3,none⟩=some (.string x.m)∧w.cell? ⟨q,p+4,none⟩=some (.slice A ks.len c)∧ks.len≤c∧Kid w S A ks 0:=by
 obtain⟨q,p,A,c,hv,hq,_,h⟩:=h;exact⟨q,p,A,c,hv,hq,h⟩
theorem InT.ptr {w:World} {S:Nat→Prop} {v:Value} {t:Tr} (h:InT w S v t):∃q p,v = .pointer (some ⟨q,p,none⟩):=by
 obtain⟨q,p,_,_,hv,_⟩:=h;exact⟨q,p,hv⟩
def zXr (n:Nat) (w:World) (e:Ending) (w':World):Prop:=e = .returned (.int .i64 (n:Int))∧w=w'
theorem zPz {n:Nat} {z:Int} {w:World} (h:z=(n:Int)):zXr n w (.returned (.int .i64 z)) w:=⟨by rw[h],rfl⟩
theorem zXs:∀(n:Nat) (t:Tr),szT t≤n→n≤1000000000→∀(w:World) (Sq:Nat→Prop) (v:Value),InT w Sq v t→
  Calls Tryz.prog 141 #[v] w (zXr (szT t) w)
 | 0,t,h,_,_,_,_,_=>absurd h (by unfold szT;omega)
 | n+1,(x,ks),hn,hbig,w,Sq,v,hin=>by
  have ih:=zXs n;obtain⟨q,p,A,c,rfl,hq1,c0,c1,c2,c3,c4,hc,hkid⟩:=hin.open;have HK:=Lib.hid hkid;have hsz:szT (x,ks)=1+ks.sz:=rfl;have hll:=Fr.len_le ks;obtain⟨S,hS⟩:∃S,szT (x,ks)=S:=⟨_,rfl⟩;rw[hS] at hn hsz ⊢;obtain⟨N,hN⟩:∃N,ks.len=N:=⟨_,rfl⟩;rw[hN] at c4 hll;have hN1:N≤1000000000:=by omega
  have HNN:=Lib.hid hN;have HSZ:=Lib.hid hsz;clear hin hkid hS hc hN hsz
  go_enter Tryz.func141,Tryz.ntmps141
  go_wp2_with fail
  go_loop [3,4] (fun s i=>∃(k:Nat) (done rest:Fr),i = .int .i64 k∧k=done.len∧ks=done.app rest∧s = .int .i64 ((1+done.sz:Nat):Int)∧Kid w Sq A rest k) (fun _ i=>N-(intOf i).toNat)
  case atStart=>exact⟨0,.nil,ks,rfl,rfl,rfl,rfl,HK.out⟩
  case round=>
   obtain⟨k,done,rest,rfl,hk,hks,rfl,hkid⟩:=hrel;have hl:N=done.len+rest.len:=by rw[←HNN.out,hks,Fr.len_app]
   have hs:ks.sz=done.sz+rest.sz:=by rw[hks,Fr.sz_app]
   have hsz:=HSZ.out;have HKS:=Lib.hid hks
   by_cases hlt:0<rest.len
   ·obtain⟨y,l,r,rfl⟩:=Fr.cut hlt
    obtain⟨kb,ko,u,rfl,hkb,hcell,hu,hnext⟩:=hkid.next;have hyl:szT (y,l)=1+l.sz:=rfl;have hsr:(Fr.cons y l r).sz=1+l.sz+r.sz:=rfl;have hlr:(Fr.cons y l r).len=r.len+1:=rfl;have cI:=ih (y,l) (by omega) (by omega) w Sq u hu;have HN:=Lib.hid hnext;have hkN:k<N:=by omega
    have hkz:(k:Int)<(N:Int):=by omega
    have hb1:done.sz+szT (y,l)≤1000000000:=by omega
    have HK1:=Lib.hid hk;obtain⟨Z,hZ⟩:∃Z,szT (y,l)=Z:=⟨_,rfl⟩;rw[hZ] at cI hb1 hyl;have HZ:=Lib.hid hyl;clear hkid hnext hu hks ih hk hl hs hlr hsr hsz hyl hZ
    go_wp2_with (go_at_call 141;refine cI.mono ?_;rintro e w' ⟨rfl,rfl⟩)
    go_round
    case rel=>exact⟨k+1,done.app (.cons y l .nil),r,by go_num,by rw[Fr.len_app,HK1.out];rfl,by rw[HKS.out,Fr.app_cons],zV (by rw[Fr.sz_app,HZ.out];simp only[Fr.sz];omega),HN.out⟩
    case measure=>simp[intOf];omega
   ·have h0:rest = .nil:=by
     cases rest with
     | nil=>rfl
     | cons y l r=>exact absurd (Nat.succ_pos _) hlt
    subst h0;have hl':N=done.len:=by simpa [Fr.len] using hl
    have hs':ks.sz=done.sz:=by simpa [Fr.sz] using hs
    have hkz:¬(k:Int)<(N:Int):=by omega
    have HE:Hid (S=1+done.sz):=Lib.hid (by omega);clear hkid hks ih hk hl hl' hs hs' hsz;go_wp2_with fail
    go_ret
    exact zPz (by rw[HE.out];omega)
theorem zO0:∀(n:Nat) (t:Tr),szT t≤n→n≤1000000000→∀(w:World) (Sq:Nat→Prop) (v:Value),InT w Sq v t→
  Calls Tryz.prog 80 #[v] w (zXr (dpT t) w)
 | 0,t,h,_,_,_,_,_=>absurd h (by unfold szT;omega)
 | n+1,(x,ks),hn,hbig,w,Sq,v,hin=>by
  have ih:=zO0 n;obtain⟨q,p,A,c,rfl,hq1,c0,c1,c2,c3,c4,hc,hkid⟩:=hin.open;have HK:=Lib.hid hkid;have hsz:szT (x,ks)=1+ks.sz:=rfl;have hdp:dpT (x,ks)=1+ks.dp:=rfl;have hll:=Fr.len_le ks;have hdl:=Fr.dp_le ks;obtain⟨S,hS⟩:∃S,szT (x,ks)=S:=⟨_,rfl⟩;obtain⟨D,hD⟩:∃D,dpT (x,ks)=D:=⟨_,rfl⟩;rw[hS] at hn hsz;rw[hD] at hdp ⊢;obtain⟨N,hN⟩:∃N,ks.len=N:=⟨_,rfl⟩;rw[hN] at c4 hll;have hN1:N≤1000000000:=by omega
  have HNN:=Lib.hid hN;have HSZ:=Lib.hid hsz;have HDP:=Lib.hid hdp;have HDL:=Lib.hid hdl;clear hin hkid hS hc hN hsz hD hdp hdl
  go_enter Tryz.func80,Tryz.ntmps80
  go_wp2_with fail
  go_loop [3,4,5] (fun s i _=>∃(k:Nat) (done rest:Fr),i = .int .i64 k∧k=done.len∧ks=done.app rest∧s = .int .i64 ((done.dp:Nat):Int)∧Kid w Sq A rest k) (fun _ i _=>N-(intOf i).toNat)
  case atStart=>exact⟨0,.nil,ks,rfl,rfl,rfl,rfl,HK.out⟩
  case round=>
   obtain⟨k,done,rest,rfl,hk,hks,rfl,hkid⟩:=hrel;have hl:N=done.len+rest.len:=by rw[←HNN.out,hks,Fr.len_app]
   have hs:ks.sz=done.sz+rest.sz:=by rw[hks,Fr.sz_app]
   have hd:ks.dp=max done.dp rest.dp:=by rw[hks,Fr.dp_app]
   have hsz:=HSZ.out;have hdd:=Fr.dp_le done;have HKS:=Lib.hid hks
   by_cases hlt:0<rest.len
   ·obtain⟨y,l,r,rfl⟩:=Fr.cut hlt
    obtain⟨kb,ko,u,rfl,hkb,hcell,hu,hnext⟩:=hkid.next;have hyl:szT (y,l)=1+l.sz:=rfl;have hyd:dpT (y,l)=1+l.dp:=rfl;have hll2:=Fr.dp_le l;have hsr:(Fr.cons y l r).sz=1+l.sz+r.sz:=rfl;have hlr:(Fr.cons y l r).len=r.len+1:=rfl;have cI:=ih (y,l) (by omega) (by omega) w Sq u hu;have HN:=Lib.hid hnext;have hkN:k<N:=by omega
    have hkz:(k:Int)<(N:Int):=by omega
    have hb1:done.dp≤1000000000∧dpT (y,l)≤1000000000:=by omega
    have HK1:=Lib.hid hk;obtain⟨Z,hZ⟩:∃Z,dpT (y,l)=Z:=⟨_,rfl⟩;rw[hZ] at cI hb1 hyd;have HZ:=Lib.hid hyd;obtain⟨E,hE⟩:∃E,done.dp=E:=⟨_,rfl⟩;rw[hE] at hb1 ⊢;have HE:=Lib.hid hE;clear hkid hnext hu hks ih hk hl hs hlr hsr hsz hyl hZ hd hdd hyd hll2 hE;have hnew:(done.app (.cons y l .nil)).dp=max E Z:=by rw[Fr.dp_app,HE.out,HZ.out];simp only[Fr.dp];omega
    have HNEW:=Lib.hid hnew;clear hnew
    by_cases hgt:E<Z
    ·have hgz:(E:Int)<(Z:Int):=by omega
     go_wp2_with (go_at_call 80;refine cI.mono ?_;rintro e w' ⟨rfl,rfl⟩)
     go_round
     case rel=>exact⟨k+1,done.app (.cons y l .nil),r,by go_num,by rw[Fr.len_app,HK1.out];rfl,by rw[HKS.out,Fr.app_cons],zV (by rw[HNEW.out];omega),HN.out⟩
     case measure=>simp[intOf];omega
    ·have hgz:¬(E:Int)<(Z:Int):=by omega
     go_wp2_with (go_at_call 80;refine cI.mono ?_;rintro e w' ⟨rfl,rfl⟩)
     go_round
     case rel=>exact⟨k+1,done.app (.cons y l .nil),r,by go_num,by rw[Fr.len_app,HK1.out];rfl,by rw[HKS.out,Fr.app_cons],zV (by rw[HNEW.out];omega),HN.out⟩
     case measure=>simp[intOf];omega
   ·have h0:rest = .nil:=by
     cases rest with
     | nil=>rfl
     | cons y l r=>exact absurd (Nat.succ_pos _) hlt
    subst h0;have hl':N=done.len:=by simpa [Fr.len] using hl
    have hd':ks.dp=done.dp:=by simpa [Fr.dp] using hd
    have hdz:done.dp≤1000000000:=by have:=HDL.out;have:=HSZ.out;omega
    have hkz:¬(k:Int)<(N:Int):=by omega
    have HE:Hid (D=1+done.dp):=Lib.hid (by have:=HDP.out;omega);clear hkid hks ih hk hl hl' hs hsz hd hd' hdd;go_wp2_with fail
    go_ret
    exact zPz (by rw[HE.out];omega)
theorem yYv {s t:ByteArray} (h:s.data.toList=t.data.toList):s=t:=by
 apply ByteArray.ext
 exact Array.ext' h
theorem sN {x y:ByteArray} (h:x=y):(x.toList==y.toList)=true∧(x.toList != y.toList)=false:=by subst h;simp
theorem iZ {x y:ByteArray} (h:x≠y):(x.toList==y.toList)=false∧(x.toList != y.toList)=true:=by
 have:(x.toList==y.toList)=false:=by
  rw[beq_eq_false_iff_ne];intro e;rw[Lib.toList_data,Lib.toList_data] at e;exact h (yYv e)
 exact⟨this,by unfold bne;rw[this];rfl⟩
theorem yM {b:Bool} {P:Prop} (h:b=true↔P) (hn:¬P):b=false:=by cases b;rfl;exact absurd (h.1 rfl) hn
theorem zBn {b:Bool} {w:World} (h:b=false):(fun e w'=>e=Ending.returned (.bool false)∧w=w') (.returned (.bool b)) w:=⟨by rw[h],rfl⟩
theorem zXt:∀(n:Nat) (t:Tr),szT t≤n→n≤1000000000→∀(w:World) (Sq:Nat→Prop) (v:Value),InT w Sq v t→
  Calls Tryz.prog 140 #[v] w fun e w'=>e = .returned (.bool false)∧w=w'
 | 0,t,h,_,_,_,_,_=>absurd h (by unfold szT;omega)
 | n+1,(x,ks),hn,hbig,w,Sq,v,hin=>by
  have ih:=zXt n;obtain⟨q,p,A,c,rfl,hq1,c0,c1,c2,c3,c4,hc,hkid⟩:=hin.open;have HK:=Lib.hid hkid;have hsz:szT (x,ks)=1+ks.sz:=rfl;have hll:=Fr.len_le ks;rw[hsz] at hn;obtain⟨N,hN⟩:∃N,ks.len=N:=⟨_,rfl⟩;rw[hN] at c4 hll;have hN1:N≤1000000000:=by omega
  have HNN:=Lib.hid hN;have HSZ:=Lib.hid hn;clear hin hkid hc hN hsz hn
  go_enter Tryz.func140,Tryz.ntmps140
  go_wp2_with fail
  go_loop [3] (fun i=>∃(k:Nat) (done rest:Fr),i = .int .i64 k∧k=done.len∧ks=done.app rest∧Kid w Sq A rest k) (fun i=>N-(intOf i).toNat)
  case atStart=>exact⟨0,.nil,ks,rfl,rfl,rfl,HK.out⟩
  case round=>
   obtain⟨k,done,rest,rfl,hk,hks,hkid⟩:=hrel;have hl:N=done.len+rest.len:=by rw[←HNN.out,hks,Fr.len_app]
   have hs:ks.sz=done.sz+rest.sz:=by rw[hks,Fr.sz_app]
   have hsz:=HSZ.out;have HKS:=Lib.hid hks
   by_cases hlt:0<rest.len
   ·obtain⟨y,l,r,rfl⟩:=Fr.cut hlt
    obtain⟨kb,ko,u,rfl,hkb,hcell,hu,hnext⟩:=hkid.next;have hyl:szT (y,l)=1+l.sz:=rfl;have hsr:(Fr.cons y l r).sz=1+l.sz+r.sz:=rfl;have hlr:(Fr.cons y l r).len=r.len+1:=rfl;have cI:=ih (y,l) (by omega) (by omega) w Sq u hu;have HN:=Lib.hid hnext;have hkN:k<N:=by omega
    have hkz:(k:Int)<(N:Int):=by omega
    have HK1:=Lib.hid hk;clear hkid hnext hu hks ih hk hl hs hlr hsr hsz hyl
    go_wp2_with (go_at_call 140;refine cI.mono ?_;rintro e w' ⟨rfl,rfl⟩)
    go_round
    case rel=>exact⟨k+1,done.app (.cons y l .nil),r,by go_num,by rw[Fr.len_app,HK1.out];rfl,by rw[HKS.out,Fr.app_cons],HN.out⟩
    case measure=>simp[intOf];omega
   ·have h0:rest = .nil:=by
     cases rest with
     | nil=>rfl
     | cons y l r=>exact absurd (Nat.succ_pos _) hlt
    subst h0;have hl':N=done.len:=by simpa [Fr.len] using hl
    have hkz:¬(k:Int)<(N:Int):=by omega
    clear hkid hks ih hk hl hl' hs hsz;go_wp2_with fail
    go_ret
    exact zBn rfl
def Sp (w:World) (B:Nat) (v:Value) (l:List Int):Prop:=
 ∃A c,v = .slice A l.length c∧l.length≤c∧∀(j:Nat) (u:Int),l[j]? = some u→∃b o,A=some ⟨b,o,none⟩∧b<B∧w.cell? ⟨b,o+j,none⟩=some (.int .i64 u)
theorem Sp.keep {w w':World} {B B':Nat} {v:Value} {l:List Int} (h:Sp w B v l) (hB:B≤B') (hk:∀p:Addr,p.block<B→w'.cell? p=w.cell? p):Sp w' B' v l:=by
 obtain⟨A,c,hv,hlc,hc⟩:=h;refine⟨A,c,hv,hlc,fun j u hu=>?_⟩;obtain⟨b,o,hA,hlt,hcell⟩:=hc j u hu;exact⟨b,o,hA,by omega,(hk _ hlt).trans hcell⟩
theorem InF.at {w:World} {Sq:Nat→Prop}:∀{f:Fr} {b o i:Nat} {t:Tr},InF w Sq f b o→f.get i=some t→∃v,w.cell? ⟨b,o+i,none⟩=some v∧InT w Sq v t
 | .nil,_,_,_,_,_,h=>by cases h
 | .cons x k r,b,o,0,t,⟨⟨v,hv,hn⟩,_⟩,h=>by injection h with h;subst h;exact⟨v,hv,hn⟩
 | .cons x k r,b,o,i+1,t,⟨_,hr⟩,h=>by
  obtain⟨v,hv,hn⟩:=InF.at (f:=r) hr h;refine⟨v,?_,hn⟩;rw[show o+(i+1)=o+1+i by omega];exact hv
theorem yC {w w':World} {base:Nat} {e:TypeId} {size:Nat} {v:Value} {n:Nat} {xs:List Value} (h:w.ownsRow base e size v n xs) (hb:Below w.heap.size w w'):w'.ownsRow base e size v n xs:=by
 refine⟨h.1,?_⟩
 rcases h.2 with h2 | ⟨g,cap,cur,hv,hbg,hh,d⟩
 ·exact .inl h2
 ·exact .inr ⟨g,cap,cur,hv,hbg,qS hh hb,d⟩
def PtF (w:World) (S:Nat→Prop):List Value→Fr→Prop
 | [],.nil=>True
 | v::vs,.cons x ks rs=>InT w S v (x,ks)∧PtF w S vs rs
 | _,_=>False
theorem PtF.len {w:World} {S:Nat→Prop}:∀{vs:List Value} {f:Fr},PtF w S vs f→vs.length=f.len
 | [],.nil,_=>rfl
 | [],.cons _ _ _,h=>h.elim
 | _::_,.nil,h=>h.elim
 | v::vs,.cons x ks rs,h=>by simp only[List.length_cons,Fr.len,PtF.len (vs:=vs) (f:=rs) h.2]
theorem PtF.keep {w w':World} {S S':Nat→Prop} (hS:∀q,S q→S' q) (hk:∀b,S b→w'.heap[b]? = w.heap[b]?):∀{vs:List Value} {f:Fr},PtF w S vs f→PtF w' S' vs f
 | [],.nil,_=>trivial
 | [],.cons _ _ _,h=>h.elim
 | _::_,.nil,h=>h.elim
 | _::vs,.cons _ _ rs,h=>⟨h.1.keep hS hk,PtF.keep hS hk (vs:=vs) (f:=rs) h.2⟩
theorem PtF.snoc {w:World} {S:Nat→Prop} {v:Value} {t:Tr} (hv:InT w S v t):∀{vs:List Value} {f:Fr},PtF w S vs f→PtF w S (vs++[v]) (f.app (.cons t.1 t.2 .nil))
 | [],.nil,_=>⟨hv,trivial⟩
 | [],.cons _ _ _,h=>h.elim
 | _::_,.nil,h=>h.elim
 | _::vs,.cons _ _ rs,h=>⟨h.1,PtF.snoc hv (vs:=vs) (f:=rs) h.2⟩
theorem PtF.row {w:World} {S:Nat→Prop} {b:Nat}:∀{vs:List Value} {f:Fr} {o:Nat},PtF w S vs f→(∀(j:Nat) u,vs[j]? = some u→w.cell? ⟨b,o+j,none⟩=some u)→InF w S f b o
 | [],.nil,_,_,_=>trivial
 | [],.cons _ _ _,_,h,_=>h.elim
 | _::_,.nil,_,h,_=>h.elim
 | v::vs,.cons x ks rs,o,h,hc=>by
  refine⟨⟨v,by have:=hc 0 v rfl;rwa [Nat.add_zero] at this,h.1⟩,PtF.row (vs:=vs) (f:=rs) h.2 fun j u hu=>?_⟩;rw[show o+1+j=o+(j+1) by omega];exact hc (j+1) u hu
def OwnT (w:World) (base:Nat) (e:TypeId) (v:Value) (S:Nat→Prop) (f:Fr):Prop:=∃ps,w.ownsRow base e 1 v f.len ps∧PtF w S ps f
theorem OwnT.tree {w:World} {base:Nat} {e e':TypeId} {v:Value} {S:Nat→Prop} {f:Fr} {x:Nod} {b:Nat} (h:OwnT w base e v S f)
  (hb:w.heap[b]? = some (.cells #[.int .i64 x.k,.int .i64 x.n,.string x.a,.string x.m,v] e' (0,0))) (hS:S b) (hg:∀g,v.ownBlock=some g→S g):InT w S (.pointer (some ⟨b,0,none⟩)) (x,f):=by
 have c:∀i u,(#[Value.int .i64 x.k,.int .i64 x.n,.string x.a,.string x.m,v]:Array Value)[i]? = some u→w.cell? ⟨b,i,none⟩=some u:=by
  intro i u hu;rw[cell_of_row w b i _ _ _ hb];exact hu
 obtain⟨ps,ho,hp⟩:=h;have hl:=ho.1;rw[Nat.mul_one] at hl
 rcases ho.2 with ⟨hv,h0⟩ | ⟨g,cap,cur,hv,_,hh,hc,_⟩
 ·subst hv
  refine⟨b,0,none,0,rfl,hS,⟨_,_,hb⟩,c 0 _ rfl,c 1 _ rfl,c 2 _ rfl,c 3 _ rfl,?_,by simp only;omega,fun hn=>?_⟩
  ·simp only
   rw[h0];exact c 4 _ rfl
  ·simp only at hn;omega
 ·subst hv
  refine⟨b,0,some ⟨g,0,none⟩,cap,rfl,hS,⟨_,_,hb⟩,c 0 _ rfl,c 1 _ rfl,c 2 _ rfl,c 3 _ rfl,c 4 _ rfl,hc,fun _=>⟨g,0,rfl,hg g rfl,hp.row fun j u hu=>?_⟩⟩;have h1:=ho.cells (g:=g) rfl j u hu;have e1:(⟨g,0,none⟩:Addr).add j=⟨g,0+j,none⟩:=by unfold Addr.add;split<;>simp_all
  rwa [e1] at h1
def Nb (w:World) (b:Nat) (x:Nod) (v:Value):Prop:=w.heap[b]? = some (.cells #[.int .i64 x.k,.int .i64 x.n,.string x.a,.string x.m,v] 57 (0,0))
theorem Nb.cell {w:World} {b:Nat} {x:Nod} {v:Value} (h:Nb w b x v):w.cell? ⟨b,4,none⟩=some v∧w.frozen? ⟨b,4,none⟩=false:=⟨cell_of_row w b 4 _ _ _ h,frozen_of_row w b 4 _ _ h⟩
theorem Nb.far {w w4:World} {b:Nat} {x:Nod} {v:Value} {ob:Obj} (h:Nb w b x v) (hg:(w.alloc ob).grownBy w4 v.ownBlock) (hv:v.ownBlock≠some b):Nb w4 b x v:=by
 have hb:=qC h;have hasz:(w.alloc ob).heap.size=w.heap.size+1:=by simp
 exact((hg.block b (by omega) fun e=>hv e.symm).trans (((Below.refl w.heap.size w).alloc (Nat.le_refl _) ob).block b hb)).trans h
theorem Nb.store {w:World} {b:Nat} {x:Nod} {v:Value} (h:Nb w b x v) (u:Value):Nb (w.setCell ⟨b,4,none⟩ u) b x u:=by
 unfold Nb at h ⊢
 simp[World.setCell,Array.getElem?_modify,h]
theorem zC {w:World} {base:Nat} {e:TypeId} {size:Nat} {v:Value} {n:Nat} {xs:List Value} (h:w.ownsRow base e size v n xs) (a:Addr) (u:Value) (ha:∀g,v.ownBlock=some g→g≠a.block):(w.setCell a u).ownsRow base e size v n xs:=by
 refine⟨h.1,?_⟩
 rcases h.2 with h2 | ⟨g,cap,cur,hv,hbg,hh,d⟩
 ·exact .inl h2
 ·refine .inr ⟨g,cap,cur,hv,hbg,?_,d⟩
  rw[Below.heap_setCell _ _ _ _ (ha g (by rw[hv];rfl))];exact hh
theorem xM {w:World} (a p:Addr) (u:Value) (h:p.block≠a.block):(w.setCell a u).cell? p=w.cell? p:=World.cell?_of_block (Below.heap_setCell _ _ _ _ h)
theorem gZ:(Tryz.prog.info? 24).map (fun i=>(i.zero,i.size,i.bytes))=some (some (.pointer none),1,8):=by kernel_rfl
def CelAt (w:World) (B b o:Nat) (c:Cel):Prop:=
 w.cell? ⟨b,o,none⟩=some (.int .i64 c.x.k)∧w.cell? ⟨b,o+1,none⟩=some (.int .i64 c.x.n)∧w.cell? ⟨b,o+2,none⟩=some (.string c.x.a)∧w.cell? ⟨b,o+3,none⟩=some (.string c.x.m)∧
  ∃kv,w.cell? ⟨b,o+4,none⟩=some kv∧Sp w B kv c.ks
def Cls (w:World) (B:Nat) (v:Value) (cs:List Cel):Prop:=
 ∃A c,v = .slice A cs.length c∧cs.length≤c∧∀(j:Nat) (u:Cel),cs[j]? = some u→∃b o,A=some ⟨b,o,none⟩∧b<B∧CelAt w B b (o+j*5) u
theorem CelAt.keep {w w':World} {B B' b o:Nat} {c:Cel} (h:CelAt w B b o c) (hb:b<B) (hB:B≤B') (hk:∀p:Addr,p.block<B→w'.cell? p=w.cell? p):CelAt w' B' b o c:=by
 obtain⟨h0,h1,h2,h3,kv,h4,h5⟩:=h;exact⟨(hk _ hb).trans h0,(hk _ hb).trans h1,(hk _ hb).trans h2,(hk _ hb).trans h3,kv,(hk _ hb).trans h4,h5.keep hB hk⟩
theorem Cls.keep {w w':World} {B B':Nat} {v:Value} {cs:List Cel} (h:Cls w B v cs) (hB:B≤B') (hk:∀p:Addr,p.block<B→w'.cell? p=w.cell? p):Cls w' B' v cs:=by
 obtain⟨A,c,hv,hc,hcl⟩:=h;refine⟨A,c,hv,hc,fun j u hu=>?_⟩;obtain⟨b,o,hA,hb,h1⟩:=hcl j u hu;exact⟨b,o,hA,by omega,h1.keep hb hB hk⟩
theorem Cls.below {w w':World} {B:Nat} {v:Value} {cs:List Cel} (h:Cls w B v cs) (hb:Below B w w'):Cls w' B v cs:=h.keep (Nat.le_refl _) fun _ hp=>hb.cell hp
theorem Sp.slice {w:World} {B:Nat} {v:Value} {l:List Int} (h:Sp w B v l):∃A c,v = .slice A l.length c:=by
 obtain⟨A,c,hv,_⟩:=h;exact⟨A,c,hv⟩
def So (H:Nat) (w:World) (v:Value) (q:Nat):Prop:=H≤q∧q<w.heap.size∧v.ownBlock≠some q
theorem infoI:(Tryz.prog.info? 3).map (fun i=>(i.zero,i.size,i.bytes))=some (some (.int .i64 0),1,8):=by kernel_rfl
def ints (l:List Int):List Value:=l.map fun u=>.int .i64 u
def SpS (w:World) (S:Nat→Prop) (v:Value) (l:List Int):Prop:=
 ∃A c,v = .slice A l.length c∧l.length≤c∧∀(j:Nat) (u:Int),l[j]? = some u→∃b o,A=some ⟨b,o,none⟩∧S b∧w.cell? ⟨b,o+j,none⟩=some (.int .i64 u)
theorem SpS.keep {w w':World} {S S':Nat→Prop} {v:Value} {l:List Int} (h:SpS w S v l) (hS:∀q,S q→S' q) (hk:∀b,S b→w'.heap[b]? = w.heap[b]?):SpS w' S' v l:=by
 obtain⟨A,c,hv,hc,hl⟩:=h;refine⟨A,c,hv,hc,fun j u hu=>?_⟩;obtain⟨b,o,hA,hb,hcell⟩:=hl j u hu;exact⟨b,o,hA,hS b hb,(World.cell?_of_block (w:=w) (hk b hb)).trans hcell⟩
theorem SpS.sp {w:World} {S:Nat→Prop} {B:Nat} {v:Value} {l:List Int} (h:SpS w S v l) (hB:Bel S B):Sp w B v l:=by
 obtain⟨A,c,hv,hc,hl⟩:=h;refine⟨A,c,hv,hc,fun j u hu=>?_⟩;obtain⟨b,o,hA,hb,hcell⟩:=hl j u hu;exact⟨b,o,hA,hB b hb,hcell⟩
theorem SpS.one {w:World} {S:Nat→Prop} {v:Value} {l:List Int} (h:SpS w S v l):v.oneCell'=true:=by
 obtain⟨A,c,rfl,_⟩:=h
 rfl
theorem zBo {l:List Int} {j:Nat} {u:Int} (h:l[j]? = some u):(ints l)[j]? = some (.int .i64 u):=by
 unfold ints;rw[List.getElem?_map,h]
 rfl
theorem SpS.own {w:World} {S:Nat→Prop} {B:Nat} {v:Value} {l:List Int} {e:TypeId} (h:w.ownsRow B e 1 v l.length (ints l)) (hS:∀g,v.ownBlock=some g→S g):SpS w S v l:=by
 rcases h.2 with ⟨rfl,h0⟩ | ⟨g,cap,cur,rfl,_,_,hc,_⟩
 ·have:l=[]:=List.length_eq_zero_iff.1 h0
  subst this;exact⟨none,0,rfl,Nat.le_refl _,fun j u hu=>by simp at hu⟩
 ·refine⟨_,cap,rfl,hc,fun j u hu=>⟨g,0,rfl,hS g rfl,?_⟩⟩
  have h1:=h.cells (g:=g) rfl j _ (zBo hu);have e1:(⟨g,0,none⟩:Addr).add j=⟨g,0+j,none⟩:=by unfold Addr.add;split<;>simp_all
  rwa [e1] at h1
def flat:List Cel→List Value→List Value
 | [],_=>[]
 | _::_,[]=>[]
 | c::cs,kv::vs=>.int .i64 c.x.k :: .int .i64 c.x.n :: .string c.x.a :: .string c.x.m::kv::flat cs vs
def CsF (w:World) (S:Nat→Prop):List Value→List Cel→Prop
 | [],[]=>True
 | kv::vs,c::cs=>SpS w S kv c.ks∧CsF w S vs cs
 | _,_=>False
theorem CsF.len {w:World} {S:Nat→Prop}:∀{vs:List Value} {cs:List Cel},CsF w S vs cs→vs.length=cs.length
 | [],[],_=>rfl
 | [],_::_,h=>h.elim
 | _::_,[],h=>h.elim
 | _::vs,_::cs,h=>by simp only[List.length_cons,CsF.len (vs:=vs) (cs:=cs) h.2]
theorem CsF.keep {w w':World} {S S':Nat→Prop} (hS:∀q,S q→S' q) (hk:∀b,S b→w'.heap[b]? = w.heap[b]?):∀{vs:List Value} {cs:List Cel},CsF w S vs cs→CsF w' S' vs cs
 | [],[],_=>trivial
 | [],_::_,h=>h.elim
 | _::_,[],h=>h.elim
 | _::vs,_::cs,h=>⟨h.1.keep hS hk,CsF.keep hS hk (vs:=vs) (cs:=cs) h.2⟩
theorem CsF.app {w:World} {S:Nat→Prop}:∀{vs us:List Value} {cs ds:List Cel},CsF w S vs cs→CsF w S us ds→CsF w S (vs++us) (cs++ds)
 | [],_,[],_,_,h=>h
 | [],_,_::_,_,h,_=>h.elim
 | _::_,_,[],_,h,_=>h.elim
 | _::vs,_,_::cs,_,h,h'=>⟨h.1,CsF.app (vs:=vs) (cs:=cs) h.2 h'⟩
theorem nC:∀{cs:List Cel} {vs:List Value} (ds:List Cel) (us:List Value),vs.length=cs.length→flat (cs++ds) (vs++us)=flat cs vs++flat ds us
 | [],[],_,_,_=>rfl
 | [],_::_,_,_,h=>by simp at h
 | _::_,[],_,_,h=>by simp at h
 | c::cs,v::vs,ds,us,h=>by
  simp only[List.cons_append,flat,nC (cs:=cs) (vs:=vs) ds us (by simpa using h)]
theorem zUc:∀{cs:List Cel} {vs:List Value},vs.length=cs.length→(flat cs vs).length=cs.length*5
 | [],_,_=>rfl
 | _::_,[],h=>by simp at h
 | c::cs,v::vs,h=>by simp only[flat,List.length_cons,zUc (cs:=cs) (vs:=vs) (by simpa using h)];omega
theorem CsF.one {w:World} {S:Nat→Prop}:∀{vs:List Value} {cs:List Cel},CsF w S vs cs→∀u∈flat cs vs,u.oneCell'=true
 | [],[],_,u,hu=>by cases hu
 | [],_::_,h,_,_=>h.elim
 | _::_,[],h,_,_=>h.elim
 | v::vs,c::cs,h,u,hu=>by
  unfold flat at hu;simp only[List.mem_cons] at hu
  rcases hu with rfl | rfl | rfl | rfl | rfl | hu
  ·rfl
  ·rfl
  ·rfl
  ·rfl
  ·exact h.1.one
  ·exact CsF.one (vs:=vs) (cs:=cs) h.2 u hu
theorem CsF.at {w:World} {S:Nat→Prop}:∀{vs:List Value} {cs:List Cel} {j:Nat} {c:Cel},CsF w S vs cs→cs[j]? = some c→∃kv,SpS w S kv c.ks∧(flat cs vs)[j*5]? = some (.int .i64 c.x.k)∧(flat cs vs)[j*5+1]? = some (.int .i64 c.x.n)∧(flat cs vs)[j*5+2]? = some (.string c.x.a)∧
  (flat cs vs)[j*5+3]? = some (.string c.x.m)∧(flat cs vs)[j*5+4]? = some kv
 | [],[],_,_,_,h=>by simp at h
 | [],_::_,_,_,h,_=>h.elim
 | _::_,[],_,_,h,_=>h.elim
 | v::vs,c'::cs,0,c,h,hc=>by
  simp at hc
  subst hc;exact⟨v,h.1,rfl,rfl,rfl,rfl,rfl⟩
 | v::vs,c'::cs,j+1,c,h,hc=>by
  obtain⟨kv,h0,h1,h2,h3,h4,h5⟩:=CsF.at (vs:=vs) (cs:=cs) (j:=j) (c:=c) h.2 (by simpa using hc);have e:∀i,(flat (c'::cs) (v::vs))[(j+1)*5+i]? = (flat cs vs)[j*5+i]?:=by
   intro i;rw[show(j+1)*5+i=(j*5+i)+1+1+1+1+1 by omega];simp only[flat,List.getElem?_cons_succ]
  exact⟨kv,h0,(e 0).trans h1,(e 1).trans h2,(e 2).trans h3,(e 3).trans h4,(e 4).trans h5⟩
def OwnC (w:World) (H:Nat) (v:Value) (cs:List Cel):Prop:=∃vs,w.ownsRow H 78 5 v cs.length (flat cs vs)∧CsF w (So H w v) vs cs
theorem OwnC.cls {w:World} {H:Nat} {v:Value} {cs:List Cel} (h:OwnC w H v cs):Cls w w.heap.size v cs:=by
 obtain⟨vs,ho,hf⟩:=h
 rcases ho.2 with ⟨rfl,h0⟩ | ⟨g,cap,cur,rfl,_,hh,hc,_⟩
 ·have:cs=[]:=List.length_eq_zero_iff.1 h0
  subst this;exact⟨none,0,rfl,Nat.le_refl _,fun j u hu=>by simp at hu⟩
 ·refine⟨_,cap,rfl,hc,fun j u hu=>⟨g,0,rfl,qC hh,?_⟩⟩
  obtain⟨kv,h0,h1,h2,h3,h4,h5⟩:=hf.at hu;have hcell:∀i u,(flat cs vs)[i]? = some u→w.cell? ⟨g,i,none⟩=some u:=fun i u hu=>by
   have h1:=ho.cells (g:=g) rfl i u hu;have e1:(⟨g,0,none⟩:Addr).add i=⟨g,i,none⟩:=by unfold Addr.add;split<;>simp_all
   rwa [e1] at h1
  rw[Nat.zero_add];exact⟨hcell _ _ h1,hcell _ _ h2,hcell _ _ h3,hcell _ _ h4,kv,hcell _ _ h5,h0.sp fun q hq=>hq.2.1⟩
theorem aZ:(Tryz.prog.info? 78).map (fun i=>(i.zero,i.size,i.bytes))=some (some (.agg #[.int .i64 0,.int .i64 0,.string ⟨#[]⟩,.string ⟨#[]⟩,.slice none 0 0]),5,72):=by kernel_rfl
def yWj (cs:List Cel) (W:World) (e:Ending) (w':World):Prop:=∃v,e = .returned v∧OwnC w' W.heap.size v cs∧Below W.heap.size W w'
theorem vY (w:World) (o1 o2 o3:Obj) {H:Nat} (hH:w.heap.size=H):(((w.alloc o1).alloc o2).alloc o3).heap[H]? = some o1∧(((w.alloc o1).alloc o2).alloc o3).heap[H+1]? = some o2∧(((w.alloc o1).alloc o2).alloc o3).heap[H+2]? = some o3∧
  Below H w (((w.alloc o1).alloc o2).alloc o3)∧(((w.alloc o1).alloc o2).alloc o3).heap.size=H+3:=by
 have s1:(w.alloc o1).heap.size=H+1:=by simp;omega
 have s2:((w.alloc o1).alloc o2).heap.size=H+2:=by simp;omega
 have a1:(w.alloc o1).heap[H]? = some o1:=by rw[←hH];exact heap_alloc_new w o1
 have a2:((w.alloc o1).alloc o2).heap[H+1]? = some o2:=by rw[←s1];exact heap_alloc_new _ o2
 have a3:(((w.alloc o1).alloc o2).alloc o3).heap[H+2]? = some o3:=by rw[←s2];exact heap_alloc_new _ o3
 refine⟨?_,?_,a3,((((Below.refl H w).alloc (by omega) o1).alloc (by omega) o2).alloc (by omega) o3),by simp;omega⟩
 ·rw[Below.heap_alloc _ _ _ (by omega),Below.heap_alloc _ _ _ (by omega)];exact a1
 ·rw[Below.heap_alloc _ _ _ (by omega)];exact a2
end Go.Proofs.YtbpijnalmakfaaaGreatDoor
