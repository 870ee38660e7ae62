/-
  Plain definitions, without the program: trees as forests; their size, depth, cells, paths; what stands at a path, and what is put there; what a list of cells is the tree of.
-/
import Derived.Below
import Derived.BigQuiet
import Derived.Deep.AppendLies
import Derived.Deep.DeepMust
import Derived.Deep.QuietTactic
import Derived.Deep.RegionHeld3
import Derived.Deep.RegionLaw
import Derived.Laws.Rows
import Derived.Lib.Hide
import Derived.Lib.OthersKept
import Derived.Lib.Strings
import Derived.Maps.AppendAt
import Derived.Outline
import Derived.OwnWalk
import Derived.Test.YtgeghilbikljcaaGreatDoorRows
import Derived.WalkKit
import Derived.WalkLawsBesides
import Derived.WalkSmall
import Derived.WalkSpells
namespace Go.Proofs.YtgeghilbikljcaaGreatDoor
structure Nod where
 k:Int
 n:Int
 a:ByteArray
 m:ByteArray
inductive Fr where
 | nil:Fr
 | cons (x:Nod) (ks:Fr) (rs:Fr):Fr
abbrev Tr:=Nod×Fr
def Fr.len:Fr->Nat
 | .nil=>0
 | .cons _ _ r=>r.len+1
def Fr.sz:Fr->Nat
 | .nil=>0
 | .cons _ k r=>1+k.sz+r.sz
def Fr.dp:Fr->Nat
 | .nil=>0
 | .cons _ k r=>max (1+k.dp) r.dp
def szT (t:Tr):Nat:=1+t.2.sz
def dpT (t:Tr):Nat:=1+t.2.dp
def szO:Option Tr->Nat
 | none=>0
 | some t=>szT t
def dpO:Option Tr->Nat
 | none=>0
 | some t=>dpT t
def Fr.app:Fr->Fr->Fr
 | .nil,b=>b
 | .cons x k r,b=>.cons x k (r.app b)
def Fr.get:Fr->Nat->Option Tr
 | .nil,_=>none
 | .cons x k _,0=>some (x,k)
 | .cons _ _ r,i+1=>r.get i
theorem Fr.len_le (f:Fr):f.len<=f.sz:=by
 induction f with
 | nil=>exact Nat.le_refl _
 | cons x k r _ ih=>unfold Fr.len Fr.sz;omega
theorem Fr.dp_le (f:Fr):f.dp<=f.sz:=by
 induction f with
 | nil=>exact Nat.le_refl _
 | cons x k r ihk ihr=>unfold Fr.dp Fr.sz;omega
theorem Fr.len_app (a b:Fr):(a.app b).len=a.len+b.len:=by
 induction a with
 | nil=>simp[Fr.app,Fr.len]
 | cons x k r _ ih=>simp only[Fr.app,Fr.len,ih];omega
theorem Fr.sz_app (a b:Fr):(a.app b).sz=a.sz+b.sz:=by
 induction a with
 | nil=>simp[Fr.app,Fr.sz]
 | cons x k r _ ih=>simp only[Fr.app,Fr.sz,ih];omega
theorem Fr.dp_app (a b:Fr):(a.app b).dp=max a.dp b.dp:=by
 induction a with
 | nil=>simp[Fr.app,Fr.dp]
 | cons x k r _ ih=>simp only[Fr.app,Fr.dp,ih];omega
theorem Fr.app_assoc (a b c:Fr):(a.app b).app c=a.app (b.app c):=by
 induction a with
 | nil=>rfl
 | cons x k r _ ih=>simp only[Fr.app,ih]
theorem Fr.app_nil (a:Fr):a.app .nil=a:=by
 induction a with
 | nil=>rfl
 | cons x k r _ ih=>simp only[Fr.app,ih]
theorem Fr.get_some {f:Fr} {i:Nat} (h:i<f.len):∃t,f.get i=some t:=by
 induction f generalizing i with
 | nil=>exact absurd h (Nat.not_lt_zero _)
 | cons x k r _ ih=>
  cases i with
  | zero=>exact⟨_,rfl⟩
  | succ i=>exact ih (Nat.lt_of_succ_lt_succ h)
structure Cel where
 x:Nod
 ks:List Int
def rowOf:List Tr->Fr
 | []=>.nil
 | t::r=>.cons t.1 t.2 (rowOf r)
def nod0:Nod:=⟨0,0,⟨#[]⟩,⟨#[]⟩⟩
def cel (cs:List Cel) (i:Nat):Cel:=cs.getD i ⟨nod0,[]⟩
def gr (cs:List Cel):Nat->Nat->Tr
 | 0,i=>((cel cs i).x,.nil)
 | f+1,i=>((cel cs i).x,rowOf ((cel cs i).ks.map fun x=>gr cs f x.toNat))
end Go.Proofs.YtgeghilbikljcaaGreatDoor
namespace Go.Proofs.YtgeghilbikljcaaGreatDoor
open Go.RowKit
theorem chn {w w1 w2:World} (h:Below w.heap.size w w1) (h':Below w1.heap.size w1 w2):Below w.heap.size w w2:=h.trans (h'.mono h.size)
theorem yS {a b:Int} (h:a=b):Value.int .i64 a = .int .i64 b:=by rw[h]
theorem tZ {a b:Int} (h:a=b):Ending.returned (.int .i64 b) = .returned (.int .i64 a):=by rw[h]
theorem kP {a b:Bool} (h:a=b):Ending.returned (.bool b) = .returned (.bool a):=by rw[h]
theorem qE {B:Nat} {a w:World} (h:Below B a w) (n:Nat):Below B a (w.drewN n):=h.trans ⟨rfl,rfl,rfl,Nat.le_refl _,fun _ _=>rfl⟩
theorem zQ {w:World} {a:Addr} {v:Value} (h:w.cell? a=some v):a.block<w.heap.size:=by
 rcases Nat.lt_or_ge a.block w.heap.size with h' | h'
 ·exact h'
 ·simp[World.cell?,Array.getElem?_eq_none h'] at h
theorem qC {w:World} {g:Nat} {o:Obj} (h:w.heap[g]? = some o):g<w.heap.size:=by
 rcases Nat.lt_or_ge g w.heap.size with h' | h'
 ·exact h'
 ·rw[Array.getElem?_eq_none h'] at h;cases h
theorem zH {w w':World} {g:Nat} {o:Obj} (h:w.heap[g]? = some o) (hb:Below w.heap.size w w'):w'.heap[g]? = some o:=(hb.block g (qC h)).trans h
def Pln (w:World) (b:Nat):Prop:=∃cs e,w.heap[b]? = some (.cells cs e (0,0))
def Nd (w:World) (S:Nat->Prop) (v:Value) (x:Nod) (n:Nat) (K:Nat->Nat->Prop):Prop:=
 ∃q p A c,v = .pointer (some ⟨q,p,none⟩)/\S q/\Pln w q/\w.cell? ⟨q,p,none⟩=some (.int .i64 x.k)/\w.cell? ⟨q,p+1,none⟩=some (.int .i64 x.n)/\w.cell? ⟨q,p+2,none⟩=some (.string x.a)/\
  w.cell? ⟨q,p+3,none⟩=some (.string x.m)/\w.cell? ⟨q,p+4,none⟩=some (.slice A n c)/\n<=c/\(0<n->∃kb ko,A=some ⟨kb,ko,none⟩/\S kb/\K kb ko)
def InF (w:World) (S:Nat->Prop):Fr->Nat->Nat->Prop
 | .nil,_,_=>True
 | .cons x ks rs,b,o=>(∃v,w.cell? ⟨b,o,none⟩=some v/\Nd w S v x ks.len (InF w S ks))/\InF w S rs b (o+1)
def InT (w:World) (S:Nat->Prop) (v:Value) (t:Tr):Prop:=Nd w S v t.1 t.2.len (InF w S t.2)
def InO (w:World) (S:Nat->Prop) (v:Value):Option Tr->Prop
 | none=>v = .pointer none
 | some t=>InT w S v t
theorem InF.keep {w w':World} {S S':Nat->Prop} {t:Fr} (hS:∀q,S q->S' q) (hk:∀b,S b->w'.heap[b]? = w.heap[b]?):∀{b o:Nat},S b->InF w S t b o->InF w' S' t b o:=by
 induction t with
 | nil=>intro b o _ _;trivial
 | cons x ks rs ihk ihr=>
  intro b o hb h;have hk':=fun(p:Addr) (hp:S p.block)=>World.cell?_of_block (w:=w) (w':=w') (hk p.block hp)
  obtain⟨⟨v,hv,q,p,A,c,e,hq,⟨xs,te,hx⟩,h0,h1,h2,h3,h4,hc,hkids⟩,hr⟩:=h;refine⟨⟨v,(hk' ⟨b,o,none⟩ hb).trans hv,q,p,A,c,e,hS q hq,⟨xs,te,(hk q hq).trans hx⟩,(hk' ⟨q,p,none⟩ hq).trans h0,(hk' ⟨q,p+1,none⟩ hq).trans h1,(hk' ⟨q,p+2,none⟩ hq).trans h2,(hk' ⟨q,p+3,none⟩ hq).trans h3,(hk' ⟨q,p+4,none⟩ hq).trans h4,hc,fun hn=>?_⟩,ihr hb hr⟩;obtain⟨kb,ko,hA,h5,h7⟩:=hkids hn;exact⟨kb,ko,hA,hS kb h5,ihk h5 h7⟩
theorem InT.keep {w w':World} {S S':Nat->Prop} {v:Value} {t:Tr} (h:InT w S v t) (hS:∀q,S q->S' q) (hk:∀b,S b->w'.heap[b]? = w.heap[b]?):InT w' S' v t:=by
 have hk':=fun(p:Addr) (hp:S p.block)=>World.cell?_of_block (w:=w) (w':=w') (hk p.block hp)
 obtain⟨q,p,A,c,e,hq,⟨xs,te,hx⟩,h0,h1,h2,h3,h4,hc,hkids⟩:=h;refine⟨q,p,A,c,e,hS q hq,⟨xs,te,(hk q hq).trans hx⟩,(hk' ⟨q,p,none⟩ hq).trans h0,(hk' ⟨q,p+1,none⟩ hq).trans h1,(hk' ⟨q,p+2,none⟩ hq).trans h2,(hk' ⟨q,p+3,none⟩ hq).trans h3,(hk' ⟨q,p+4,none⟩ hq).trans h4,hc,fun hn=>?_⟩;obtain⟨kb,ko,hA,h5,h7⟩:=hkids hn;exact⟨kb,ko,hA,hS kb h5,InF.keep hS hk h5 h7⟩
def Bel (S:Nat->Prop) (B:Nat):Prop:=∀q,S q->q<B
theorem InT.below {w w':World} {S:Nat->Prop} {B:Nat} {v:Value} {t:Tr} (h:InT w S v t) (hS:Bel S B) (hb:Below B w w'):InT w' S v t:=h.keep (fun _ h=>h) fun _ hp=>hb.block _ (hS _ hp)
theorem InO.keep {w w':World} {S S':Nat->Prop} {v:Value} {t:Option Tr} (h:InO w S v t) (hS:∀q,S q->S' q) (hk:∀b,S b->w'.heap[b]? = w.heap[b]?):InO w' S' v t:=by
 cases t with
 | none=>exact h
 | some t=>exact InT.keep h hS hk
def Kid (w:World) (S:Nat->Prop) (A:Option Addr) (rest:Fr) (i:Nat):Prop:=0<rest.len->∃kb ko,A=some ⟨kb,ko,none⟩/\S kb/\InF w S rest kb (ko+i)
theorem Kid.next {w:World} {S:Nat->Prop} {A:Option Addr} {x:Nod} {k r:Fr} {i:Nat} (h:Kid w S A (.cons x k r) i) :
  ∃kb ko v,A=some ⟨kb,ko,none⟩/\S kb/\w.cell? ⟨kb,ko+i,none⟩=some v/\InT w S v (x,k)/\Kid w S A r (i+1):=by
 obtain⟨kb,ko,hA,h1,⟨v,hv,hn⟩,hr⟩:=h (Nat.succ_pos _);exact⟨kb,ko,v,hA,h1,hv,hn,fun _=>⟨kb,ko,hA,h1,hr⟩⟩
theorem Kid.keep {w w':World} {S S':Nat->Prop} {A:Option Addr} {r:Fr} {i:Nat} (h:Kid w S A r i) (hS:∀q,S q->S' q) (hk:∀b,S b->w'.heap[b]? = w.heap[b]?):Kid w' S' A r i:=by
 intro h0;obtain⟨kb,ko,hA,h1,h3⟩:=h h0;exact⟨kb,ko,hA,hS kb h1,InF.keep hS hk h1 h3⟩
theorem Fr.cut {f:Fr} (h:0<f.len):∃x k r,f = .cons x k r:=by
 cases f with
 | nil=>exact absurd h (Nat.lt_irrefl _)
 | cons x k r=>exact⟨x,k,r,rfl⟩
theorem Fr.app_cons (a:Fr) (x:Nod) (k r:Fr):a.app (.cons x k r)=(a.app (.cons x k .nil)).app r:=by rw[Fr.app_assoc];rfl
theorem InT.open {w:World} {S:Nat->Prop} {v:Value} {x:Nod} {ks:Fr} (h:InT w S v (x,ks)) :
  ∃q p A c,v = .pointer (some ⟨q,p,none⟩)/\S q/\w.cell? ⟨q,p,none⟩=some (.int .i64 x.k)/\w.cell? ⟨q,p+1,none⟩=some (.int .i64 x.n)/\w.cell? ⟨q,p+2,none⟩=some (.string x.a)/\
  w.cell? ⟨q,p+3,none⟩=some (.string x.m)/\w.cell? ⟨q,p+4,none⟩=some (.slice A ks.len c)/\ks.len<=c/\Kid w S A ks 0:=by
 obtain⟨q,p,A,c,hv,hq,_,h⟩:=h;exact⟨q,p,A,c,hv,hq,h⟩
theorem InT.ptr {w:World} {S:Nat->Prop} {v:Value} {t:Tr} (h:InT w S v t):∃q p,v = .pointer (some ⟨q,p,none⟩):=by
 obtain⟨q,p,_,_,hv,_⟩:=h;exact⟨q,p,hv⟩
theorem InT.drew {w:World} {S:Nat->Prop} {v:Value} {t:Tr} (h:InT w S v t) (q:Nat):InT (w.drewN q) S v t:=h.keep (fun _ h=>h) fun _ _=>rfl
theorem xC {w w':World} {base:Nat} {e:TypeId} {size:Nat} {v:Value} {n:Nat} {xs:List Value} (h:w.ownsRow base e size v n xs) (hb:Below w.heap.size w w'):w'.ownsRow base e size v n xs:=by
 refine⟨h.1,?_⟩
 rcases h.2 with h2 | ⟨g,cap,cur,hv,hbg,hh,d⟩
 ·exact .inl h2
 ·exact .inr ⟨g,cap,cur,hv,hbg,zH hh hb,d⟩
def PtF (w:World) (S:Nat->Prop):List Value->Fr->Prop
 | [],.nil=>True
 | v::vs,.cons x ks rs=>InT w S v (x,ks)/\PtF w S vs rs
 | _,_=>False
theorem PtF.len {w:World} {S:Nat->Prop}:∀{vs:List Value} {f:Fr},PtF w S vs f->vs.length=f.len
 | [],.nil,_=>rfl
 | [],.cons _ _ _,h=>h.elim
 | _::_,.nil,h=>h.elim
 | v::vs,.cons x ks rs,h=>by simp only[List.length_cons,Fr.len,PtF.len (vs:=vs) (f:=rs) h.2]
theorem PtF.keep {w w':World} {S S':Nat->Prop} (hS:∀q,S q->S' q) (hk:∀b,S b->w'.heap[b]? = w.heap[b]?):∀{vs:List Value} {f:Fr},PtF w S vs f->PtF w' S' vs f
 | [],.nil,_=>trivial
 | [],.cons _ _ _,h=>h.elim
 | _::_,.nil,h=>h.elim
 | _::vs,.cons _ _ rs,h=>⟨h.1.keep hS hk,PtF.keep hS hk (vs:=vs) (f:=rs) h.2⟩
theorem PtF.snoc {w:World} {S:Nat->Prop} {v:Value} {t:Tr} (hv:InT w S v t):∀{vs:List Value} {f:Fr},PtF w S vs f->PtF w S (vs++[v]) (f.app (.cons t.1 t.2 .nil))
 | [],.nil,_=>⟨hv,trivial⟩
 | [],.cons _ _ _,h=>h.elim
 | _::_,.nil,h=>h.elim
 | _::vs,.cons _ _ rs,h=>⟨h.1,PtF.snoc hv (vs:=vs) (f:=rs) h.2⟩
theorem PtF.row {w:World} {S:Nat->Prop} {b:Nat}:∀{vs:List Value} {f:Fr} {o:Nat},PtF w S vs f->(∀(j:Nat) u,vs[j]? = some u->w.cell? ⟨b,o+j,none⟩=some u)->InF w S f b o
 | [],.nil,_,_,_=>trivial
 | [],.cons _ _ _,_,h,_=>h.elim
 | _::_,.nil,_,h,_=>h.elim
 | v::vs,.cons x ks rs,o,h,hc=>by
  refine⟨⟨v,by have:=hc 0 v rfl;rwa [Nat.add_zero] at this,h.1⟩,PtF.row (vs:=vs) (f:=rs) h.2 fun j u hu=>?_⟩;rw[show o+1+j=o+(j+1) by omega];exact hc (j+1) u hu
def OwnT (w:World) (base:Nat) (e:TypeId) (v:Value) (S:Nat->Prop) (f:Fr):Prop:=∃ps,w.ownsRow base e 1 v f.len ps/\PtF w S ps f
theorem OwnT.nil (w:World) (base:Nat) (e:TypeId) (S:Nat->Prop):OwnT w base e (.slice none 0 0) S .nil:=⟨[],World.ownsRow_nil _ _ _ _,trivial⟩
theorem OwnT.tree {w:World} {base:Nat} {e e':TypeId} {v:Value} {S:Nat->Prop} {f:Fr} {x:Nod} {b:Nat} (h:OwnT w base e v S f)
  (hb:w.heap[b]? = some (.cells #[.int .i64 x.k,.int .i64 x.n,.string x.a,.string x.m,v] e' (0,0))) (hS:S b) (hg:∀g,v.ownBlock=some g->S g):InT w S (.pointer (some ⟨b,0,none⟩)) (x,f):=by
 have c:∀i u,(#[Value.int .i64 x.k,.int .i64 x.n,.string x.a,.string x.m,v]:Array Value)[i]? = some u->w.cell? ⟨b,i,none⟩=some u:=by
  intro i u hu;rw[cell_of_row w b i _ _ _ hb];exact hu
 obtain⟨ps,ho,hp⟩:=h;have hl:=ho.1;rw[Nat.mul_one] at hl
 rcases ho.2 with ⟨hv,h0⟩ | ⟨g,cap,cur,hv,_,hh,hc,_⟩
 ·subst hv
  refine⟨b,0,none,0,rfl,hS,⟨_,_,hb⟩,c 0 _ rfl,c 1 _ rfl,c 2 _ rfl,c 3 _ rfl,?_,by simp only;omega,fun hn=>?_⟩
  ·simp only
   rw[h0];exact c 4 _ rfl
  ·simp only at hn;omega
 ·subst hv
  refine⟨b,0,some ⟨g,0,none⟩,cap,rfl,hS,⟨_,_,hb⟩,c 0 _ rfl,c 1 _ rfl,c 2 _ rfl,c 3 _ rfl,c 4 _ rfl,hc,fun _=>⟨g,0,rfl,hg g rfl,hp.row fun j u hu=>?_⟩⟩;have h1:=ho.cells (g:=g) rfl j u hu;have e1:(⟨g,0,none⟩:Addr).add j=⟨g,0+j,none⟩:=by unfold Addr.add;split<;>simp_all
  rwa [e1] at h1
def Nb (w:World) (b:Nat) (x:Nod) (v:Value):Prop:=w.heap[b]? = some (.cells #[.int .i64 x.k,.int .i64 x.n,.string x.a,.string x.m,v] 44 (0,0))
theorem Nb.cell {w:World} {b:Nat} {x:Nod} {v:Value} (h:Nb w b x v):w.cell? ⟨b,4,none⟩=some v/\w.frozen? ⟨b,4,none⟩=false:=⟨cell_of_row w b 4 _ _ _ h,frozen_of_row w b 4 _ _ h⟩
theorem Nb.far {w w4:World} {b:Nat} {x:Nod} {v:Value} {ob:Obj} (h:Nb w b x v) (hg:(w.alloc ob).grownBy w4 v.ownBlock) (hv:v.ownBlock≠some b):Nb w4 b x v:=by
 have hb:=qC h;have hasz:(w.alloc ob).heap.size=w.heap.size+1:=by simp
 exact((hg.block b (by omega) fun e=>hv e.symm).trans (((Below.refl w.heap.size w).alloc (Nat.le_refl _) ob).block b hb)).trans h
theorem Nb.store {w:World} {b:Nat} {x:Nod} {v:Value} (h:Nb w b x v) (u:Value):Nb (w.setCell ⟨b,4,none⟩ u) b x u:=by
 unfold Nb at h ⊢
 simp[World.setCell,Array.getElem?_modify,h]
theorem yF {w:World} {base:Nat} {e:TypeId} {size:Nat} {v:Value} {n:Nat} {xs:List Value} (h:w.ownsRow base e size v n xs) (a:Addr) (u:Value) (ha:∀g,v.ownBlock=some g->g≠a.block):(w.setCell a u).ownsRow base e size v n xs:=by
 refine⟨h.1,?_⟩
 rcases h.2 with h2 | ⟨g,cap,cur,hv,hbg,hh,d⟩
 ·exact .inl h2
 ·refine .inr ⟨g,cap,cur,hv,hbg,?_,d⟩
  rw[Below.heap_setCell _ _ _ _ (ha g (by rw[hv];rfl))];exact hh
theorem yJ {w:World} (a p:Addr) (u:Value) (h:p.block≠a.block):(w.setCell a u).cell? p=w.cell? p:=World.cell?_of_block (Below.heap_setCell _ _ _ _ h)
theorem nI:(Tryz.prog.info? 24).map (fun i=>(i.zero,i.size,i.bytes))=some (some (.pointer none),1,8):=by kernel_rfl
theorem nJ (w:World) (o1 o2 o3:Obj) {H:Nat} (hH:w.heap.size=H):(((w.alloc o1).alloc o2).alloc o3).heap[H]? = some o1/\(((w.alloc o1).alloc o2).alloc o3).heap[H+1]? = some o2/\(((w.alloc o1).alloc o2).alloc o3).heap[H+2]? = some o3/\
  Below H w (((w.alloc o1).alloc o2).alloc o3)/\(((w.alloc o1).alloc o2).alloc o3).heap.size=H+3:=by
 have s1:(w.alloc o1).heap.size=H+1:=by simp;omega
 have s2:((w.alloc o1).alloc o2).heap.size=H+2:=by simp;omega
 have a1:(w.alloc o1).heap[H]? = some o1:=by rw[<- hH];exact heap_alloc_new w o1
 have a2:((w.alloc o1).alloc o2).heap[H+1]? = some o2:=by rw[<- s1];exact heap_alloc_new _ o2
 have a3:(((w.alloc o1).alloc o2).alloc o3).heap[H+2]? = some o3:=by rw[<- s2];exact heap_alloc_new _ o3
 refine⟨?_,?_,a3,((((Below.refl H w).alloc (by omega) o1).alloc (by omega) o2).alloc (by omega) o3),by simp;omega⟩
 ·rw[Below.heap_alloc _ _ _ (by omega),Below.heap_alloc _ _ _ (by omega)];exact a1
 ·rw[Below.heap_alloc _ _ _ (by omega)];exact a2
def Up (W w:World):Prop:=Below W.heap.size W w
theorem Up.refl (W:World):Up W W:=Below.refl _ _
theorem Up.trans {W a b:World} (h:Up W a) (k:Up a b):Up W b:=Below.trans h (Below.mono k h.size)
theorem Up.of {W a b:World} (h:Up W a) (k:Below a.heap.size a b):Up W b:=h.trans k
theorem Up.drew {W a:World} (h:Up W a):Up W a.drew:=Below.drew h
theorem Up.drewN {W a:World} (h:Up W a) (q:Nat):Up W (a.drewN q):=qE h q
theorem Up.alloc {W a:World} (h:Up W a) (o:Obj):Up W (a.alloc o):=Below.alloc h h.size o
theorem Up.cell {W a:World} (h:Up W a) {p:Addr} {v:Value} (k:W.cell? p=some v):a.cell? p=some v:=(Below.cell h (zQ k)).trans k
theorem Up.row {W a:World} (h:Up W a) {b:Nat} {o:Obj} (k:W.heap[b]? = some o):a.heap[b]? = some o:=(h.block b (qC k)).trans k
def HasT (w:World) (v:Value) (o:Option Tr):Prop:=InO w (fun q=>q<w.heap.size) v o
theorem HasT.up {W w:World} {v:Value} {o:Option Tr} (h:HasT W v o) (u:Up W w):HasT w v o:=InO.keep h (fun _ hq=>Nat.lt_of_lt_of_le hq u.size) fun b hb=>u.block b hb
theorem HasT.bel {w:World}:Bel (fun q=>q<w.heap.size) w.heap.size:=fun _ h=>h
structure Upw (W:World) where
 w:World
 h:Up W w
instance (W:World):Nonempty (Upw W):=⟨⟨W,Up.refl W⟩⟩
theorem Upw.cell {W:World} {p:Addr} {v:Value} (k:W.cell? p=some v) (u:Upw W):u.w.cell? p=some v:=u.h.cell k
theorem Calls.upw {P:Program} {f:FuncId} {args:Array Value} {W:World} {u:Upw W} {v:Value} (h:Calls P f args u.w fun e w'=>e = .returned v/\Up W w') :
  Calls P f args u.w fun e w''=>e = .returned v/\∃u':Upw W,w''=u'.w:=h.mono fun _ w' ⟨he,hu⟩=>⟨he,⟨w',hu⟩,rfl⟩
theorem jA {P:Program} {id:Nat} {Q:Exit->Act->World->Prop} {a:Act} {W w:World} {l:List Oper} (hu:Up W w) (hm:P.follows .mixedOrders=true) (hB:Region.lexB .any l.toArray=true)
  (h:wpQuiet P l.toArray (fun w'=>∃u:Upw W,w'=u.w) (fun a'=>∀w',(∃u:Upw W,w'=u.w)->Q .normal a' w') l a):(Code.region id l.toArray true).wp P Q a w:=
 wp_region_quiet (C:=fun w'=>∃u:Upw W,w'=u.w) hm hB ⟨⟨_,hu.drew⟩,rfl⟩ (by simpa using h)
def BoP (b:Bool) (W:World) (e:Ending) (w':World):Prop:=e = .returned (.bool b)/\Up W w'
def NuP (n:Nat) (W:World) (e:Ending) (w':World):Prop:=e = .returned (.int .i64 (n:Int))/\Up W w'
end Go.Proofs.YtgeghilbikljcaaGreatDoor
namespace Go.Proofs.YtgeghilbikljcaaGreatDoor
structure Rw where
 cat:Int
 kind:Int
 nm:List UInt8
 mr:List UInt8
 fr:Int
 toF:Int
 ks:List UInt8
def RWS:List Rw:=[
 ⟨1,1,[],[],0,0,[]⟩,⟨1,2,[],[],0,0,[]⟩,⟨1,3,[],[],0,0,[]⟩,⟨1,4,[108],[],0,0,[]⟩,
 ⟨1,5,[],[],0,0,[116,116]⟩,⟨1,6,[],[],0,0,[116,116]⟩,⟨1,7,[110],[],0,0,[67]⟩,
 ⟨2,20,[],[],-1073741824,1073741824,[]⟩,⟨2,21,[],[],0,1,[]⟩,⟨2,22,[],[],0,0,[]⟩,⟨2,23,[108],[],0,0,[]⟩,
 ⟨2,24,[110],[],0,0,[116,101]⟩,⟨2,25,[],[],0,0,[101,101]⟩,⟨2,26,[],[],0,0,[101,101]⟩,⟨2,27,[],[],0,0,[101]⟩,
 ⟨2,28,[],[],0,0,[101]⟩,⟨2,29,[110],[],0,0,[101,101]⟩,⟨2,30,[],[],0,0,[101,101,101]⟩,⟨2,31,[],[],1,5,[101,101]⟩,
 ⟨2,32,[],[],0,0,[101,65]⟩,⟨2,33,[],[],0,0,[101,116,65]⟩,
 ⟨3,40,[],[],0,0,[42,105]⟩,⟨3,41,[108],[],0,0,[]⟩,⟨3,42,[110],[],0,0,[109]⟩,⟨3,43,[],[],0,1,[109,115]⟩,
 ⟨4,50,[],[],0,0,[42,112]⟩,⟨4,51,[110],[],0,0,[]⟩,⟨4,52,[108],[],0,0,[115,116]⟩,
 ⟨5,60,[110],[],0,0,[116]⟩,⟨5,61,[110],[],0,0,[116]⟩,⟨5,61,[110],[],0,0,[]⟩,⟨5,62,[110],[],0,0,[67]⟩,
 ⟨5,63,[110],[],0,0,[115]⟩,⟨5,64,[],[],0,0,[115]⟩,⟨5,65,[108],[108],0,0,[]⟩,
 ⟨6,70,[110],[],0,0,[101]⟩,⟨6,70,[110],[],0,0,[116,101]⟩,⟨6,71,[110],[],0,0,[116]⟩,⟨6,72,[110],[],0,0,[67]⟩,
 ⟨6,73,[110],[],0,0,[109]⟩,⟨6,74,[110],[],0,0,[115]⟩,⟨6,75,[110],[110],0,0,[115,109]⟩,⟨6,76,[108],[],0,0,[]⟩,⟨6,77,[108],[],0,0,[]⟩,
 ⟨7,80,[],[],0,0,[42,100]⟩,
 ⟨8,8,[110],[],0,0,[116]⟩,⟨9,34,[110],[110],0,0,[101]⟩]
def isEmp (s:ByteArray):Bool:=decide (s.size=0)
def wordR (nk lg:ByteArray->Bool) (s:ByteArray) (w:List UInt8):Bool:=if w=[110] then nk s else if w=[108] then lg s else isEmp s
def catOf (c:UInt8):Int:=if c=116 then 1 else if c=101 then 2 else if c=109 then 3 else if c=115 then 4 else if c=112 then 5 else 6
structure Inf where
 k:Int
 a:ByteArray
 is:Int->Bool
def jT:List Inf->Bool
 | []=>true
 | i::l=>l.all (fun j=>decide (i.a≠j.a))&&jT l
def seqOk:List Inf->List UInt8->Bool
 | l,[]=>l.isEmpty
 | l,c::r=>
  if c=42 then l.all fun i=>i.is (catOf (r.headD 0)) && !(decide (r.headD 0=105)&&(decide (i.k=74)||decide (i.k=75)))
  else if c=67 then !l.isEmpty&&(l.all fun i=>i.is 8)&&jT l
  else if c=65 then !l.isEmpty&&l.all fun i=>i.is 9
  else match l with
   | []=>false
   | i::t=>i.is (catOf c)&&seqOk t r
def fitR (nk lg:ByteArray->Bool) (x:Nod) (l:List Inf) (c:Int) (r:Rw):Bool:=
 decide (r.cat=c)&&decide (r.kind=x.k)&&wordR nk lg x.a r.nm&&wordR nk lg x.m r.mr&&decide (r.fr<=x.n)&&decide (x.n<=r.toF)&&seqOk l r.ks
def isX (nk lg:ByteArray->Bool) (x:Nod) (l:List Inf) (c:Int):Bool:=RWS.any (fitR nk lg x l c)
def infF (nk lg:ByteArray->Bool):Fr->List Inf
 | .nil=>[]
 | .cons x k r=>⟨x.k,x.a,isX nk lg x (infF nk lg k)⟩::infF nk lg r
def isT (nk lg:ByteArray->Bool) (t:Tr) (c:Int):Bool:=isX nk lg t.1 (infF nk lg t.2) c
def infT (nk lg:ByteArray->Bool) (t:Tr):Inf:=⟨t.1.k,t.1.a,isT nk lg t⟩
section
variable {nk lg:ByteArray->Bool}
theorem xZ (f:Fr):(infF nk lg f).length=f.len:=by
 induction f with
 | nil=>rfl
 | cons x k r _ ih=>simp only[infF,List.length_cons,Fr.len,ih]
theorem rW (a b:Fr):infF nk lg (a.app b)=infF nk lg a++infF nk lg b:=by
 induction a with
 | nil=>rfl
 | cons x k r _ ih=>simp only[Fr.app,infF,ih,List.cons_append]
theorem zE {x:Nod} {l:List Inf} {c:Int}:isX nk lg x l c=true↔∃r∈RWS,fitR nk lg x l c r=true:=by
 unfold isX;rw[List.any_eq_true]
theorem zG {x:Nod} {l:List Inf} {c:Int} {r:Rw}:fitR nk lg x l c r=true↔r.cat=c/\r.kind=x.k/\wordR nk lg x.a r.nm=true/\wordR nk lg x.m r.mr=true/\r.fr<=x.n/\x.n<=r.toF/\seqOk l r.ks=true:=by
 unfold fitR;simp only[Bool.and_eq_true,decide_eq_true_iff,and_assoc]
end
structure Tk where
 k:Int
 s:ByteArray
abbrev Rs (α:Type):=(α×Nat) ⊕ (Nat×Int)
def kInt:ByteArray:=⟨#[105,110,116]⟩
def kBool:ByteArray:=⟨#[98,111,111,108]⟩
def kUnit:ByteArray:=⟨#[117,110,105,116]⟩
def kOpen:ByteArray:=⟨#[40]⟩
def kShut:ByteArray:=⟨#[41]⟩
def kMu:ByteArray:=⟨#[109,117]⟩
def kLeft:ByteArray:=⟨#[123]⟩
def xO:ByteArray:=⟨#[125]⟩
def kOf:ByteArray:=⟨#[111,102]⟩
def kBar:ByteArray:=⟨#[124]⟩
def kQ:ByteArray:=⟨#[45,62]⟩
def kStar:ByteArray:=⟨#[42]⟩
def nob:ByteArray:=⟨#[]⟩
def key (l:List Tk) (i:Nat) (x:ByteArray):Bool:=match l[i]? with
 | some t=>decide (t.k=3)&&decide (t.s=x)
 | none=>false
def nam (p:ByteArray->Bool) (l:List Tk) (i:Nat):Option ByteArray:=match l[i]? with
 | some t=>if decide (t.k=1)&&p t.s then some t.s else none
 | none=>none
def nd (k:Int) (a:ByteArray) (ks:Fr):Tr:=(⟨k,0,a,nob⟩,ks)
def fr1 (a:Tr):Fr:=.cons a.1 a.2 .nil
def fr2 (a b:Tr):Fr:=.cons a.1 a.2 (fr1 b)
def hasN:Fr->ByteArray->Bool
 | .nil,_=>false
 | .cons x _ r,s=>decide (x.a=s)||hasN r s
section
variable (nk lg:ByteArray->Bool)
mutual
def typF:Nat->List Tk->Nat->Rs Tr
 | 0,_,i=>.inr (i,6)
 | n+1,l,i=>match prodF n l i with
  | .inr e=>.inr e
  | .inl (a,j)=>if key l j kQ then (match typF n l (j+1) with
   | .inr e=>.inr e
   | .inl (b,m)=>.inl (nd 5 nob (fr2 a b),m)) else .inl (a,j)
def prodF:Nat->List Tk->Nat->Rs Tr
 | 0,_,i=>.inr (i,6)
 | n+1,l,i=>match atomF n l i with
  | .inr e=>.inr e
  | .inl (a,j)=>if key l j kStar then (match prodF n l (j+1) with
   | .inr e=>.inr e
   | .inl (b,m)=>.inl (nd 6 nob (fr2 a b),m)) else .inl (a,j)
def atomF:Nat->List Tk->Nat->Rs Tr
 | 0,_,i=>.inr (i,6)
 | n+1,l,i=>match nam lg l i with
  | some s=>.inl (nd 4 s .nil,i+1)
  | none=>
   if key l i kInt then .inl (nd 1 nob .nil,i+1)
   else if key l i kBool then .inl (nd 2 nob .nil,i+1)
   else if key l i kUnit then .inl (nd 3 nob .nil,i+1)
   else if key l i kOpen then (match typF n l (i+1) with
    | .inr e=>.inr e
    | .inl (t,j)=>if key l j kShut then .inl (t,j+1) else .inr (j,6))
   else if key l i kMu then (match nam nk l (i+1) with
    | none=>.inr (i+1,6)
    | some s=>if key l (i+2) kLeft then (match consF n l (i+3) .nil with
     | .inr e=>.inr e
     | .inl (c,j)=>if key l j xO then .inl (nd 7 s c,j+1) else .inr (j,6)) else .inr (i+2,6))
   else .inr (i,6)
def consF:Nat->List Tk->Nat->Fr->Rs Fr
 | 0,_,i,_=>.inr (i,6)
 | n+1,l,i,acc=>match nam nk l i with
  | none=>.inr (i,6)
  | some s=>if hasN acc s then .inr (i,9) else if key l (i+1) kOf then (match typF n l (i+2) with
   | .inr e=>.inr e
   | .inl (t,j)=>if key l j kBar then consF n l (j+1) (acc.app (fr1 (nd 8 s (fr1 t)))) else .inl (acc.app (fr1 (nd 8 s (fr1 t))),j)) else .inr (i+1,6)
end
end
section
variable {nk lg:ByteArray->Bool}
theorem zU {l:List Tk} {i:Nat} {x:ByteArray} (h:key l i x=true):i<l.length:=by
 unfold key at h
 split at h
 ·rename_i t ht
  exact(List.getElem?_eq_some_iff.1 ht).1
 ·cases h
theorem oG {p:ByteArray->Bool} {l:List Tk} {i:Nat} {s:ByteArray} (h:nam p l i=some s):i<l.length:=by
 unfold nam at h
 split at h
 ·rename_i t ht
  exact(List.getElem?_eq_some_iff.1 ht).1
 ·cases h
def Ahead {α:Type} (i:Nat):Rs α->Prop
 | .inl (_,j)=>i<j
 | .inr (p,_)=>i<=p
theorem xD (l:List Tk):∀(n:Nat),(∀i,Ahead i (typF nk lg n l i))/\(∀i,Ahead i (prodF nk lg n l i))/\(∀i,Ahead i (atomF nk lg n l i))/\(∀i acc,Ahead i (consF nk lg n l i acc))
 | 0=>⟨fun i=>by unfold typF;exact Nat.le_refl _,fun i=>by unfold prodF;exact Nat.le_refl _,fun i=>by unfold atomF;exact Nat.le_refl _,fun i _=>by unfold consF;exact Nat.le_refl _⟩
 | n+1=>by
  obtain⟨hT,hP,hA,hC⟩:=xD l n;refine⟨fun i=>?_,fun i=>?_,fun i=>?_,fun i acc=>?_⟩
  ·have h1:=hP i
   unfold typF
   cases h:prodF nk lg n l i with
   | inr e=>rw[h] at h1;exact h1
   | inl r=>
    obtain⟨a,j⟩:=r;rw[h] at h1;have h1:i<j:=h1;have h2:=hT (j+1);simp only
    split
    ·cases h':typF nk lg n l (j+1) with
     | inr e=>rw[h'] at h2;have h2:j+1<=e.1:=h2;show i<=e.1;omega
     | inl r=>rw[h'] at h2;have h2:j+1<r.2:=h2;show i<r.2;omega
    ·exact h1
  ·have h1:=hA i
   unfold prodF
   cases h:atomF nk lg n l i with
   | inr e=>rw[h] at h1;exact h1
   | inl r=>
    obtain⟨a,j⟩:=r;rw[h] at h1;have h1:i<j:=h1;have h2:=hP (j+1);simp only
    split
    ·cases h':prodF nk lg n l (j+1) with
     | inr e=>rw[h'] at h2;have h2:j+1<=e.1:=h2;show i<=e.1;omega
     | inl r=>rw[h'] at h2;have h2:j+1<r.2:=h2;show i<r.2;omega
    ·exact h1
  ·have h1:=hT (i+1)
   have h2:=hC (i+3) .nil;unfold atomF
   split
   ·show i<i+1;omega
   ·split
    ·show i<i+1;omega
    ·split
     ·show i<i+1;omega
     ·split
      ·show i<i+1;omega
      ·split
       ·cases h:typF nk lg n l (i+1) with
        | inr e=>rw[h] at h1;have h1:i+1<=e.1:=h1;show i<=e.1;omega
        | inl r=>
         rw[h] at h1;have h1:i+1<r.2:=h1;simp only
         split
         ·show i<r.2+1;omega
         ·show i<=r.2;omega
       ·split
        ·split
         ·show i<=i+1;omega
         ·split
          ·cases h:consF nk lg n l (i+3) .nil with
           | inr e=>rw[h] at h2;have h2:i+3<=e.1:=h2;show i<=e.1;omega
           | inl r=>
            rw[h] at h2;have h2:i+3<r.2:=h2;simp only
            split
            ·show i<r.2+1;omega
            ·show i<=r.2;omega
          ·show i<=i+2;omega
        ·exact Nat.le_refl _
  ·have h1:=hT (i+2)
   unfold consF
   split
   ·exact Nat.le_refl _
   ·split
    ·exact Nat.le_refl _
    ·split
     ·cases h:typF nk lg n l (i+2) with
      | inr e=>rw[h] at h1;have h1:i+2<=e.1:=h1;show i<=e.1;omega
      | inl r=>
       rw[h] at h1;have h1:i+2<r.2:=h1;simp only
       split
       ·have h2:=hC (r.2+1) (acc.app (fr1 (nd 8 ‹ByteArray› (fr1 r.1))))
        cases h':consF nk lg n l (r.2+1) (acc.app (fr1 (nd 8 ‹ByteArray› (fr1 r.1)))) with
        | inr e=>rw[h'] at h2;have h2:r.2+1<=e.1:=h2;show i<=e.1;omega
        | inl q=>rw[h'] at h2;have h2:r.2+1<q.2:=h2;show i<q.2;omega
       ·show i<r.2;omega
     ·show i<=i+1;omega
def typS (m:ByteArray) (k:Int) (l:List Tk) (r:Rs Tr) (T:Nat->Rs Tr):Rs Tr:=match r with
 | .inr e=>.inr e
 | .inl (a,j)=>if key l j m then (match T (j+1) with
  | .inr e=>.inr e
  | .inl (b,q)=>.inl (nd k nob (fr2 a b),q)) else .inl (a,j)
def atomS (nk lg:ByteArray->Bool) (l:List Tk) (i:Nat) (T:Nat->Rs Tr) (C:Nat->Fr->Rs Fr):Rs Tr:=match nam lg l i with
 | some s=>.inl (nd 4 s .nil,i+1)
 | none=>
  if key l i kInt then .inl (nd 1 nob .nil,i+1)
  else if key l i kBool then .inl (nd 2 nob .nil,i+1)
  else if key l i kUnit then .inl (nd 3 nob .nil,i+1)
  else if key l i kOpen then (match T (i+1) with
   | .inr e=>.inr e
   | .inl (t,j)=>if key l j kShut then .inl (t,j+1) else .inr (j,6))
  else if key l i kMu then (match nam nk l (i+1) with
   | none=>.inr (i+1,6)
   | some s=>if key l (i+2) kLeft then (match C (i+3) .nil with
    | .inr e=>.inr e
    | .inl (c,j)=>if key l j xO then .inl (nd 7 s c,j+1) else .inr (j,6)) else .inr (i+2,6))
  else .inr (i,6)
def consS (nk:ByteArray->Bool) (l:List Tk) (i:Nat) (acc:Fr) (T:Nat->Rs Tr) (C:Nat->Fr->Rs Fr):Rs Fr:=match nam nk l i with
 | none=>.inr (i,6)
 | some s=>if hasN acc s then .inr (i,9) else if key l (i+1) kOf then (match T (i+2) with
  | .inr e=>.inr e
  | .inl (t,j)=>if key l j kBar then C (j+1) (acc.app (fr1 (nd 8 s (fr1 t)))) else .inl (acc.app (fr1 (nd 8 s (fr1 t))),j)) else .inr (i+1,6)
theorem sD (n:Nat) (l:List Tk) (i:Nat):typF nk lg (n+1) l i=typS kQ 5 l (prodF nk lg n l i) (typF nk lg n l):=by rw[typF];rfl
theorem gK (n:Nat) (l:List Tk) (i:Nat):prodF nk lg (n+1) l i=typS kStar 6 l (atomF nk lg n l i) (prodF nk lg n l):=by rw[prodF];rfl
theorem gL (n:Nat) (l:List Tk) (i:Nat):atomF nk lg (n+1) l i=atomS nk lg l i (typF nk lg n l) (consF nk lg n l):=by rw[atomF];rfl
theorem gM (n:Nat) (l:List Tk) (i:Nat) (acc:Fr):consF nk lg (n+1) l i acc=consS nk l i acc (typF nk lg n l) (consF nk lg n l):=by rw[consF];rfl
theorem eD {m:ByteArray} {k:Int} {l:List Tk} {r:Rs Tr} {T T':Nat->Rs Tr} (h:∀a j,r = .inl (a,j)->key l j m=true->T (j+1)=T' (j+1)):typS m k l r T=typS m k l r T':=by
 unfold typS
 cases r with
 | inr e=>rfl
 | inl r=>
  obtain⟨a,j⟩:=r;simp only
  split
  ·rw[h a j rfl ‹_›]
  ·rfl
theorem zW4 {l:List Tk} {i:Nat} {T T':Nat->Rs Tr} {C C':Nat->Fr->Rs Fr} (h1:i<l.length->T (i+1)=T' (i+1)) (h2:i+2<l.length->C (i+3) .nil=C' (i+3) .nil):atomS nk lg l i T C=atomS nk lg l i T' C':=by
 unfold atomS
 split
 ·rfl
 ·split
  ·rfl
  ·split
   ·rfl
   ·split
    ·rfl
    ·split
     ·rename_i hk
      rw[h1 (zU hk)]
     ·split
      ·split
       ·rfl
       ·split
        ·rename_i hk
         rw[h2 (zU hk)]
        ·rfl
      ·rfl
theorem zW5 {l:List Tk} {i:Nat} {acc:Fr} {T T':Nat->Rs Tr} {C C':Nat->Fr->Rs Fr} (h1:i+1<l.length->T (i+2)=T' (i+2)) (h2:∀t j a,T' (i+2) = .inl (t,j)->j<l.length->C (j+1) a=C' (j+1) a):consS nk l i acc T C=consS nk l i acc T' C':=by
 unfold consS
 split
 ·rfl
 ·split
  ·rfl
  ·split
   ·rename_i hk
    rw[h1 (zU hk)]
    cases h:T' (i+2) with
    | inr e=>rfl
    | inl r=>
     obtain⟨t,j⟩:=r;simp only
     split
     ·rename_i hk
      exact h2 t j _ h (zU hk)
     ·rfl
   ·rfl
theorem fN (l:List Tk):∀(n:Nat),(∀i,4*(l.length-i)+3<=n->typF nk lg (n+1) l i=typF nk lg n l i)/\(∀i,4*(l.length-i)+2<=n->prodF nk lg (n+1) l i=prodF nk lg n l i)/\
  (∀i,4*(l.length-i)+1<=n->atomF nk lg (n+1) l i=atomF nk lg n l i)/\(∀i acc,4*(l.length-i)+4<=n->consF nk lg (n+1) l i acc=consF nk lg n l i acc)
 | 0=>⟨fun i h=>by omega,fun i h=>by omega,fun i h=>by omega,fun i _ h=>by omega⟩
 | n+1=>by
  obtain⟨hT,hP,hA,hC⟩:=fN l n;obtain⟨aT,aP,aA,aC⟩:=xD (nk:=nk) (lg:=lg) l n;refine⟨fun i hi=>?_,fun i hi=>?_,fun i hi=>?_,fun i acc hi=>?_⟩
  ·rw[sD (n+1),sD n,hP i (by omega)]
   refine eD fun a j h hk=>hT _ ?_
   have h1:=aP i;rw[h] at h1;have h1:i<j:=h1;have:=zU hk;omega
  ·rw[gK (n+1),gK n,hA i (by omega)]
   refine eD fun a j h hk=>hP _ ?_
   have h1:=aA i;rw[h] at h1;have h1:i<j:=h1;have:=zU hk;omega
  ·rw[gL (n+1),gL n]
   exact zW4 (fun h=>hT _ (by omega)) (fun h=>hC _ _ (by omega))
  ·rw[gM (n+1),gM n]
   refine zW5 (fun h=>hT _ (by omega)) fun t j a h hj=>hC _ _ ?_
   have h1:=aT (i+2);rw[h] at h1;have h1:i+2<j:=h1;omega
theorem sE {l:List Tk} {i n:Nat} (h:4*(l.length-i)+3<=n):∀d,typF nk lg (n+d) l i=typF nk lg n l i
 | 0=>rfl
 | d+1=>by rw[<- Nat.add_assoc,(fN l (n+d)).1 i (by omega),sE h d]
theorem rX {l:List Tk} {i n:Nat} (h:4*(l.length-i)+2<=n):∀d,prodF nk lg (n+d) l i=prodF nk lg n l i
 | 0=>rfl
 | d+1=>by rw[<- Nat.add_assoc,(fN l (n+d)).2.1 i (by omega),rX h d]
theorem rZ {l:List Tk} {i n:Nat} (h:4*(l.length-i)+1<=n):∀d,atomF nk lg (n+d) l i=atomF nk lg n l i
 | 0=>rfl
 | d+1=>by rw[<- Nat.add_assoc,(fN l (n+d)).2.2.1 i (by omega),rZ h d]
theorem dB {l:List Tk} {i n:Nat} {acc:Fr} (h:4*(l.length-i)+4<=n):∀d,consF nk lg (n+d) l i acc=consF nk lg n l i acc
 | 0=>rfl
 | d+1=>by rw[<- Nat.add_assoc,(fN l (n+d)).2.2.2 i acc (by omega),dB h d]
end
section
variable (nk lg:ByteArray->Bool)
def typL (l:List Tk) (i:Nat):Rs Tr:=typF nk lg (4*l.length+8) l i
def prodL (l:List Tk) (i:Nat):Rs Tr:=prodF nk lg (4*l.length+8) l i
def atomL (l:List Tk) (i:Nat):Rs Tr:=atomF nk lg (4*l.length+8) l i
def consL (l:List Tk) (i:Nat) (acc:Fr):Rs Fr:=consF nk lg (4*l.length+8) l i acc
end
section
variable {nk lg:ByteArray->Bool}
theorem zUn (l:List Tk) (i:Nat):typL nk lg l i=typS kQ 5 l (prodL nk lg l i) (typL nk lg l):=by
 have h:typL nk lg l i=typF nk lg (4*l.length+8+1) l i:=(sE (by omega) 1).symm;rw[h,sD]
 rfl
theorem zZl (l:List Tk) (i:Nat):prodL nk lg l i=typS kStar 6 l (atomL nk lg l i) (prodL nk lg l):=by
 have h:prodL nk lg l i=prodF nk lg (4*l.length+8+1) l i:=(rX (by omega) 1).symm;rw[h,gK]
 rfl
theorem yK (l:List Tk) (i:Nat):atomL nk lg l i=atomS nk lg l i (typL nk lg l) (consL nk lg l):=by
 have h:atomL nk lg l i=atomF nk lg (4*l.length+8+1) l i:=(rZ (by omega) 1).symm;rw[h,gL]
 rfl
theorem vZ (l:List Tk) (i:Nat) (acc:Fr):consL nk lg l i acc=consS nk l i acc (typL nk lg l) (consL nk lg l):=by
 have h:consL nk lg l i acc=consF nk lg (4*l.length+8+1) l i acc:=(dB (by omega) 1).symm;rw[h,gM]
 rfl
theorem wR (l:List Tk) (i:Nat):Ahead i (typL nk lg l i):=(xD l _).1 i
theorem vG (l:List Tk) (i:Nat):Ahead i (prodL nk lg l i):=(xD l _).2.1 i
theorem vH (l:List Tk) (i:Nat):Ahead i (atomL nk lg l i):=(xD l _).2.2.1 i
theorem zZm (l:List Tk) (i:Nat) (acc:Fr):Ahead i (consL nk lg l i acc):=(xD l _).2.2.2 i acc
end
end Go.Proofs.YtgeghilbikljcaaGreatDoor
namespace Go.Proofs.YtgeghilbikljcaaGreatDoor
section
variable {nk lg:ByteArray->Bool}
def pl {α:Type}:Rs α->Nat
 | .inl (_,j)=>j
 | .inr (p,_)=>p
def BadOk {α:Type} (N:Nat) (R:Rs α):Prop:=∀p e,R = .inr (p,e)->e=6\/(e=9/\p<N)
structure St {α:Type} (N:Nat) (R R':Rs α):Prop where
 le:pl R<=N
 same:pl R<N->R'=R
 more:N<=pl R->N<=pl R'
 bad:BadOk N R
theorem St.at {α:Type} {N i:Nat} (h:i<=N):St (α:=α) N (.inr (i,6)) (.inr (i,6)):=⟨h,fun _=>rfl,fun h=>h,fun p e he=>by injection he with he;injection he with h1 h2;exact .inl h2.symm⟩
theorem St.yes {α:Type} {N i:Nat} (a:α) (h:i<=N):St N (.inl (a,i)) (.inl (a,i)):=⟨h,fun _=>rfl,fun h=>h,fun p e he=>by cases he⟩
theorem St.err {α β:Type} {N:Nat} {p q:Nat×Int} (h:St (α:=α) N (.inr p) (.inr q)):St (α:=β) N (.inr p) (.inr q):=
 ⟨h.le,fun hp=>by have:=h.same hp;injection this with this;rw[this],h.more,fun p' e he=>h.bad p' e (by injection he with he;rw[he])⟩
theorem St.end {α:Type} {N:Nat} {R R':Rs α} (h1:pl R=N) (h2:N<=pl R') (h3:BadOk N R):St N R R':=⟨by omega,fun h=>by omega,fun _=>h2,h3⟩
theorem lH {α:Type} {N:Nat} (r:α×Nat):BadOk (α:=α) N (.inl r):=fun p e h=>by cases h
theorem eE {α:Type} {N i:Nat}:BadOk (α:=α) N (.inr (i,6)):=fun p e he=>by injection he with he;injection he with h1 h2;exact .inl h2.symm
theorem wS {α β:Type} {N:Nat} {p:Nat×Int} (h:BadOk (α:=α) N (.inr p)):BadOk (α:=β) N (.inr p):=fun p' e he=>h p' e (by injection he with he;rw[he])
theorem xH {l m:List Tk} {i:Nat} {x:ByteArray} (h:i<l.length):key (l++m) i x=key l i x:=by
 unfold key;rw[List.getElem?_append_left h]
theorem kJ {l:List Tk} {i:Nat} {x:ByteArray} (h:l.length<=i):key l i x=false:=by
 unfold key;rw[List.getElem?_eq_none h]
theorem oH {p:ByteArray->Bool} {l m:List Tk} {i:Nat} (h:i<l.length):nam p (l++m) i=nam p l i:=by
 unfold nam;rw[List.getElem?_append_left h]
theorem nK {p:ByteArray->Bool} {l:List Tk} {i:Nat} (h:l.length<=i):nam p l i=none:=by
 unfold nam;rw[List.getElem?_eq_none h]
theorem wB {α:Type} {i:Nat} {R:Rs α} (h:Ahead i R):i<=pl R:=by
 cases R with
 | inl r=>exact Nat.le_of_lt h
 | inr r=>exact h
theorem zH4 {m:ByteArray} {k:Int} {l:List Tk} {r:Rs Tr} {T:Nat->Rs Tr} (hT:∀j,j<=pl (T j)):pl r<=pl (typS m k l r T):=by
 unfold typS
 cases r with
 | inr e=>exact Nat.le_refl _
 | inl r=>
  obtain⟨a,j⟩:=r;simp only
  split
  ·have:=hT (j+1)
   cases h:T (j+1) with
   | inr e=>rw[h] at this;have this:j+1<=e.1:=this;show j<=e.1;omega
   | inl q=>rw[h] at this;have this:j+1<=q.2:=this;show j<=q.2;omega
  ·exact Nat.le_refl _
theorem zUo {m:ByteArray} {k:Int} {l x:List Tk} {r r':Rs Tr} {T T':Nat->Rs Tr} (hr:St l.length r r') (hT:∀j,j<=l.length->St l.length (T j) (T' j)) (hT':∀j,j<=pl (T' j)) :
  St l.length (typS m k l r T) (typS m k (l++x) r' T'):=by
 by_cases hlt:pl r<l.length
 ·rw[hr.same hlt]
  cases r with
  | inr e=>exact⟨hr.le,fun _=>rfl,fun h=>h,wS hr.bad⟩
  | inl r=>
   obtain⟨a,j⟩:=r;have hlt:j<l.length:=hlt;unfold typS;simp only[xH hlt]
   split
   ·have h:=hT (j+1) hlt
    cases h1:T (j+1) with
    | inr e=>
     rw[h1] at h
     cases h2:T' (j+1) with
     | inr e'=>rw[h2] at h;exact h.err
     | inl q=>
      rw[h2] at h;refine⟨h.le,fun hp=>?_,h.more,wS h.bad⟩;have:=h.same hp
      cases this
    | inl q=>
     rw[h1] at h
     cases h2:T' (j+1) with
     | inr e'=>
      rw[h2] at h;refine⟨h.le,fun hp=>?_,h.more,lH _⟩;have:=h.same hp
      cases this
     | inl q'=>
      rw[h2] at h;refine⟨h.le,fun hp=>?_,h.more,lH _⟩;have:=h.same hp;injection this with this;rw[this]
   ·exact St.yes a (by omega)
 ·have he:pl r=l.length:=by have:=hr.le;omega
  have h2:l.length<=pl r':=hr.more (by omega);have h3:l.length<=pl (typS m k (l++x) r' T'):=Nat.le_trans h2 (zH4 hT')
  cases r with
  | inr e=>exact St.end he h3 (wS hr.bad)
  | inl r=>
   obtain⟨a,j⟩:=r;have he:j=l.length:=he;have:typS m k l (.inl (a,j)) T = .inl (a,j):=by
    unfold typS;simp only;rw[kJ (by omega)]
    rfl
   rw[this];exact St.end he h3 (lH _)
theorem zNi {l:List Tk} {i:Nat} {T:Nat->Rs Tr} {C:Nat->Fr->Rs Fr} (hT:∀j,j<=pl (T j)) (hC:∀j a,j<=pl (C j a)):i<=pl (atomS nk lg l i T C):=by
 have h1:=hT (i+1);have h2:=hC (i+3) .nil;unfold atomS
 split
 ·exact Nat.le_succ i
 ·split
  ·exact Nat.le_succ i
  ·split
   ·exact Nat.le_succ i
   ·split
    ·exact Nat.le_succ i
    ·split
     ·cases h:T (i+1) with
      | inr e=>rw[h] at h1;have h1:i+1<=e.1:=h1;show i<=e.1;omega
      | inl r=>
       rw[h] at h1;have h1:i+1<=r.2:=h1;simp only
       split
       ·show i<=r.2+1;omega
       ·show i<=r.2;omega
     ·split
      ·split
       ·exact Nat.le_succ i
       ·split
        ·cases h:C (i+3) .nil with
         | inr e=>rw[h] at h2;have h2:i+3<=e.1:=h2;show i<=e.1;omega
         | inl r=>
          rw[h] at h2;have h2:i+3<=r.2:=h2;simp only
          split
          ·show i<=r.2+1;omega
          ·show i<=r.2;omega
        ·show i<=i+2;omega
      ·exact Nat.le_refl i
def shutS {α:Type} (l:List Tk) (x:ByteArray) (g:α->Tr) (R:Rs α):Rs Tr:=match R with
 | .inr e=>.inr e
 | .inl (t,j)=>if key l j x then .inl (g t,j+1) else .inr (j,6)
theorem dC {α:Type} {l:List Tk} {x:ByteArray} {g:α->Tr} {R:Rs α}:pl R<=pl (shutS l x g R):=by
 unfold shutS
 cases R with
 | inr e=>exact Nat.le_refl _
 | inl r=>
  simp only
  split
  ·exact Nat.le_succ _
  ·exact Nat.le_refl _
theorem zZn {α:Type} {l m:List Tk} {x:ByteArray} {g:α->Tr} {R R':Rs α} (h:St l.length R R'):St l.length (shutS l x g R) (shutS (l++m) x g R'):=by
 by_cases hlt:pl R<l.length
 ·rw[h.same hlt]
  cases R with
  | inr e=>exact⟨h.le,fun _=>rfl,fun h=>h,wS h.bad⟩
  | inl r=>
   obtain⟨a,j⟩:=r;have hlt:j<l.length:=hlt;unfold shutS;simp only[xH hlt]
   split
   ·exact St.yes _ hlt
   ·exact St.at (by omega)
 ·have he:pl R=l.length:=by have:=h.le;omega
  have h3:l.length<=pl (shutS (l++m) x g R'):=Nat.le_trans (h.more (by omega)) dC
  cases R with
  | inr e=>exact St.end he h3 (wS h.bad)
  | inl r=>
   obtain⟨a,j⟩:=r;have he:j=l.length:=he;have:shutS l x g (.inl (a,j)) = .inr (j,6):=by
    unfold shutS;simp only;rw[kJ (by omega)]
    rfl
   rw[this];exact St.end he h3 eE
theorem zNj {l x:List Tk} {i:Nat} {T T':Nat->Rs Tr} {C C':Nat->Fr->Rs Fr} (hi:i<=l.length) (hT:∀j,j<=l.length->St l.length (T j) (T' j)) (hC:∀j a,j<=l.length->St l.length (C j a) (C' j a)) (hT':∀j,j<=pl (T' j)) (hC':∀j a,j<=pl (C' j a)) :
  St l.length (atomS nk lg l i T C) (atomS nk lg (l++x) i T' C'):=by
 by_cases hlt:i<l.length
 ·unfold atomS
  rw[oH hlt,xH hlt,xH hlt,xH hlt,xH hlt,xH hlt]
  split
  ·exact St.yes _ hlt
  ·split
   ·exact St.yes _ hlt
   ·split
    ·exact St.yes _ hlt
    ·split
     ·exact St.yes _ hlt
     ·split
      ·have h:=zZn (m:=x) (x:=kShut) (g:=fun t=>t) (hT (i+1) hlt)
       revert h
       cases T (i+1)<;>cases T' (i+1)<;>exact fun h=>h
      ·split
       ·by_cases h1:i+1<l.length
        ·rw[oH h1]
         split
         ·exact St.at hlt
         ·rename_i s hs
          by_cases h2:i+2<l.length
          ·rw[xH h2]
           split
           ·have h:=zZn (m:=x) (x:=xO) (g:=fun c=>nd 7 s c) (hC (i+3) .nil h2)
            revert h
            cases C (i+3) .nil<;>cases C' (i+3) .nil<;>exact fun h=>h
           ·exact St.at (by omega)
          ·rw[kJ (i:=i+2) (by omega)]
           refine St.end (by show i+2=_;omega) ?_ eE
           split
           ·have h:=Nat.le_trans (hC' (i+3) .nil) (dC (l:=l++x) (x:=xO) (g:=fun c=>nd 7 s c))
            have h3:l.length<=i+3:=by omega
            revert h
            cases C' (i+3) .nil<;>exact fun h=>Nat.le_trans h3 h
           ·show _<=i+2;omega
        ·rw[nK (i:=i+1) (by omega)]
         refine St.end (by show i+1=_;omega) ?_ eE
         split
         ·show _<=i+1;omega
         ·rename_i s hs
          split
          ·have h:=Nat.le_trans (hC' (i+3) .nil) (dC (l:=l++x) (x:=xO) (g:=fun c=>nd 7 s c))
           have h3:l.length<=i+3:=by omega
           revert h
           cases C' (i+3) .nil<;>exact fun h=>Nat.le_trans h3 h
          ·show _<=i+2;omega
       ·exact St.at hi
 ·have he:i=l.length:=by omega
  have h0:atomS nk lg l i T C = .inr (i,6):=by
   unfold atomS;rw[nK (by omega)];simp only;rw[kJ (by omega),kJ (by omega),kJ (by omega),kJ (by omega),kJ (by omega)]
   rfl
  rw[h0];exact St.end he (by rw[<- he];exact zNi hT' hC') eE
theorem zNk {l:List Tk} {i:Nat} {acc:Fr} {T:Nat->Rs Tr} {C:Nat->Fr->Rs Fr} (hT:∀j,j<=pl (T j)) (hC:∀j a,j<=pl (C j a)):i<=pl (consS nk l i acc T C):=by
 have h1:=hT (i+2);unfold consS
 split
 ·exact Nat.le_refl _
 ·split
  ·exact Nat.le_refl _
  ·split
   ·cases h:T (i+2) with
    | inr e=>rw[h] at h1;have h1:i+2<=e.1:=h1;show i<=e.1;omega
    | inl r=>
     rw[h] at h1;have h1:i+2<=r.2:=h1;simp only
     split
     ·have:=hC (r.2+1) (acc.app (fr1 (nd 8 ‹ByteArray› (fr1 r.1))));omega
     ·show i<=r.2;omega
   ·exact Nat.le_succ _
def barS (l:List Tk) (g:Tr->Fr) (R:Rs Tr) (C:Nat->Fr->Rs Fr):Rs Fr:=match R with
 | .inr e=>.inr e
 | .inl (t,j)=>if key l j kBar then C (j+1) (g t) else .inl (g t,j)
theorem zUp {l:List Tk} {g:Tr->Fr} {R:Rs Tr} {C:Nat->Fr->Rs Fr} (hC:∀j a,j<=pl (C j a)):pl R<=pl (barS l g R C):=by
 unfold barS
 cases R with
 | inr e=>exact Nat.le_refl _
 | inl r=>
  simp only
  split
  ·have:=hC (r.2+1) (g r.1)
   show r.2<=_
   omega
  ·exact Nat.le_refl _
theorem zH5 {l m:List Tk} {g:Tr->Fr} {R R':Rs Tr} {C C':Nat->Fr->Rs Fr} (h:St l.length R R') (hC:∀j a,j<=l.length->St l.length (C j a) (C' j a)) (hC':∀j a,j<=pl (C' j a)):St l.length (barS l g R C) (barS (l++m) g R' C'):=by
 by_cases hlt:pl R<l.length
 ·rw[h.same hlt]
  cases R with
  | inr e=>exact⟨h.le,fun _=>rfl,fun h=>h,wS h.bad⟩
  | inl r=>
   obtain⟨a,j⟩:=r;have hlt:j<l.length:=hlt;unfold barS;simp only[xH hlt]
   split
   ·exact hC _ _ hlt
   ·exact St.yes _ (by omega)
 ·have he:pl R=l.length:=by have:=h.le;omega
  have h3:l.length<=pl (barS (l++m) g R' C'):=Nat.le_trans (h.more (by omega)) (zUp hC')
  cases R with
  | inr e=>exact St.end he h3 (wS h.bad)
  | inl r=>
   obtain⟨a,j⟩:=r;have he:j=l.length:=he;have:barS l g (.inl (a,j)) C = .inl (g a,j):=by
    unfold barS;simp only;rw[kJ (by omega)]
    rfl
   rw[this];exact St.end he h3 (lH _)
theorem zNl {l x:List Tk} {i:Nat} {acc:Fr} {T T':Nat->Rs Tr} {C C':Nat->Fr->Rs Fr} (hi:i<=l.length) (hT:∀j,j<=l.length->St l.length (T j) (T' j)) (hC:∀j a,j<=l.length->St l.length (C j a) (C' j a)) (hT':∀j,j<=pl (T' j)) (hC':∀j a,j<=pl (C' j a)) :
  St l.length (consS nk l i acc T C) (consS nk (l++x) i acc T' C'):=by
 by_cases hlt:i<l.length
 ·unfold consS
  rw[oH hlt]
  split
  ·exact St.at hi
  ·rename_i s hs
   split
   ·refine⟨hi,fun _=>rfl,fun h=>h,fun p e he=>?_⟩
    injection he with he;injection he with h1 h2;exact .inr ⟨h2.symm,by omega⟩
   ·by_cases h1:i+1<l.length
    ·rw[xH h1]
     split
     ·exact zH5 (g:=fun t=>acc.app (fr1 (nd 8 s (fr1 t)))) (hT (i+2) h1) hC hC'
     ·exact St.at hlt
    ·rw[kJ (i:=i+1) (by omega)]
     refine St.end (by show i+1=_;omega) ?_ eE
     split
     ·refine Nat.le_trans ?_ (zUp (g:=fun t=>acc.app (fr1 (nd 8 s (fr1 t)))) hC')
      have:=hT' (i+2);omega
     ·show _<=i+1;omega
 ·have he:i=l.length:=by omega
  have h0:consS nk l i acc T C = .inr (i,6):=by
   unfold consS;rw[nK (by omega)]
  rw[h0];exact St.end he (by rw[<- he];exact zNk hT' hC') eE
theorem mJ (l x:List Tk):∀(n:Nat),(∀i,i<=l.length->St l.length (typF nk lg n l i) (typF nk lg n (l++x) i))/\(∀i,i<=l.length->St l.length (prodF nk lg n l i) (prodF nk lg n (l++x) i))/\
  (∀i,i<=l.length->St l.length (atomF nk lg n l i) (atomF nk lg n (l++x) i))/\(∀i acc,i<=l.length->St l.length (consF nk lg n l i acc) (consF nk lg n (l++x) i acc))
 | 0=>⟨fun i h=>by rw[typF,typF];exact St.at h,fun i h=>by rw[prodF,prodF];exact St.at h,fun i h=>by rw[atomF,atomF];exact St.at h,fun i _ h=>by rw[consF,consF];exact St.at h⟩
 | n+1=>by
  obtain⟨hT,hP,hA,hC⟩:=mJ l x n;obtain⟨aT,aP,aA,aC⟩:=xD (nk:=nk) (lg:=lg) (l++x) n;refine⟨fun i hi=>?_,fun i hi=>?_,fun i hi=>?_,fun i acc hi=>?_⟩
  ·rw[sD,sD]
   exact zUo (hP i hi) hT fun j=>wB (aT j)
  ·rw[gK,gK]
   exact zUo (hA i hi) hP fun j=>wB (aP j)
  ·rw[gL,gL]
   exact zNj hi hT (fun j a h=>hC j a h) (fun j=>wB (aT j)) fun j a=>wB (aC j a)
  ·rw[gM,gM]
   exact zNl hi hT (fun j a h=>hC j a h) (fun j=>wB (aT j)) fun j a=>wB (aC j a)
theorem zH6 (l x:List Tk) (i:Nat) (hi:i<=l.length):St l.length (typL nk lg l i) (typL nk lg (l++x) i):=by
 have h:=(mJ (nk:=nk) (lg:=lg) l x (4*l.length+8+4*x.length)).1 i hi;rw[sE (by omega) (4*x.length)] at h;have e:4*l.length+8+4*x.length=4*(l++x).length+8:=by rw[List.length_append];omega
 rw[e] at h;exact h
end
end Go.Proofs.YtgeghilbikljcaaGreatDoor
