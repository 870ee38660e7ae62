/-
  The document's typ and product: one step.
-/
import Derived.Test.YtbpijnalmakfaaaGreatDoorGs14
import Derived.Carry
import Derived.MapKept
set_option maxHeartbeats 40000000
set_option maxRecDepth 100000
namespace Go.Proofs.YtbpijnalmakfaaaGreatDoor
open Go.RowKit
section
variable {nk lg:ByteArray→Bool}
def LeOk {α:Type} (N:Nat) (R:Rs α):Prop:=pl R≤N∧∀p e,R = .inr (p,e)→¬e=0
theorem St.leok {α:Type} {N:Nat} {R R':Rs α} (h:St N R R'):LeOk N R:=⟨h.le,fun p e he=>by rcases h.bad p e he with h | ⟨h,_⟩<;>omega⟩
theorem mG (l:List Tk) (i:Nat) (hi:i≤l.length):LeOk l.length (typL nk lg l i):=((sF l [] _).1 i hi).leok
theorem zVu (l:List Tk) (i:Nat) (hi:i≤l.length):LeOk l.length (prodL nk lg l i):=((sF l [] _).2.1 i hi).leok
theorem zVv (l:List Tk) (i:Nat) (hi:i≤l.length):LeOk l.length (atomL nk lg l i):=((sF l [] _).2.2.1 i hi).leok
theorem zVw (l:List Tk) (i:Nat) (acc:Fr) (hi:i≤l.length):LeOk l.length (consL nk lg l i acc):=((sF l [] _).2.2.2 i acc hi).leok
end
def NewS (W w:World) (q:Nat):Prop:=W.heap.size≤q∧q<w.heap.size
def NewT (W w:World) (v:Value) (t:Tr):Prop:=InT w (NewS W w) v t
theorem NewT.up {W a w:World} {v:Value} {t:Tr} (h:NewT W a v t) (u:Up a w):NewT W w v t:=InT.keep h (fun _ hq=>⟨hq.1,Nat.lt_of_lt_of_le hq.2 u.size⟩) fun b hb=>Below.block u b hb.2
theorem NewT.base {W a w:World} {v:Value} {t:Tr} (h:NewT a w v t) (u:W.heap.size≤a.heap.size):NewT W w v t:=InT.keep h (fun _ hq=>⟨Nat.le_trans u hq.1,hq.2⟩) fun _ _=>rfl
theorem NewT.has {W w:World} {v:Value} {t:Tr} (h:NewT W w v t):HasT w v (some t):=InT.keep h (fun _ hq=>hq.2) fun _ _=>rfl
theorem vZ (w:World) (o:Obj) {n:Nat} (h:w.heap.size=n):(w.alloc o).heap[n]? = some o:=by rw[←h];exact heap_alloc_new w o
theorem kN {w:World} {b:Nat} {o:Obj} (o':Obj) (h:w.heap[b]? = some o):(w.alloc o').heap[b]? = some o:=(Below.heap_alloc _ _ _ (qC h)).trans h
theorem yX {w:World} {S:Nat→Prop} {b g n c:Nat} {x:Nod} {f:Fr} (h:w.heap[b]? = some (.cells #[.int .i64 x.k,.int .i64 x.n,.string x.a,.string x.m,.slice (some ⟨g,0,none⟩) n c] 57 (0,0))) (hn:f.len=n) (hc:n≤c) (hS:S b) (hg:S g) (hf:InF w S f g 0):InT w S (.pointer (some ⟨b,0,none⟩)) (x,f):=by
 subst hn;exact⟨b,0,some ⟨g,0,none⟩,c,rfl,hS,⟨_,_,h⟩,cell_of_row w b 0 _ _ _ h,cell_of_row w b 1 _ _ _ h,cell_of_row w b 2 _ _ _ h,cell_of_row w b 3 _ _ _ h,cell_of_row w b 4 _ _ _ h,hc,fun _=>⟨g,0,rfl,hg,hf⟩⟩
theorem nI {w:World} {S:Nat→Prop} {b:Nat} {x:Nod} (h:w.heap[b]? = some (.cells #[.int .i64 x.k,.int .i64 x.n,.string x.a,.string x.m,.slice none 0 0] 57 (0,0))) (hS:S b):InT w S (.pointer (some ⟨b,0,none⟩)) (x,.nil):=
 ⟨b,0,none,0,rfl,hS,⟨_,_,h⟩,cell_of_row w b 0 _ _ _ h,cell_of_row w b 1 _ _ _ h,cell_of_row w b 2 _ _ _ h,cell_of_row w b 3 _ _ _ h,cell_of_row w b 4 _ _ _ h,Nat.le_refl _,fun hn=>absurd hn (by simp[Fr.len])⟩
section
variable (nk lg:ByteArray→Bool)
def typZ (l:List Tk) (i:Int):Rs Tr:=if i<0∨(l.length:Int)<i then .inr (0,2) else typL nk lg l i.toNat
end
def RtV (R:Rs Tr) (w w':World) (v:Value) (j e:Int):Prop:=match R with
 | .inl (t,q)=>NewT w w' v t∧j=(q:Int)∧e=0
 | .inr (p,r)=>j=(p:Int)∧e=r∧v = .pointer none
def mH (R:Rs Tr) (w:World) (e:Ending) (w':World):Prop:=∃v j er,e = .returned (.tuple #[v,.int .i64 j,.int .i64 er])∧RtV R w w' v j er∧Up w w'
def Tke (w:World) (v:Value) (l:List Te):Prop:=∃A c,v = .slice A l.length c∧∀(j:Nat) (t:Te),l[j]? = some t→∃b o,A=some ⟨b,o,none⟩∧b<w.heap.size∧w.cell? ⟨b,o+j*4,none⟩=some (.int .i64 t.t.k)∧w.cell? ⟨b,o+j*4+1,none⟩=some (.string t.t.s)∧w.cell? ⟨b,o+j*4+2,none⟩=some (.int .i64 t.n)∧∃m,w.cell? ⟨b,o+j*4+3,none⟩=some (.int .i64 m)
theorem Tke.up {W w:World} {v:Value} {l:List Te} (h:Tke W v l) (u:Up W w):Tke w v l:=by
 obtain⟨A,c,rfl,h⟩:=h;refine⟨A,c,rfl,fun j t ht=>?_⟩;obtain⟨b,o,h1,h2,h3,h4,h5,m,h6⟩:=h j t ht;exact⟨b,o,h1,Nat.lt_of_lt_of_le h2 u.size,u.cell h3,u.cell h4,u.cell h5,m,u.cell h6⟩
theorem Tke.tkm {w:World} {v:Value} {l:List Te} (h:Tke w v l):Tkm w v (tks l):=by
 obtain⟨A,c,rfl,h⟩:=h;refine⟨A,c,by rw[zD],fun j t ht=>?_⟩;rw[kD] at ht;obtain⟨u,hu,rfl⟩:=Option.map_eq_some_iff.1 ht;obtain⟨b,o,h1,h2,h3,h4,_⟩:=h j u hu;exact⟨b,o,h1,h2,h3,h4⟩
theorem In.ne {α:Type} {N i:Nat} {R:Rs α} (h:In N i R) {p:Nat} {e:Int} (hR:R = .inr (p,e)):¬e=0:=by
 rw[hR] at h;have h:i≤p∧p≤N∧(e=6∨e=9):=h;omega
section
variable {W w:World}
theorem zXg {va vb:Value} {a b:Tr} {k:Int} {s:ByteArray} (hW:W.heap.size≤w.heap.size) (ha:NewT W w va a) (hb:NewT W w vb b) :
  NewT W ((w.alloc (.cells #[va,vb] 24)).alloc (.cells #[.int .i64 k,.int .i64 0,.string s,.string ⟨#[]⟩,.slice (some ⟨w.heap.size,0,none⟩) 2 2] 57)) (.pointer (some ⟨w.heap.size+1,0,none⟩)) (nd k s (fr2 a b)):=by
 have e1:(w.alloc (.cells #[va,vb] 24)).heap.size=w.heap.size+1:=by simp
 rw[←e1];obtain⟨W1,hW1⟩:∃W1,w.alloc (.cells #[va,vb] 24)=W1:=⟨_,rfl⟩;have s1:W1.heap[w.heap.size]? = some (.cells #[va,vb] 24 (0,0)):=by rw[←hW1];exact heap_alloc_new w _
 have u1:Up w W1:=by rw[←hW1];exact(Up.refl w).alloc _
 have z1:=u1.size;rw[hW1];obtain⟨W2,hW2⟩:∃W2,W1.alloc (.cells #[.int .i64 k,.int .i64 0,.string s,.string ⟨#[]⟩,.slice (some ⟨w.heap.size,0,none⟩) 2 2] 57)=W2:=⟨_,rfl⟩;have s2:W2.heap[W1.heap.size]? = some (.cells #[.int .i64 k,.int .i64 0,.string s,.string ⟨#[]⟩,.slice (some ⟨w.heap.size,0,none⟩) 2 2] 57 (0,0)):=by rw[←hW2];exact heap_alloc_new W1 _
 have u2:Up W1 W2:=by rw[←hW2];exact(Up.refl W1).alloc _
 have s3:W2.heap[w.heap.size]? = some (.cells #[va,vb] 24 (0,0)):=u2.row s1;rw[hW2];exact yX (x:=⟨k,0,s,nob⟩) (f:=fr2 a b) s2 rfl (Nat.le_refl _) ⟨by omega,qC s2⟩ ⟨hW,qC s3⟩ ⟨⟨_,cell_of_row W2 w.heap.size 0 _ _ _ s3,ha.up (u1.trans u2)⟩,⟨_,cell_of_row W2 w.heap.size 1 _ _ _ s3,hb.up (u1.trans u2)⟩,trivial⟩
end
theorem PtF.app {w:World} {S:Nat→Prop}:∀{vs us:List Value} {f g:Fr},PtF w S vs f→PtF w S us g→PtF w S (vs++us) (f.app g)
 | [],_,.nil,_,_,h=>h
 | [],_,.cons _ _ _,_,h,_=>h.elim
 | _::_,_,.nil,_,h,_=>h.elim
 | _::vs,us,.cons _ _ r,g,h,h2=>⟨h.1,PtF.app (vs:=vs) (us:=us) (f:=r) (g:=g) h.2 h2⟩
end Go.Proofs.YtbpijnalmakfaaaGreatDoor
namespace Go.Proofs.YtbpijnalmakfaaaGreatDoor
def rowF (l:List Tk) (m:ByteArray) (part:Fr→Nat→Rs Tr):Nat→Fr→Nat→Rs Fr
 | 0,_,i=>.inr (i,6)
 | n+1,acc,i=>match part acc i with
  | .inr e=>.inr e
  | .inl (t,j)=>if key l j m then rowF l m part n (acc.app (fr1 t)) (j+1) else .inl (acc.app (fr1 t),j)
def rowS (l:List Tk) (m:ByteArray) (r:Rs Tr) (acc:Fr) (R:Fr→Nat→Rs Fr):Rs Fr:=match r with
 | .inr e=>.inr e
 | .inl (t,j)=>if key l j m then R (acc.app (fr1 t)) (j+1) else .inl (acc.app (fr1 t),j)
theorem zR0 (l:List Tk) (m:ByteArray) (part:Fr→Nat→Rs Tr) (n:Nat) (acc:Fr) (i:Nat):rowF l m part (n+1) acc i=rowS l m (part acc i) acc (rowF l m part n):=by rw[rowF];rfl
theorem zZc {l:List Tk} {m:ByteArray} {part:Fr→Nat→Rs Tr} (ha:∀acc i,Ahead i (part acc i)):∀(n:Nat) (acc:Fr) (i:Nat),i≤l.length→l.length+1-i≤n→rowF l m part (n+1) acc i=rowF l m part n acc i
 | 0,acc,i,hi,hn=>by omega
 | n+1,acc,i,hi,hn=>by
  rw[zR0,zR0];unfold rowS;have h1:=ha acc i
  cases h:part acc i with
  | inr e=>rfl
  | inl r=>
   obtain⟨t,j⟩:=r;rw[h] at h1;have h1:i<j:=h1;simp only
   split
   ·rename_i hk
    have:=yN hk;exact zZc ha n _ _ (by omega) (by omega)
   ·rfl
theorem zPx {l:List Tk} {m:ByteArray} {part:Fr→Nat→Rs Tr} (ha:∀acc i,Ahead i (part acc i)) {n:Nat} {acc:Fr} {i:Nat} (hi:i≤l.length) (hn:l.length+1-i≤n):∀d,rowF l m part (n+d) acc i=rowF l m part n acc i
 | 0=>rfl
 | d+1=>by rw[←Nat.add_assoc,zZc ha _ _ _ hi (by omega),zPx ha hi hn d]
def rowL (l:List Tk) (m:ByteArray) (part:Fr→Nat→Rs Tr) (acc:Fr) (i:Nat):Rs Fr:=rowF l m part (l.length+1) acc i
theorem pD {l:List Tk} {m:ByteArray} {part:Fr→Nat→Rs Tr} (ha:∀acc i,Ahead i (part acc i)) (acc:Fr) (i:Nat) (hi:i≤l.length):rowL l m part acc i=rowS l m (part acc i) acc (rowL l m part):=by
 have h:rowL l m part acc i=rowF l m part (l.length+1+1) acc i:=(zPx ha hi (by omega) 1).symm;rw[h,zR0]
 rfl
def foldK (k:Int):Fr→Tr
 | .nil=>nd k nob .nil
 | .cons x f r=>if r.len=0 then (x,f) else nd k nob (fr2 (x,f) (foldK k r))
theorem zZd (k:Int) (t:Tr) {r:Fr} (h:0<r.len):foldK k ((fr1 t).app r)=nd k nob (fr2 t (foldK k r)):=by
 show(if (Fr.app .nil r).len=0 then _ else _)=_
 rw[if_neg (by show ¬r.len=0;omega)]
 rfl
def toT (k:Int):Rs Fr→Rs Tr
 | .inr e=>.inr e
 | .inl (f,j)=>.inl (foldK k f,j)
def mapF (a:Fr):Rs Fr→Rs Fr
 | .inr e=>.inr e
 | .inl (f,j)=>.inl (a.app f,j)
section
variable {l:List Tk} {m:ByteArray} {P:Nat→Rs Tr}
theorem tU (ha:∀i,Ahead i (P i)):∀(d:Nat) (acc:Fr) (i:Nat),l.length-i≤d→i≤l.length→rowL l m (fun _=>P) acc i=mapF acc (rowL l m (fun _=>P) .nil i)
 | d,acc,i,hd,hi=>by
  have h1:=ha i;rw[pD (fun _=>ha) acc i hi,pD (fun _=>ha) .nil i hi];unfold rowS
  cases h:P i with
  | inr e=>rfl
  | inl r=>
   obtain⟨t,j⟩:=r;rw[h] at h1;have h1:i<j:=h1;simp only
   split
   ·rename_i hk
    have:=yN hk
    cases d with
    | zero=>omega
    | succ d=>
     rw[tU ha d _ (j+1) (by omega) (by omega),tU ha d (Fr.app .nil (fr1 t)) (j+1) (by omega) (by omega)]
     cases rowL l m (fun _=>P) .nil (j+1) with
     | inr e=>rfl
     | inl q=>show Sum.inl (_,_)=Sum.inl (_,_);rw[Fr.app_assoc];rfl
   ·rfl
theorem zBd (ha:∀i,Ahead i (P i)):∀(d:Nat) (i:Nat),l.length-i≤d→i≤l.length→∀f j,rowL l m (fun _=>P) .nil i = .inl (f,j)→0<f.len
 | d,i,hd,hi,f,j,h=>by
  have h1:=ha i;rw[pD (fun _=>ha) .nil i hi] at h;unfold rowS at h
  cases hp:P i with
  | inr e=>rw[hp] at h;cases h
  | inl r=>
   obtain⟨t,q⟩:=r;rw[hp] at h h1;have h1:i<q:=h1;simp only at h
   split at h
   ·rename_i hk
    have:=yN hk;rw[tU ha (l.length-(q+1)) _ (q+1) (Nat.le_refl _) (by omega)] at h
    cases hr:rowL l m (fun _=>P) .nil (q+1) with
    | inr e=>rw[hr] at h;cases h
    | inl s=>
     rw[hr] at h;have h:=Sum.inl.inj h;have h:=congrArg Prod.fst h;have h:(Fr.app .nil (fr1 t)).app s.1=f:=h;rw[←h,Fr.len_app]
     show 0<1+_
     omega
   ·have h:=congrArg Prod.fst (Sum.inl.inj h)
    have h:Fr.app .nil (fr1 t)=f:=h;rw[←h];exact Nat.succ_pos _
theorem zXh {k:Int} {T:Nat→Rs Tr} (ha:∀i,Ahead i (P i)) (hT:∀i,T i=typS m k l (P i) T):∀(d:Nat) (i:Nat),l.length-i≤d→i≤l.length→toT k (rowL l m (fun _=>P) .nil i)=T i
 | d,i,hd,hi=>by
  have h1:=ha i;rw[pD (fun _=>ha) .nil i hi,hT i];unfold rowS typS
  cases h:P i with
  | inr e=>rfl
  | inl r=>
   obtain⟨t,j⟩:=r;rw[h] at h1;have h1:i<j:=h1;simp only
   split
   ·rename_i hk
    have:=yN hk
    cases d with
    | zero=>omega
    | succ d=>
     have ih:=zXh (k:=k) ha hT d (j+1) (by omega) (by omega);rw[tU ha d _ (j+1) (by omega) (by omega),←ih]
     cases hr:rowL l m (fun _=>P) .nil (j+1) with
     | inr e=>rfl
     | inl q=>
      obtain⟨f,q⟩:=q;have hne:=zBd ha d (j+1) (by omega) (by omega) f q hr
      show Sum.inl (foldK k ((fr1 t).app f),q)=Sum.inl (nd k nob (fr2 t (foldK k f)),q)
      rw[zZd k t hne]
   ·rfl
end
section
variable {nk lg:ByteArray→Bool}
theorem zHj (l:List Tk) (i:Nat) (hi:i≤l.length):toT 5 (rowL l zM (fun _=>prodL nk lg l) .nil i)=typL nk lg l i:=zXh (fH l) (aF l) _ i (Nat.le_refl _) hi
theorem zMg (l:List Tk) (i:Nat) (hi:i≤l.length):toT 6 (rowL l kStar (fun _=>atomL nk lg l) .nil i)=prodL nk lg l i:=zXh (fI l) (tM l) _ i (Nat.le_refl _) hi
def conS (nk lg:ByteArray→Bool) (l:List Tk) (acc:Fr) (i:Nat):Rs Tr:=match nam nk l i with
 | none=>.inr (i,6)
 | some s=>if hasN acc s then .inr (i,9) else if key l (i+1) kOf then (match typL nk lg l (i+2) with
  | .inr e=>.inr e
  | .inl (t,j)=>.inl (nd 8 s (fr1 t),j)) else .inr (i+1,6)
theorem zR1 (l:List Tk) (acc:Fr) (i:Nat):Ahead i (conS nk lg l acc i):=by
 have h1:=sE (nk:=nk) (lg:=lg) l (i+2);unfold conS
 split
 ·exact Nat.le_refl _
 ·split
  ·exact Nat.le_refl _
  ·split
   ·cases h:typL nk lg l (i+2) with
    | inr e=>rw[h] at h1;have h1:i+2≤e.1:=h1;show i≤e.1;omega
    | inl r=>rw[h] at h1;have h1:i+2<r.2:=h1;show i<r.2;omega
   ·show i≤i+1;omega
theorem zR2 (l:List Tk) (acc:Fr) (i:Nat):consL nk lg l i acc=rowS l kBar (conS nk lg l acc i) acc fun a j=>consL nk lg l j a:=by
 rw[vR];unfold consS conS rowS
 cases nam nk l i with
 | none=>rfl
 | some s=>
  simp only
  split
  ·rfl
  ·split
   ·cases typL nk lg l (i+2) with
    | inr e=>rfl
    | inl r=>rfl
   ·rfl
end
end Go.Proofs.YtbpijnalmakfaaaGreatDoor
namespace Go.Proofs.YtbpijnalmakfaaaGreatDoor
open Go.RowKit
theorem jK (w:World) (r:Option Nat):w.grownBy w r:=⟨rfl,rfl,rfl,Nat.le_refl _,fun _ _ _=>rfl⟩
theorem yY {a b c:World} {r:Option Nat} (h:a.grownBy b r) (k:b.grownBy c r):a.grownBy c r:=
 ⟨k.os.trans h.os,k.tape.trans h.tape,k.output.trans h.output,Nat.le_trans h.size k.size,fun i hi hr=>(k.block i (Nat.lt_of_lt_of_le hi h.size) hr).trans (h.block i hi hr)⟩
theorem kQ {a b:World} {B:Nat} {r:Option Nat} (h:Below B a b) (hB:a.heap.size≤B):a.grownBy b r:=⟨h.os,h.tape,h.output,h.size,fun i hi _=>h.block i (by omega)⟩
theorem gJ {a b:World} {r:Option Nat} (h:a.grownBy b r) (o:Obj):a.grownBy (b.alloc o) r:=yY h (kQ ((Below.refl b.heap.size b).alloc (Nat.le_refl _) o) (Nat.le_refl _))
theorem mI {a b:World} {r:Option Nat} (h:a.grownBy b r) (p:Addr) (u:Value) (hp:a.heap.size≤p.block∨r=some p.block):a.grownBy (b.setCell p u) r:=
 ⟨h.os,h.tape,h.output,by have:=h.size;simpa [World.setCell] using this,fun i hi hr=>(Below.heap_setCell _ _ _ _ (by
  rcases hp with hp | hp
  ·omega
  ·intro e;exact hr (by rw[hp,e]))).trans (h.block i hi hr)⟩
theorem zPy {a b c:World} {r:Option Nat} {B:Nat} (h:Below B a b) (k:b.grownBy c r) (hB:B≤b.heap.size) (hr:∀g,r=some g→B≤g):Below B a c:=h.grown k hB hr
theorem yU {w:World} {b i:Nat} {cs:Array Value} {e:TypeId} {z:Nat×Nat} (u:Value) (h:w.heap[b]? = some (.cells cs e z)):(w.setCell ⟨b,i,none⟩ u).heap[b]? = some (.cells (cs.setIfInBounds i u) e z):=by
 simp[World.setCell,Array.getElem?_modify,h]
theorem vG {w:World} {b:Nat} {a:Addr} {o:Obj} (u:Value) (h:w.heap[b]? = some o) (hne:b≠a.block):(w.setCell a u).heap[b]? = some o:=(Below.heap_setCell _ _ _ _ hne).trans h
theorem yF {w:World} {b:Nat} {o:Obj} (ob:Obj) (h:w.heap[b]? = some o):(w.alloc ob).heap[b]? = some o:=(Below.heap_alloc _ _ _ (qC h)).trans h
theorem zPz (a b:Nat) (w:World) (ha:a≤1000000000) (hb:b≤1000000000):Calls Tryz.prog 215 #[.int .i64 (a:Int),.int .i64 (b:Int)] w fun e w'=>e = .returned (.int .i64 ((a:Int)+(b:Int)))∧w=w':=by
 have h1:¬(9223372036854775807-(b:Int))<(a:Int):=by omega
 go_enter Tryz.func215,Tryz.ntmps215
 go_wp2_with fail
 go_ret
 exact⟨rfl,rfl⟩
def Gg (w:World) (gb mb k:Nat):Prop:=w.heap[gb]? = some (.cells #[.int .i64 (k:Int),.map (some mb)] 203 (0,0))∧w.heap[mb]? = some (.map #[] 0)
theorem zVx (gb mb k:Nat) (v:Value) (x:Array Value) (w:World) (h:Gg w gb mb k) (hk:k≤65536) :
  Calls Tryz.prog 214 #[.pointer (some ⟨gb,0,none⟩),v,.agg x] w fun e w'=>e = .returned (.tuple #[])∧Below w.heap.size w w':=by
 have c0:=cell_of_row w gb 0 _ _ _ h.1;have h1:¬(65536:Int)<(k:Int):=by omega
 have hg:=qC h.1;clear h
 go_enter Tryz.func214,Tryz.ntmps214
 go_wp2_with fail;go_end0;exact⟨rfl,(Below.refl _ _).alloc (Nat.le_refl _) _⟩
theorem zMh (n:Nat) (v:Value) (w:World):(Instr.checkKey true (n+1) 24 v).run Tryz.prog w = .ok () w:=by
 rw[Instr.checkKey]
 simp[run_underlying Tryz.underlying24,Result.andThen]
theorem zR3 {w:World} {mb:Nat} (v:Value) (h:w.heap[mb]? = some (.map #[] 0)) :
  (Instr.lookup 201 (.map (some mb)) v true).run Tryz.prog w = .ok (.tuple #[.agg #[.int .i64 0,.int .i64 0,.bool false],.bool false]) w:=by
 have hz:(zeroValue 181).run Tryz.prog w = .ok (.agg #[.int .i64 0,.int .i64 0,.bool false]) w:=by kernel_rfl
 have hc:=zMh 9999 v w;simp only[Nat.reduceAdd] at hc
 simp[Instr.lookup,run_underlying Tryz.underlying201,run_underlying Tryz.underlying24,MapKept.run_getObj_map h,hc,Instr.findKey,Instr.findNow,hz,Result.andThen]
def yXw (t:Tr) (gb mb k:Nat) (w:World) (e:Ending) (w':World):Prop:=e = .returned (.agg #[.int .i64 (szT t:Int),.int .i64 (dpT t:Int),.bool false])∧Gg w' gb mb (k+szT t)∧w.grownBy w' (some gb)
theorem Gg.grown {w w':World} {gb mb k:Nat} (h:Gg w gb mb k) (hb:Below w.heap.size w w'):Gg w' gb mb k:=⟨qZ h.1 hb,qZ h.2 hb⟩
theorem Gg.store {w:World} {gb mb k:Nat} {z:Int} {m:Nat} (h:Gg w gb mb k) (hne:mb≠gb) (hz:z=(m:Int)):Gg (w.setCell ⟨gb,0,none⟩ (.int .i64 z)) gb mb m:=by
 subst hz;exact⟨by rw[yU _ h.1];rfl,vG _ h.2 hne⟩
theorem Gg.far {w:World} {gb mb k b i:Nat} (h:Gg w gb mb k) (u:Value) (h1:gb≠b) (h2:mb≠b):Gg (w.setCell ⟨b,i,none⟩ u) gb mb k:=⟨vG _ h.1 h1,vG _ h.2 h2⟩
theorem tV {w w':World} {gb:Nat} (h:w.grownBy w' (some gb)) {p:Addr} {v:Value} (hc:w.cell? p=some v) (hne:p.block≠gb):w'.cell? p=some v:=h.cell hc fun e=>hne (by injection e)
theorem Kid.gb {w w':World} {S:Nat→Prop} {A:Option Addr} {r:Fr} {i gb:Nat} (h:Kid w S A r i) (hS:Bel S w.heap.size) (hg:¬S gb) (hw:w.grownBy w' (some gb)):Kid w' S A r i:=
 h.keep (fun _ h=>h) fun pp hp=>hw.block pp (hS _ hp) fun e=>by injection e with e;exact hg (by rw[←e];exact hp)
theorem kI {w w':World} {gb b:Nat} {o:Obj} (h:w.grownBy w' (some gb)) (hb:w.heap[b]? = some o) (hne:b≠gb):w'.heap[b]? = some o:=(h.block b (qC hb) fun e=>hne (by injection e)).trans hb
theorem tW {w:World} {b:Nat} {u v s:Value} {e:TypeId} {z:Nat×Nat} (h:w.heap[b]? = some (.cells #[u,v,s] e z)):w.cell? ⟨b,0,none⟩=some u:=cell_of_row w b 0 _ _ _ h
theorem tX {w:World} {b:Nat} {u v s:Value} {e:TypeId} {z:Nat×Nat} (h:w.heap[b]? = some (.cells #[u,v,s] e z)):w.cell? ⟨b,1,none⟩=some v:=cell_of_row w b 1 _ _ _ h
theorem tY {w:World} {b:Nat} {u v s:Value} {e:TypeId} {z:Nat×Nat} (h:w.heap[b]? = some (.cells #[u,v,s] e z)):w.cell? ⟨b,2,none⟩=some s:=cell_of_row w b 2 _ _ _ h
theorem set3 {w:World} {b:Nat} {u v s:Value} {e:TypeId} {z:Nat×Nat} (h:w.heap[b]? = some (.cells #[u,v,s] e z)) (u' v' s':Value):(((w.setCell ⟨b,0,none⟩ u').setCell ⟨b,1,none⟩ v').setCell ⟨b,2,none⟩ s').heap[b]? = some (.cells #[u',v',s'] e z):=by
 rw[yU _ (yU _ (yU _ h))]
 rfl
theorem zHk:∀(n:Nat) (t:Tr),szT t≤n→n≤65536→∀(w:World) (Sq:Nat→Prop) (v:Value) (gb mb k:Nat),Bel Sq w.heap.size→¬Sq gb→InT w Sq v t→Gg w gb mb k→mb≠gb→k+szT t≤65536→
  Calls Tryz.prog 189 #[.pointer (some ⟨gb,0,none⟩),v] w (yXw t gb mb k w)
 | 0,t,h,_,_,_,_,_,_,_,_,_,_,_,_,_=>absurd h (by unfold szT;omega)
 | n+1,(x,ks),hn,hbig,w,Sq,v,gb,mb,k,hbel,hgS,hin,hgg,hmg,hk=>by
  have ih:=zHk n;obtain⟨q,p,A,c,rfl,hq1,c0,c1,c2,c3,c4,hc,hkid⟩:=hin.open;have hqw:=yM c4;have hqg:q≠gb:=fun e=>hgS (by rw[←e];exact hq1)
  have g0:=cell_of_row w gb 0 _ _ _ hgg.1;have g1:=cell_of_row w gb 1 _ _ _ hgg.1;have gf:=frozen_of_row w gb 0 _ _ hgg.1;have hgw:=qC hgg.1;have hmw:=qC hgg.2;have hlk:=fun W (hW:W.heap[mb]? = some (.map #[] 0))=>zR3 (w:=W) (.pointer (some ⟨q,p,none⟩)) hW
  have hlk1:=hlk (w.alloc (.cells #[.int .i64 0,.int .i64 0,.bool false] 181)) (yF _ hgg.2);have HG:=Lib.hid hgg;clear hgg hlk
  go_enter Tryz.func189,Tryz.ntmps189
  go_wp2_with fail;obtain⟨H,hH⟩:∃H,w.heap.size=H:=⟨_,rfl⟩;have hsz:szT (x,ks)=1+ks.sz:=rfl;have hdp:dpT (x,ks)=1+ks.dp:=rfl;have hll:=Fr.len_le ks;obtain⟨W3,hW3⟩:∃W3,W3=((w.setCell ⟨gb,0,none⟩ (.int .i64 ((k:Int)+1))).alloc (.cells #[.int .i64 0,.int .i64 0,.bool false] 181)).alloc (.cells #[.int .i64 0,.int .i64 0,.bool false] 181):=⟨_,rfl⟩;have hs0:(w.setCell ⟨gb,0,none⟩ (.int .i64 ((k:Int)+1))).heap.size=H:=by simp[World.setCell,hH]
  have hgg3:Gg W3 gb mb (k+1):=by
   rw[hW3];have h1:=HG.out.store (m:=k+1) hmg (z:=(k:Int)+1) (by omega);exact⟨yF _ (yF _ h1.1),yF _ (yF _ h1.2)⟩
  have hR3:W3.heap[H]? = some (.cells #[.int .i64 0,.int .i64 0,.bool false] 181 (0,0)):=by
   rw[hW3,←hs0];exact yF _ (heap_alloc_new _ _)
  have hgb3:w.grownBy W3 (some gb):=by rw[hW3];exact gJ (gJ (mI (jK w _) _ _ (.inr rfl)) _) _
  have hs3:W3.heap.size=H+2:=by rw[hW3];simp;omega
  rw[←hW3];have HGG3:=Lib.hid hgg3;have cK1:=zVx gb mb (k+1) (.pointer (some ⟨q,p,none⟩)) #[.int .i64 9223372036854775807,.int .i64 9223372036854775807,.bool false] W3 hgg3 (by omega);clear hgg3 hW3;refine cK1.mono ?_;rintro e w1 ⟨rfl,hb1⟩;have hgg1:=HGG3.out.grown hb1;have hR1:=qZ hR3 hb1;have hgb1:w.grownBy w1 (some gb):=yY hgb3 (kQ hb1 (Nat.le_refl _));have hs1:=hb1.size;rw[hs3] at hs1;have c41:=tV hgb1 c4 hqg;obtain⟨X,hX⟩:∃X,w1.heap.size=X:=⟨_,rfl⟩;rw[hX] at hs1;have hqX:q<w1.heap.size:=by omega
  obtain⟨N,hN⟩:∃N,ks.len=N:=⟨_,rfl⟩;rw[hN] at c41 hll;have hN1:N≤1000000:=by omega
  have HK:Hid (Kid (w1.alloc (.cells #[.int .i64 1,.int .i64 0,.bool false] 181)) Sq A ks 0):=Lib.hid (hkid.gb hbel hgS (gJ hgb1 _));have HGG1:=Lib.hid hgg1;have HR1:=Lib.hid hR1;have HGB1:=Lib.hid hgb1;have HNN:=Lib.hid hN;have HSZ:=Lib.hid hsz;have HDP:=Lib.hid hdp;have HX:=Lib.hid hX;have HH:=Lib.hid hH;have HN0:=Lib.hid hn;have HIH:=Lib.hid ih;have HBEL:=Lib.hid hbel;have HGS:=Lib.hid hgS;clear hlk1 cK1 HGG3 hb1 hgb3 hR3 hgg1 hR1 hgb1 hN hsz hdp hX hkid hin c0 c1 c2 c3 c4 g0 g1 gf hs0 hs3 hH hn ih hbel hgS;go_wp2_with fail;have hXb:(w1.alloc (.cells #[.int .i64 1,.int .i64 0,.bool false] 181)).heap[X]? = some (.cells #[.int .i64 1,.int .i64 0,.bool false] 181 (0,0)):=by rw[←HX.out];exact heap_alloc_new w1 _
  have HXB:=Lib.hid hXb;rw[HX.out,HH.out];clear hXb
  go_loopw [9,10,42] (fun _ _ i wr=>∃(j:Nat) (done rest:Fr),i = .int .i64 j∧j=done.len∧ks=done.app rest∧Kid wr Sq A rest j∧Gg wr gb mb (k+1+done.sz)∧wr.heap[X]? = some (.cells #[.int .i64 ((1+done.sz:Nat):Int),.int .i64 (done.dp:Int),.bool false] 181 (0,0))∧
   wr.heap[H]? = some (.cells #[.int .i64 0,.int .i64 0,.bool false] 181 (0,0))∧w.grownBy wr (some gb)) (fun _ _ i _=>N-(intOf i).toNat)
  case atStart=>exact⟨0,.nil,ks,rfl,rfl,rfl,HK.out,HGG1.out.grown ((Below.refl _ _).alloc (Nat.le_refl _) _),HXB.out,yF _ HR1.out,gJ HGB1.out _⟩
  case round=>
   obtain⟨j,done,rest,rfl,hj,hks,hkid,hgg,hxb,hrb,hgw⟩:=hrel;have hl:N=done.len+rest.len:=by rw[←HNN.out,hks,Fr.len_app]
   have hs:ks.sz=done.sz+rest.sz:=by rw[hks,Fr.sz_app]
   have hsz:=HSZ.out;have hn:=HN0.out;have hddp:=Fr.dp_le done;have hXr:=qC hxb;have hrw:=hgw.size;have HKS:=Lib.hid hks
   by_cases hlt:0<rest.len
   ·obtain⟨y,l,r,rfl⟩:=Fr.cut hlt
    obtain⟨kb,ko,u,rfl,hkb,hcell,hu,hnext⟩:=hkid.next;have hyl:szT (y,l)=1+l.sz:=rfl;have hyd:dpT (y,l)=1+l.dp:=rfl;have hld:=Fr.dp_le l;have hsr:(Fr.cons y l r).sz=1+l.sz+r.sz:=rfl;have hlr:(Fr.cons y l r).len=r.len+1:=rfl;have hbelr:Bel Sq wr.heap.size:=fun q' h'=>by have:=HBEL.out q' h';omega
    have cI:=HIH.out (y,l) (by omega) (by omega) wr Sq u gb mb (k+1+done.sz) hbelr HGS.out hu hgg hmg (by omega);have HNX:Hid (∀w2,wr.grownBy w2 (some gb)→Kid w2 Sq (some ⟨kb,ko,none⟩) r (j+1)):=Lib.hid fun w2 hw2=>hnext.gb hbelr HGS.out hw2
    have hjz:(j:Int)<(N:Int):=by omega
    obtain⟨Z,hZ⟩:∃Z,szT (y,l)=Z:=⟨_,rfl⟩;obtain⟨D,hD⟩:∃D,dpT (y,l)=D:=⟨_,rfl⟩;obtain⟨S,hS⟩:∃S,1+done.sz=S:=⟨_,rfl⟩;obtain⟨E,hE⟩:∃E,done.dp=E:=⟨_,rfl⟩;rw[hS,hE] at hxb;have hSb:S≤65536∧Z≤65536∧E≤65536∧D≤65536:=by omega
    have HSN:Hid (1+(done.app (.cons y l .nil)).sz=S+Z):=Lib.hid (by rw[Fr.sz_app];simp only[Fr.sz];omega);have HEN:Hid ((done.app (.cons y l .nil)).dp=max E D):=Lib.hid (by rw[Fr.dp_app];simp only[Fr.dp];omega);have HLN:Hid (j+1=(done.app (.cons y l .nil)).len):=Lib.hid (by rw[Fr.len_app];simp only[Fr.len];omega);have HKN:Hid (k+1+done.sz+szT (y,l)=k+1+(done.app (.cons y l .nil)).sz):=Lib.hid (by rw[Fr.sz_app];simp only[Fr.sz];omega);have HZ:=Lib.hid hZ;have HD:=Lib.hid hD;have HRB:=Lib.hid hrb;have HXBR:=Lib.hid hxb;have HGW:=Lib.hid hgw;have hXg:X≠gb:=by have:=HX.out;have:=HGB1.out.size;have:=HH.out;omega
    have hXm:X≠mb:=by have:=HX.out;have:=HGB1.out.size;have:=HH.out;omega
    have HHG:Hid (H≠gb):=Lib.hid (by have:=HH.out;omega);have cS:=fun W=>zPz S Z W (by omega) (by omega)
    have hjN:j<N:=by omega
    clear hkid hnext hu hks hj hl hlr hsr hsz hyl hyd hld hZ hD hE hS hbelr hgg hgw hn hddp hxb hrb hs;go_wp2_with fail;refine cI.mono ?_;rintro e w2 ⟨rfl,hgg2,hgw2⟩;rw[HZ.out,HD.out];have HGG2:=Lib.hid hgg2;have HGW2:=Lib.hid hgw2;have hs2:=hgw2.size;have hx2:X<w2.heap.size:=by omega
    have hxb2:=kI hgw2 HXBR.out hXg;have HXB2:=Lib.hid hxb2;have cx0:=tW hxb2;have cx1:=tX hxb2;have cx2:=tY hxb2;have fx:=fun i=>frozen_of_row w2 X i _ _ hxb2
    have fx0:=fx 0;have fx1:=fx 1;have fx2:=fx 2;clear hgg2 hgw2 hxb2 fx;go_wp2_with fail;refine(cS _).mono ?_;rintro e w3 ⟨rfl,rfl⟩;go_wp2_with fail
    go_roundw
    case rel=>
     have hmx:max (E:Int) (D:Int)=(if E<D then (D:Int) else (E:Int)):=by split<;>omega
     try rw[hmx]
     clear hmx;have hset:=set3 HXB2.out (.int .i64 ((S:Int)+(Z:Int))) (.int .i64 (if E<D then (D:Int) else (E:Int))) (.bool false);have hgbw:w.grownBy ((((w2.setCell ⟨X,0,none⟩ (.int .i64 ((S:Int)+(Z:Int)))).setCell ⟨X,1,none⟩ (.int .i64 (if E<D then (D:Int) else (E:Int)))).setCell ⟨X,2,none⟩ (.bool false)).alloc (.cells #[.int .i64 (Z:Int),.int .i64 (D:Int),.bool false] 181)) (some gb):=by
      have hX':w.heap.size≤X:=by rw[HH.out];omega
      exact gJ (mI (mI (mI (yY HGW.out HGW2.out) _ _ (.inl hX')) _ _ (.inl hX')) _ _ (.inl hX')) _
     refine⟨j+1,done.app (.cons y l .nil),r,by go_num,HLN.out,by rw[HKS.out,Fr.app_cons],?_,?_,?_,?_,hgbw⟩
     ·refine(HNX.out w2 HGW2.out).keep (fun _ h=>h) fun pp hp=>?_
      have hpw:pp<w.heap.size:=HBEL.out _ hp;have h1:=HH.out;rw[Below.heap_alloc _ _ _ (by simp[World.setCell];omega),Below.heap_setCell _ _ _ _ (by simp only;omega),Below.heap_setCell _ _ _ _ (by simp only;omega),Below.heap_setCell _ _ _ _ (by simp only;omega)]
     ·rw[←HKN.out]
      exact(((HGG2.out.far _ (Ne.symm hXg) (Ne.symm hXm)).far _ (Ne.symm hXg) (Ne.symm hXm)).far _ (Ne.symm hXg) (Ne.symm hXm)).grown ((Below.refl _ _).alloc (Nat.le_refl _) _)
     ·rw[HSN.out,HEN.out]
      have e1:((S+Z:Nat):Int)=(S:Int)+(Z:Int):=by omega
      have e2:((max E D:Nat):Int)=if E<D then (D:Int) else (E:Int):=by split<;>omega
      rw[e1,e2];exact yF _ hset
     ·have hHX:H≠X:=by omega
      exact yF _ (vG _ (vG _ (vG _ (kI HGW2.out HRB.out HHG.out) hHX) hHX) hHX)
    case measure=>simp[intOf];omega
   ·have h0:rest = .nil:=by
     cases rest with
     | nil=>rfl
     | cons y l r=>exact absurd (Nat.succ_pos _) hlt
    subst h0;have hjz:¬(j:Int)<(N:Int):=by have:(Fr.nil).len=0:=rfl;omega
    have hfin:ks=done:=by rw[hks,Fr.app_nil]
    obtain⟨S,hS⟩:∃S,1+done.sz=S:=⟨_,rfl⟩;obtain⟨D,hD⟩:∃D,done.dp=D:=⟨_,rfl⟩;have hsn:(Fr.nil).sz=0:=rfl;have hSb:S≤65536∧D≤65536∧k+S≤65536:=by omega
    rw[hS,hD] at hxb;have HSZ':Hid (szT (x,ks)=S):=Lib.hid (by omega);have HDP':Hid (dpT (x,ks)=D+1):=Lib.hid (by rw[HDP.out,hfin,hD];omega);have HGGR:Hid (Gg wr gb mb (k+S)):=Lib.hid (by rw[←hS];have e:k+(1+done.sz)=k+1+done.sz:=by omega
                                                                                                                                                                                            rw[e];exact hgg)
    have cx0:=tW hxb;have cx1:=tX hxb;have cx2:=tY hxb;have fx:=fun i=>frozen_of_row wr X i _ _ hxb
    have fx0:=fx 0;have fx1:=fx 1;have fx2:=fx 2;have HRB:=Lib.hid hrb;have HXBR:=Lib.hid hxb;have HGW:=Lib.hid hgw;have cS:=fun W=>zPz D 1 W (by omega) (by omega)
    clear hkid hks hj hl hsz hS hD hn hddp hxb hrb hs hgg hgw hfin hsn fx;go_wp2_with fail;refine(cS _).mono ?_;rintro e w3 ⟨rfl,rfl⟩;go_wp2_with fail;have hggK:Gg (wr.setCell ⟨X,1,none⟩ (.int .i64 ((D:Int)+1))) gb mb (k+S):=HGGR.out.far _ (by have:=HX.out;have:=HGB1.out.size;have:=HH.out;omega) (by have:=HX.out;have:=HGB1.out.size;have:=HH.out;omega);have hxbK:(wr.setCell ⟨X,1,none⟩ (.int .i64 ((D:Int)+1))).heap[X]? = some (.cells #[.int .i64 (S:Int),.int .i64 ((D:Int)+1),.bool false] 181 (0,0)):=by
     rw[yU _ HXBR.out]
     rfl
    have hrbK:(wr.setCell ⟨X,1,none⟩ (.int .i64 ((D:Int)+1))).heap[H]? = some (.cells #[.int .i64 0,.int .i64 0,.bool false] 181 (0,0)):=vG _ HRB.out (by simp only;omega);have hgwK:w.grownBy (wr.setCell ⟨X,1,none⟩ (.int .i64 ((D:Int)+1))) (some gb):=mI HGW.out _ _ (.inl (by rw[HH.out];simp only;omega));have cK:=zVx gb mb (k+S) (.pointer (some ⟨q,p,none⟩)) #[.int .i64 (S:Int),.int .i64 ((D:Int)+1),.bool false] _ hggK (by omega);have HGGK:=Lib.hid hggK;have HXBK:=Lib.hid hxbK;have HRBK:=Lib.hid hrbK;have HGWK:=Lib.hid hgwK;clear hggK hxbK hrbK hgwK;refine cK.mono ?_;rintro e w5 ⟨rfl,hb5⟩;have HB5:=Lib.hid hb5;have hxb5:=qZ HXBK.out hb5;have hrb5:=qZ HRBK.out hb5;have dx0:=tW hxb5;have dx1:=tX hxb5;have dx2:=tY hxb5;have dr0:=tW hrb5;have dr1:=tX hrb5;have dr2:=tY hrb5;have gx:=fun i=>frozen_of_row w5 H i _ _ hrb5
    have gx0:=gx 0;have gx1:=gx 1;have gx2:=gx 2;have hHX:H<X:=by omega
    clear cK cx0 cx1 cx2 fx0 fx1 fx2 hb5 hxb5 hrb5 gx;go_wp2_with fail;have hgwF:w.grownBy (((w5.setCell ⟨H,0,none⟩ (.int .i64 (S:Int))).setCell ⟨H,1,none⟩ (.int .i64 ((D:Int)+1))).setCell ⟨H,2,none⟩ (.bool false)) (some gb):=by
     have hX':w.heap.size≤H:=by rw[HH.out];omega
     exact mI (mI (mI (yY HGWK.out (kQ HB5.out (Nat.le_refl _))) _ _ (.inl hX')) _ _ (.inl hX')) _ _ (.inl hX')
    have hHg:gb≠H:=by have:=HH.out;omega
    have hHm:mb≠H:=by have:=HH.out;omega
    have hggF:=(((HGGK.out.grown HB5.out).far (b:=H) (i:=0) (.int .i64 (S:Int)) hHg hHm).far (b:=H) (i:=1) (.int .i64 ((D:Int)+1)) hHg hHm).far (b:=H) (i:=2) (.bool false) hHg hHm;exact bodyPost_ret (v:=.agg #[.int .i64 (S:Int),.int .i64 ((D:Int)+1),.bool false]) (by simp[results,Tryz.results189,go_sem,dr0,dr1,dr2]) rfl ⟨by rw[HSZ'.out,HDP'.out];rfl,by rw[HSZ'.out];exact hggF,hgwF⟩
theorem yXx (gb:Nat) (w:World) :
  Calls Tryz.prog 189 #[.pointer (some ⟨gb,0,none⟩),.pointer none] w fun e w'=>e = .returned (.agg #[.int .i64 0,.int .i64 0,.bool true])∧Below w.heap.size w w':=by
 go_enter Tryz.func189,Tryz.ntmps189
 go_wp2_with fail;exact bodyPost_ret (v:=.agg #[.int .i64 0,.int .i64 0,.bool true]) (by simp[results,Tryz.results189,go_sem]) rfl ⟨rfl,((Below.refl _ _).alloc (Nat.le_refl _) _)⟩
def yXy (s d:Nat) (g:Bool) (w:World) (e:Ending) (w':World):Prop:=e = .returned (.agg #[.int .i64 (s:Int),.int .i64 (d:Int),.bool g])∧Below w.heap.size w w'
def yXz (n:Nat) (w:World) (e:Ending) (w':World):Prop:=e = .returned (.int .i64 (n:Int))∧Below w.heap.size w w'
theorem wI (o:Option Tr) (w:World) (Sq:Nat→Prop) (v:Value) (hbel:Bel Sq w.heap.size) (hin:InO w Sq v o) (hsz:szO o≤65536) :
  Calls Tryz.prog 157 #[v] w (yXy (szO o) (dpO o) (o.isNone) w):=by
 have hmm:=@run_makeMap Tryz.prog;have three:=wH w (.cells #[.int .i64 0,.int .i64 0,.bool false] 181) (.map #[] 0) (.cells #[.int .i64 0,.map (some (w.heap.size+1))] 203) rfl;obtain⟨H,hH⟩:∃H,w.heap.size=H:=⟨_,rfl⟩;rw[hH] at three hbel;have HT:=Lib.hid three;have HH:=Lib.hid hH;clear three;obtain⟨S,hS⟩:∃S,szO o=S:=⟨_,rfl⟩;obtain⟨D,hD⟩:∃D,dpO o=D:=⟨_,rfl⟩;obtain⟨G,hG⟩:∃G,o.isNone=G:=⟨_,rfl⟩;have HS:=Lib.hid hS;have HD:=Lib.hid hD;have HG:=Lib.hid hG;have HBEL:=Lib.hid hbel;have HIN:=Lib.hid hin;rw[hS,hD,hG];clear hH hbel hin hS hD hG
 go_enter Tryz.func157,Tryz.ntmps157
 go_wp2_with fail;rw[HH.out];obtain⟨W,hW⟩:∃W,W=((w.alloc (.cells #[.int .i64 0,.int .i64 0,.bool false] 181)).alloc (.map #[] 0)).alloc (.cells #[.int .i64 0,.map (some (H+1))] 203):=⟨_,rfl⟩;have ht:=HT.out;rw[←hW] at ht ⊢;obtain⟨t1,t2,t3,hb1,hs1⟩:=ht;have hgg:Gg W (H+2) (H+1) 0:=⟨t3,t2⟩;have key:Calls Tryz.prog 189 #[.pointer (some ⟨H+1+1,0,none⟩),v] W fun e w'=>e = .returned (.agg #[.int .i64 (S:Int),.int .i64 (D:Int),.bool G])∧W.grownBy w' (some (H+2)):=by
  rw[←HS.out,←HD.out,←HG.out]
  cases o with
  | none=>
   have hv:v = .pointer none:=HIN.out;subst hv;refine(yXx (H+2) W).mono ?_;rintro e w' ⟨rfl,hb⟩;exact⟨rfl,kQ hb (Nat.le_refl _)⟩
  | some t=>
   refine(zHk (szT t) t (Nat.le_refl _) hsz W Sq v (H+2) (H+1) 0 (fun q h=>by have:=HBEL.out q h;omega) (fun h=>by have:=HBEL.out _ h;omega) (InT.below HIN.out HBEL.out hb1) hgg (by omega) (by have:szO (some t)=szT t:=rfl;omega)).mono ?_;rintro e w' ⟨rfl,_,hb⟩;exact⟨rfl,hb⟩
 have HT1:=Lib.hid t1;have HB1:=Lib.hid hb1;have HHs:=Lib.hid hs1;clear t1 t2 t3 hgg hW hb1 hs1 HT;refine key.mono ?_;rintro e w1 ⟨rfl,hg1⟩;have hr1:=kI hg1 HT1.out (by omega);have dr0:=tW hr1;have dr1:=tX hr1;have dr2:=tY hr1;have gx:=fun i=>frozen_of_row w1 H i _ _ hr1
 have gx0:=gx 0;have gx1:=gx 1;have gx2:=gx 2;have HG1:=Lib.hid hg1;clear key hr1 gx hg1;go_wp2_with fail;have hbF:Below H w (((w1.setCell ⟨H,0,none⟩ (.int .i64 (S:Int))).setCell ⟨H,1,none⟩ (.int .i64 (D:Int))).setCell ⟨H,2,none⟩ (.bool G)):=
  (((zPy HB1.out HG1.out (by have:=HHs.out;omega) (fun g hg=>by injection hg with hg;omega)).setCell (Nat.le_refl _) _).setCell (Nat.le_refl _) _).setCell (Nat.le_refl _) _
 exact bodyPost_ret (v:=.agg #[.int .i64 (S:Int),.int .i64 (D:Int),.bool G]) (by simp[results,Tryz.results157,go_sem,dr0,dr1,dr2]) rfl ⟨rfl,by rw[HH.out];exact hbF⟩
theorem yW0 (a b g:Value) (w:World):(Instr.field 181 (.agg #[a,b,g]) 1).run Tryz.prog w=(.ok b w:Result Value):=by kernel_rfl
theorem yW1 (o:Option Tr) (w:World) (Sq:Nat→Prop) (v:Value) (hbel:Bel Sq w.heap.size) (hin:InO w Sq v o) (hsz:szO o≤65536) :
  Calls Tryz.prog 101 #[v] w (yXz (dpO o) w):=by
 have cM:=wI o w Sq v hbel hin hsz;obtain⟨S,hS⟩:∃S,szO o=S:=⟨_,rfl⟩;obtain⟨D,hD⟩:∃D,dpO o=D:=⟨_,rfl⟩;obtain⟨G,hG⟩:∃G,o.isNone=G:=⟨_,rfl⟩;rw[hS,hD,hG] at cM;rw[hD];clear hbel hin hS hD hG
 go_enter Tryz.func101,Tryz.ntmps101
 go_wp2_with fail;refine cM.mono ?_;rintro e w1 ⟨rfl,hb⟩;have hf:=yW0 (.int .i64 (S:Int)) (.int .i64 (D:Int)) (.bool G) w1;go_wp2_with fail
 go_ret
 exact⟨rfl,hb⟩
structure Gs (S:Nat→Prop) (w w':World):Prop where
 os:w'.os=w.os
 tape:w'.tape=w.tape
 output:w'.output=w.output
 size:w.heap.size≤w'.heap.size
 block:∀k,k<w.heap.size→¬S k→w'.heap[k]? = w.heap[k]?
theorem Gs.refl (S:Nat→Prop) (w:World):Gs S w w:=⟨rfl,rfl,rfl,Nat.le_refl _,fun _ _ _=>rfl⟩
theorem Gs.trans {S:Nat→Prop} {a b c:World} (h:Gs S a b) (k:Gs S b c):Gs S a c:=
 ⟨k.os.trans h.os,k.tape.trans h.tape,k.output.trans h.output,Nat.le_trans h.size k.size,fun i hi hn=>(k.block i (Nat.lt_of_lt_of_le hi h.size) hn).trans (h.block i hi hn)⟩
theorem Gs.of {S:Nat→Prop} {w w':World} (u:Up w w'):Gs S w w':=⟨u.os,u.tape,u.output,u.size,fun k hk _=>u.block k hk⟩
theorem Gs.wide {S S':Nat→Prop} {w w':World} (h:Gs S w w') (hS:∀k,k<w.heap.size→S k→S' k):Gs S' w w':=⟨h.os,h.tape,h.output,h.size,fun k hk hn=>h.block k hk fun hs=>hn (hS k hk hs)⟩
theorem Gs.up {S:Nat→Prop} {W w w':World} (u:Up W w) (h:Gs S w w') (hS:∀k,S k→W.heap.size≤k):Up W w':=
 ⟨h.os.trans u.os,h.tape.trans u.tape,h.output.trans u.output,Nat.le_trans u.size h.size,fun k hk=>(h.block k (Nat.lt_of_lt_of_le hk u.size) fun hs=>absurd (hS k hs) (by omega)).trans (u.block k hk)⟩
theorem Gs.row {S:Nat→Prop} {w w':World} (h:Gs S w w') {b:Nat} {o:Obj} (hb:w.heap[b]? = some o) (hn:¬S b):w'.heap[b]? = some o:=(h.block b (qC hb) hn).trans hb
theorem Gs.cell {S:Nat→Prop} {w w':World} (h:Gs S w w') {p:Addr} {v:Value} (hc:w.cell? p=some v) (hn:¬S p.block):w'.cell? p=some v:=(World.cell?_of_block (h.block p.block (yM hc) hn)).trans hc
theorem Gs.alloc {S:Nat→Prop} {a w:World} (h:Gs S a w) (o:Obj):Gs S a (w.alloc o):=h.trans (Gs.of ((Up.refl w).alloc o))
theorem Gs.set {S:Nat→Prop} {a w:World} (h:Gs S a w) (p:Addr) (u:Value) (hp:S p.block∨a.heap.size≤p.block):Gs S a (w.setCell p u):=
 ⟨h.os,h.tape,h.output,by simpa [World.setCell] using h.size,fun k hk hn=>(Below.heap_setCell _ _ _ _ (fun e=>by rcases hp with hp | hp;exact hn (by rw[e];exact hp);omega)).trans (h.block k hk hn)⟩
theorem Gs.grown {S:Nat→Prop} {a w w':World} {r:Option Nat} (h:Gs S a w) (k:w.grownBy w' r) (hr:∀g,r=some g→S g∨a.heap.size≤g):Gs S a w':=
 ⟨k.os.trans h.os,k.tape.trans h.tape,k.output.trans h.output,Nat.le_trans h.size k.size,fun i hi hn=>(k.block i (Nat.lt_of_lt_of_le hi h.size) fun e=>by rcases hr i e.symm with h1 | h1;exact hn h1;omega).trans (h.block i hi hn)⟩
def On (b:Nat) (k:Nat):Prop:=k=b
theorem NewT.gs {S:Nat→Prop} {W a w:World} {v:Value} {t:Tr} (h:NewT W a v t) (u:Gs S a w) (hS:∀k,S k→k<W.heap.size):NewT W w v t:=
 InT.keep h (fun _ hq=>⟨hq.1,Nat.lt_of_lt_of_le hq.2 u.size⟩) fun k hk=>u.block k hk.2 fun hs=>by have:=hS k hs;have:=hk.1;omega
def Psr (w:World) (b:Nat) (v:Value) (i:Nat) (e:Int):Prop:=w.heap[b]? = some (.cells #[v,.int .i64 (i:Int),.int .i64 e] 99 (0,0))
theorem Psr.cells {w:World} {b:Nat} {v:Value} {i:Nat} {e:Int} (h:Psr w b v i e):w.cell? ⟨b,0,none⟩=some v∧w.cell? ⟨b,1,none⟩=some (.int .i64 (i:Int))∧w.cell? ⟨b,2,none⟩=some (.int .i64 e)∧w.frozen? ⟨b,1,none⟩=false∧w.frozen? ⟨b,2,none⟩=false:=
 ⟨cell_of_row w b 0 _ _ _ h,cell_of_row w b 1 _ _ _ h,cell_of_row w b 2 _ _ _ h,frozen_of_row w b 1 _ _ h,frozen_of_row w b 2 _ _ h⟩
theorem Psr.up {w w':World} {b:Nat} {v:Value} {i:Nat} {e:Int} (h:Psr w b v i e) (u:Up w w'):Psr w' b v i e:=u.row h
theorem Psr.at {w:World} {b:Nat} {v:Value} {i:Nat} {e:Int} (h:Psr w b v i e) (j:Int) (k:Nat) (hj:j=(k:Int)):Psr (w.setCell ⟨b,1,none⟩ (.int .i64 j)) b v k e:=by
 unfold Psr at h ⊢
 simp[World.setCell,Array.getElem?_modify,h,hj]
theorem Psr.er {w:World} {b:Nat} {v:Value} {i:Nat} {e:Int} (h:Psr w b v i e) (e':Int):Psr (w.setCell ⟨b,2,none⟩ (.int .i64 e')) b v i e':=by
 unfold Psr at h ⊢
 simp[World.setCell,Array.getElem?_modify,h]
structure Toks (nk lg:ByteArray→Bool) (W0:World) (v:Value) (l:List Tk):Prop where
 key:∀(i:Nat) (x:ByteArray) (w:World),Up W0 w→Calls Tryz.prog 166 #[v,.int .i64 (i:Int),.string x] w (BoU (key l i x) w)
 name:∀(i:Nat) (w:World),Up W0 w→Calls Tryz.prog 50 #[v,.int .i64 (i:Int)] w (NaP (nam nk l i) w)
 long:∀(i:Nat) (w:World),Up W0 w→Calls Tryz.prog 115 #[v,.int .i64 (i:Int)] w (NaP (nam lg l i) w)
def PsP (S:Nat→Prop) (b:Nat) (v:Value) (i:Nat) (e:Int) (w:World) (en:Ending) (w':World):Prop:=(∃u,en = .returned u)∧Gs S w w'∧Psr w' b v i e
theorem nJ (b:Nat) (v:Value) (i:Nat) (e er:Int) (w:World) (h:Psr w b v i e) :
  Calls Tryz.prog 114 #[.pointer (some ⟨b,0,none⟩),.int .i64 er] w (PsP (On b) b v i (if e=0 then er else e) w):=by
 obtain⟨c0,c1,c2,f1,f2⟩:=h.cells;have hb:b<w.heap.size:=qC h;have H:=Lib.hid h;clear h
 by_cases he:e=0
 ·rw[if_pos he]
  subst he
  go_enter Tryz.func114,Tryz.ntmps114
  go_wp2_with fail;go_end0;exact⟨⟨_,rfl⟩,(Gs.refl _ _).set _ _ (.inl rfl),H.out.er _⟩
 ·rw[if_neg he]
  go_enter Tryz.func114,Tryz.ntmps114
  go_wp2_with fail;go_end0;exact⟨⟨_,rfl⟩,Gs.refl _ _,H.out⟩
def tkB (l:List Tk) (i:Nat) (e:Int) (x:ByteArray):Bool:=decide (e=0)&&key l i x
section
variable {nk lg:ByteArray→Bool}
theorem gK {W0:World} {l:List Tk} (b:Nat) (v:Value) (i:Nat) (e:Int) (x:ByteArray) (w:World) (T:Toks nk lg W0 v l) (h:Psr w b v i e) (hu:Up W0 w) :
  Calls Tryz.prog 110 #[.pointer (some ⟨b,0,none⟩),.string x] w (BoU (tkB l i e x) w):=by
 obtain⟨c0,c1,c2,f1,f2⟩:=h.cells;have hb:b<w.heap.size:=qC h;clear h f1 f2
 by_cases he:e=0
 ·subst he
  have c0u:∀u:Upw w,u.w.cell? ⟨b,0,none⟩=some v:=Upw.cell c0;have c1u:∀u:Upw w,u.w.cell? ⟨b,1,none⟩=some (.int .i64 (i:Int)):=Upw.cell c1;have c2u:∀u:Upw w,u.w.cell? ⟨b,2,none⟩=some (.int .i64 0):=Upw.cell c2;have CK:∀u:Upw w,Calls Tryz.prog 166 #[v,.int .i64 (i:Int),.string x] u.w fun e w'=>e = .returned (.bool (key l i x))∧Up w w':=fun u=>(T.key i x u.w (hu.trans u.h)).mono fun e w' ⟨h1,h2⟩=>⟨h1,u.h.trans h2⟩
  have HK:=Lib.hid CK;have U0:=Lib.hid (Up.refl w);have HB:Hid (tkB l i 0 x=key l i x):=Lib.hid (by unfold tkB;rw[decide_eq_true rfl,Bool.true_and]);rw[HB.out];clear CK c0 c1 c2 hu T
  go_enter Tryz.func110,Tryz.ntmps110
  go_wp2_with fail;refine qE (W:=w) U0.out (by kernel_rfl) (by kernel_rfl) ?_
  repeat (go_big_quiet_step (first
   | (go_at_call 166;exact Calls.upw (HK.out _))))
  refine wpQuiet_nil ?_;rintro _ ⟨⟨w9,u9⟩,rfl⟩;go_wp2_with fail
  go_ret
  exact kM rfl u9
 ·have HB:Hid (tkB l i e x=false):=Lib.hid (by unfold tkB;rw[decide_eq_false he,Bool.false_and])
  rw[HB.out];have he':(e==0)=false:=by rw[beq_eq_false_iff_ne];exact he
  have c2u:∀u:Upw w,u.w.cell? ⟨b,2,none⟩=some (.int .i64 e):=Upw.cell c2;have U0:=Lib.hid (Up.refl w);clear c0 c1 c2 hu T he
  go_enter Tryz.func110,Tryz.ntmps110
  go_wp2_with fail;refine qE (W:=w) U0.out (by kernel_rfl) (by kernel_rfl) ?_
  repeat (go_big_quiet_step (fail))
  refine wpQuiet_nil ?_;rintro _ ⟨⟨w9,u9⟩,rfl⟩;go_wp2_with fail
  go_ret
  exact kM rfl u9
def TaP (b:Nat) (v:Value) (i:Nat) (e:Int) (d:Bool) (w:World) (en:Ending) (w':World):Prop:=en = .returned (.bool d)∧Gs (On b) w w'∧Psr w' b v (if d then i+1 else i) e
theorem qY {W0:World} {l:List Tk} (b:Nat) (v:Value) (i:Nat) (e:Int) (x:ByteArray) (w:World) (T:Toks nk lg W0 v l) (h:Psr w b v i e) (hu:Up W0 w) (hi:i≤1000000) :
  Calls Tryz.prog 47 #[.pointer (some ⟨b,0,none⟩),.string x] w (TaP b v i e (tkB l i e x) w):=by
 have cS:=gK b v i e x w T h hu;have hb:b<w.heap.size:=qC h;have H:=Lib.hid h;obtain⟨d,hd⟩:∃d,tkB l i e x=d:=⟨_,rfl⟩;rw[hd] at cS ⊢;have hw:IntKind.i64.wrap ((i:Int)+1)=(i:Int)+1:=by rw[IntKind.wrap_i64];omega
 clear h hu T hd
 cases d
 ·go_enter Tryz.func47,Tryz.ntmps47
  go_wp2_with fail;refine cS.mono ?_;rintro en w1 ⟨rfl,u1⟩;go_wp2_with fail
  go_ret
  exact⟨rfl,Gs.of u1,H.out.up u1⟩
 ·go_enter Tryz.func47,Tryz.ntmps47
  go_wp2_with fail;refine cS.mono ?_;rintro en w1 ⟨rfl,u1⟩;have h1:=H.out.up u1;obtain⟨c0,c1,c2,f1,f2⟩:=h1.cells;have H1:=Lib.hid h1;have G1:=Lib.hid (Gs.of (S:=On b) u1);clear u1 h1 c0 c2 f2;go_wp2_with fail
  go_ret
  exact⟨rfl,G1.out.set _ _ (.inl rfl),H1.out.at _ _ (by rw[if_pos rfl];omega)⟩
def neI (i:Nat) (d:Bool):Nat:=if d then i+1 else i
def neE (e:Int) (d:Bool):Int:=if d then e else if e=0 then 6 else e
theorem xJ {W0:World} {l:List Tk} (b:Nat) (v:Value) (i:Nat) (e:Int) (x:ByteArray) (w:World) (T:Toks nk lg W0 v l) (h:Psr w b v i e) (hu:Up W0 w) (hi:i≤1000000) :
  Calls Tryz.prog 52 #[.pointer (some ⟨b,0,none⟩),.string x] w (PsP (On b) b v (neI i (tkB l i e x)) (neE e (tkB l i e x)) w):=by
 have cS:=qY b v i e x w T h hu hi;obtain⟨d,hd⟩:∃d,tkB l i e x=d:=⟨_,rfl⟩;rw[hd] at cS ⊢;clear h hu T hd
 cases d
 ·go_enter Tryz.func52,Tryz.ntmps52
  go_wp2_with fail;refine cS.mono ?_;rintro en w1 ⟨rfl,g1,h1⟩;go_wp2_with fail;refine(nJ b v i e 6 w1 h1).mono ?_;rintro en w2 ⟨⟨u,rfl⟩,g2,h2⟩;go_wp2_with fail;go_end0;exact⟨⟨_,rfl⟩,g1.trans g2,h2⟩
 ·go_enter Tryz.func52,Tryz.ntmps52
  go_wp2_with fail;refine cS.mono ?_;rintro en w1 ⟨rfl,g1,h1⟩;go_wp2_with fail;go_end0;exact⟨⟨_,rfl⟩,g1,h1⟩
end
end Go.Proofs.YtbpijnalmakfaaaGreatDoor
