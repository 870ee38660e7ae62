/-
  Layer 6, the program's parser: where it stands; its small steps fail, sees, takes, needs, named.
-/
import Derived.Test.YtgeghilbikljcaaGreatDoorGs05
import Derived.Test.YtgeghilbikljcaaGreatDoorGs09
import Derived.LoopIn
import Derived.LoopNIn
import Derived.OwnWalkIn
import Derived.RangeFuncBound
import Derived.RangeFuncBox
import Derived.RangeFuncCalls
import Derived.RangeFuncLeaves
import Derived.RangeFuncNested
import Derived.Shelf.Abstract
import Derived.TacticsInMore
set_option maxHeartbeats 40000000
set_option maxRecDepth 100000
namespace Go.Proofs.YtgeghilbikljcaaGreatDoor
open Go.RowKit
structure Gs (S:Nat->Prop) (w w':World):Prop where
 os:w'.os=w.os
 tape:w'.tape=w.tape
 output:w'.output=w.output
 size:w.heap.size<=w'.heap.size
 block:∀k,k<w.heap.size->¬S k->w'.heap[k]? = w.heap[k]?
theorem Gs.refl (S:Nat->Prop) (w:World):Gs S w w:=⟨rfl,rfl,rfl,Nat.le_refl _,fun _ _ _=>rfl⟩
theorem Gs.trans {S:Nat->Prop} {a b c:World} (h:Gs S a b) (k:Gs S b c):Gs S a c:=
 ⟨k.os.trans h.os,k.tape.trans h.tape,k.output.trans h.output,Nat.le_trans h.size k.size,fun i hi hn=>(k.block i (Nat.lt_of_lt_of_le hi h.size) hn).trans (h.block i hi hn)⟩
theorem Gs.of {S:Nat->Prop} {w w':World} (u:Up w w'):Gs S w w':=⟨u.os,u.tape,u.output,u.size,fun k hk _=>u.block k hk⟩
theorem Gs.wide {S S':Nat->Prop} {w w':World} (h:Gs S w w') (hS:∀k,k<w.heap.size->S k->S' k):Gs S' w w':=⟨h.os,h.tape,h.output,h.size,fun k hk hn=>h.block k hk fun hs=>hn (hS k hk hs)⟩
theorem Gs.up {S:Nat->Prop} {W w w':World} (u:Up W w) (h:Gs S w w') (hS:∀k,S k->W.heap.size<=k):Up W w':=
 ⟨h.os.trans u.os,h.tape.trans u.tape,h.output.trans u.output,Nat.le_trans u.size h.size,fun k hk=>(h.block k (Nat.lt_of_lt_of_le hk u.size) fun hs=>absurd (hS k hs) (by omega)).trans (u.block k hk)⟩
theorem Gs.row {S:Nat->Prop} {w w':World} (h:Gs S w w') {b:Nat} {o:Obj} (hb:w.heap[b]? = some o) (hn:¬S b):w'.heap[b]? = some o:=(h.block b (qC hb) hn).trans hb
theorem Gs.cell {S:Nat->Prop} {w w':World} (h:Gs S w w') {p:Addr} {v:Value} (hc:w.cell? p=some v) (hn:¬S p.block):w'.cell? p=some v:=(World.cell?_of_block (h.block p.block (zQ hc) hn)).trans hc
theorem Gs.alloc {S:Nat->Prop} {a w:World} (h:Gs S a w) (o:Obj):Gs S a (w.alloc o):=h.trans (Gs.of ((Up.refl w).alloc o))
theorem Gs.set {S:Nat->Prop} {a w:World} (h:Gs S a w) (p:Addr) (u:Value) (hp:S p.block\/a.heap.size<=p.block):Gs S a (w.setCell p u):=
 ⟨h.os,h.tape,h.output,by simpa [World.setCell] using h.size,fun k hk hn=>(Below.heap_setCell _ _ _ _ (fun e=>by rcases hp with hp | hp;exact hn (by rw[e];exact hp);omega)).trans (h.block k hk hn)⟩
theorem Gs.grown {S:Nat->Prop} {a w w':World} {r:Option Nat} (h:Gs S a w) (k:w.grownBy w' r) (hr:∀g,r=some g->S g\/a.heap.size<=g):Gs S a w':=
 ⟨k.os.trans h.os,k.tape.trans h.tape,k.output.trans h.output,Nat.le_trans h.size k.size,fun i hi hn=>(k.block i (Nat.lt_of_lt_of_le hi h.size) fun e=>by rcases hr i e.symm with h1 | h1;exact hn h1;omega).trans (h.block i hi hn)⟩
def On (b:Nat) (k:Nat):Prop:=k=b
theorem NewT.gs {S:Nat->Prop} {W a w:World} {v:Value} {t:Tr} (h:NewT W a v t) (u:Gs S a w) (hS:∀k,S k->k<W.heap.size):NewT W w v t:=
 InT.keep h (fun _ hq=>⟨hq.1,Nat.lt_of_lt_of_le hq.2 u.size⟩) fun k hk=>u.block k hk.2 fun hs=>by have:=hS k hs;have:=hk.1;omega
def Psr (w:World) (b:Nat) (v:Value) (i:Nat) (e:Int):Prop:=w.heap[b]? = some (.cells #[v,.int .i64 (i:Int),.int .i64 e] 67 (0,0))
theorem Psr.cells {w:World} {b:Nat} {v:Value} {i:Nat} {e:Int} (h:Psr w b v i e):w.cell? ⟨b,0,none⟩=some v/\w.cell? ⟨b,1,none⟩=some (.int .i64 (i:Int))/\w.cell? ⟨b,2,none⟩=some (.int .i64 e)/\w.frozen? ⟨b,1,none⟩=false/\w.frozen? ⟨b,2,none⟩=false:=
 ⟨cell_of_row w b 0 _ _ _ h,cell_of_row w b 1 _ _ _ h,cell_of_row w b 2 _ _ _ h,frozen_of_row w b 1 _ _ h,frozen_of_row w b 2 _ _ h⟩
theorem Psr.up {w w':World} {b:Nat} {v:Value} {i:Nat} {e:Int} (h:Psr w b v i e) (u:Up w w'):Psr w' b v i e:=u.row h
theorem Psr.at {w:World} {b:Nat} {v:Value} {i:Nat} {e:Int} (h:Psr w b v i e) (j:Int) (k:Nat) (hj:j=(k:Int)):Psr (w.setCell ⟨b,1,none⟩ (.int .i64 j)) b v k e:=by
 unfold Psr at h ⊢
 simp[World.setCell,Array.getElem?_modify,h,hj]
theorem Psr.er {w:World} {b:Nat} {v:Value} {i:Nat} {e:Int} (h:Psr w b v i e) (e':Int):Psr (w.setCell ⟨b,2,none⟩ (.int .i64 e')) b v i e':=by
 unfold Psr at h ⊢
 simp[World.setCell,Array.getElem?_modify,h]
structure Toks (nk lg:ByteArray->Bool) (W0:World) (v:Value) (l:List Tk):Prop where
 key:∀(i:Nat) (x:ByteArray) (w:World),Up W0 w->Calls Tryz.prog 114 #[v,.int .i64 (i:Int),.string x] w (BoU (key l i x) w)
 name:∀(i:Nat) (w:World),Up W0 w->Calls Tryz.prog 75 #[v,.int .i64 (i:Int)] w (NaP (nam nk l i) w)
 long:∀(i:Nat) (w:World),Up W0 w->Calls Tryz.prog 45 #[v,.int .i64 (i:Int)] w (NaP (nam lg l i) w)
def PsP (S:Nat->Prop) (b:Nat) (v:Value) (i:Nat) (e:Int) (w:World) (en:Ending) (w':World):Prop:=(∃u,en = .returned u)/\Gs S w w'/\Psr w' b v i e
theorem fQ (b:Nat) (v:Value) (i:Nat) (e er:Int) (w:World) (h:Psr w b v i e) :
  Calls Tryz.prog 76 #[.pointer (some ⟨b,0,none⟩),.int .i64 er] w (PsP (On b) b v i (if e=0 then er else e) w):=by
 obtain⟨c0,c1,c2,f1,f2⟩:=h.cells;have hb:b<w.heap.size:=qC h;have H:=Lib.hid h;clear h
 by_cases he:e=0
 ·rw[if_pos he]
  subst he
  go_enter Tryz.func76,Tryz.ntmps76
  go_wp2_with fail;go_end0;exact⟨⟨_,rfl⟩,(Gs.refl _ _).set _ _ (.inl rfl),H.out.er _⟩
 ·rw[if_neg he]
  go_enter Tryz.func76,Tryz.ntmps76
  go_wp2_with fail;go_end0;exact⟨⟨_,rfl⟩,Gs.refl _ _,H.out⟩
def tkB (l:List Tk) (i:Nat) (e:Int) (x:ByteArray):Bool:=decide (e=0)&&key l i x
section
variable {nk lg:ByteArray->Bool}
theorem kW {W0:World} {l:List Tk} (b:Nat) (v:Value) (i:Nat) (e:Int) (x:ByteArray) (w:World) (T:Toks nk lg W0 v l) (h:Psr w b v i e) (hu:Up W0 w) :
  Calls Tryz.prog 63 #[.pointer (some ⟨b,0,none⟩),.string x] w (BoU (tkB l i e x) w):=by
 obtain⟨c0,c1,c2,f1,f2⟩:=h.cells;have hb:b<w.heap.size:=qC h;clear h f1 f2
 by_cases he:e=0
 ·subst he
  have c0u:∀u:Upw w,u.w.cell? ⟨b,0,none⟩=some v:=Upw.cell c0;have c1u:∀u:Upw w,u.w.cell? ⟨b,1,none⟩=some (.int .i64 (i:Int)):=Upw.cell c1;have c2u:∀u:Upw w,u.w.cell? ⟨b,2,none⟩=some (.int .i64 0):=Upw.cell c2;have CK:∀u:Upw w,Calls Tryz.prog 114 #[v,.int .i64 (i:Int),.string x] u.w fun e w'=>e = .returned (.bool (key l i x))/\Up w w':=fun u=>(T.key i x u.w (hu.trans u.h)).mono fun e w' ⟨h1,h2⟩=>⟨h1,u.h.trans h2⟩
  have HK:=Lib.hid CK;have U0:=Lib.hid (Up.refl w);have HB:Hid (tkB l i 0 x=key l i x):=Lib.hid (by unfold tkB;rw[decide_eq_true rfl,Bool.true_and]);rw[HB.out];clear CK c0 c1 c2 hu T
  go_enter Tryz.func63,Tryz.ntmps63
  go_wp2_with fail;refine jA (W:=w) U0.out (by kernel_rfl) (by kernel_rfl) ?_
  repeat (go_big_quiet_step (first
   | (go_at_call 114;exact Calls.upw (HK.out _))))
  refine wpQuiet_nil ?_;rintro _ ⟨⟨w9,u9⟩,rfl⟩;go_wp2_with fail
  go_ret
  exact yQ rfl u9
 ·have HB:Hid (tkB l i e x=false):=Lib.hid (by unfold tkB;rw[decide_eq_false he,Bool.false_and])
  rw[HB.out];have he':(e==0)=false:=by rw[beq_eq_false_iff_ne];exact he
  have c2u:∀u:Upw w,u.w.cell? ⟨b,2,none⟩=some (.int .i64 e):=Upw.cell c2;have U0:=Lib.hid (Up.refl w);clear c0 c1 c2 hu T he
  go_enter Tryz.func63,Tryz.ntmps63
  go_wp2_with fail;refine jA (W:=w) U0.out (by kernel_rfl) (by kernel_rfl) ?_
  repeat (go_big_quiet_step (fail))
  refine wpQuiet_nil ?_;rintro _ ⟨⟨w9,u9⟩,rfl⟩;go_wp2_with fail
  go_ret
  exact yQ rfl u9
def TaP (b:Nat) (v:Value) (i:Nat) (e:Int) (d:Bool) (w:World) (en:Ending) (w':World):Prop:=en = .returned (.bool d)/\Gs (On b) w w'/\Psr w' b v (if d then i+1 else i) e
theorem qU {W0:World} {l:List Tk} (b:Nat) (v:Value) (i:Nat) (e:Int) (x:ByteArray) (w:World) (T:Toks nk lg W0 v l) (h:Psr w b v i e) (hu:Up W0 w) (hi:i<=1000000) :
  Calls Tryz.prog 38 #[.pointer (some ⟨b,0,none⟩),.string x] w (TaP b v i e (tkB l i e x) w):=by
 have cS:=kW b v i e x w T h hu;have hb:b<w.heap.size:=qC h;have H:=Lib.hid h;obtain⟨d,hd⟩:∃d,tkB l i e x=d:=⟨_,rfl⟩;rw[hd] at cS ⊢;have hw:IntKind.i64.wrap ((i:Int)+1)=(i:Int)+1:=by rw[IntKind.wrap_i64];omega
 clear h hu T hd
 cases d
 ·go_enter Tryz.func38,Tryz.ntmps38
  go_wp2_with fail;refine cS.mono ?_;rintro en w1 ⟨rfl,u1⟩;go_wp2_with fail
  go_ret
  exact⟨rfl,Gs.of u1,H.out.up u1⟩
 ·go_enter Tryz.func38,Tryz.ntmps38
  go_wp2_with fail;refine cS.mono ?_;rintro en w1 ⟨rfl,u1⟩;have h1:=H.out.up u1;obtain⟨c0,c1,c2,f1,f2⟩:=h1.cells;have H1:=Lib.hid h1;have G1:=Lib.hid (Gs.of (S:=On b) u1);clear u1 h1 c0 c2 f2;go_wp2_with fail
  go_ret
  exact⟨rfl,G1.out.set _ _ (.inl rfl),H1.out.at _ _ (by rw[if_pos rfl];omega)⟩
def neI (i:Nat) (d:Bool):Nat:=if d then i+1 else i
def neE (e:Int) (d:Bool):Int:=if d then e else if e=0 then 6 else e
theorem yG {W0:World} {l:List Tk} (b:Nat) (v:Value) (i:Nat) (e:Int) (x:ByteArray) (w:World) (T:Toks nk lg W0 v l) (h:Psr w b v i e) (hu:Up W0 w) (hi:i<=1000000) :
  Calls Tryz.prog 43 #[.pointer (some ⟨b,0,none⟩),.string x] w (PsP (On b) b v (neI i (tkB l i e x)) (neE e (tkB l i e x)) w):=by
 have cS:=qU b v i e x w T h hu hi;obtain⟨d,hd⟩:∃d,tkB l i e x=d:=⟨_,rfl⟩;rw[hd] at cS ⊢;clear h hu T hd
 cases d
 ·go_enter Tryz.func43,Tryz.ntmps43
  go_wp2_with fail;refine cS.mono ?_;rintro en w1 ⟨rfl,g1,h1⟩;go_wp2_with fail;refine(fQ b v i e 6 w1 h1).mono ?_;rintro en w2 ⟨⟨u,rfl⟩,g2,h2⟩;go_wp2_with fail;go_end0;exact⟨⟨_,rfl⟩,g1.trans g2,h2⟩
 ·go_enter Tryz.func43,Tryz.ntmps43
  go_wp2_with fail;refine cS.mono ?_;rintro en w1 ⟨rfl,g1,h1⟩;go_wp2_with fail;go_end0;exact⟨⟨_,rfl⟩,g1,h1⟩
end
def EntF (k:FuncId):Prop:=∀(args:Array Value) (w:World),(callFunc k args).run Tryz.prog w = .ok (.enter k args) w
theorem xK:(Tryz.prog.info? 24).map (fun i=>(i.zero,i.size,i.bytes))=some (some (.pointer none),1,8):=by kernel_rfl
def PaT (S:Nat->Prop) (b:Nat) (v:Value) (R:Rs Tr) (J:Tr->World->Prop) (w:World) (en:Ending) (w':World):Prop:=
 ∃A,en = .returned (.pointer A)/\Gs S w w'/\match R with
  | .inl (t,j)=>NewT w w' (.pointer A) t/\Psr w' b v j 0/\J t w'
  | .inr (p,r)=>Psr w' b v p r
def Ptrs (ps:List Value):Prop:=∀u∈ps,∃A,u = .pointer A
theorem Ptrs.snoc {ps:List Value} (h:Ptrs ps) (A:Option Addr):Ptrs (ps++[.pointer A]):=fun u hu=>by
 rcases List.mem_append.1 hu with hu | hu
 ·exact h u hu
 ·exact⟨A,List.mem_singleton.1 hu⟩
structure RwO (B0:Nat) (w:World) (vo:Value) (ps:List Value):Prop where
 own:w.ownsRow B0 24 1 vo ps.length ps
 ptr:Ptrs ps
theorem xF {S:Nat->Prop} {B0:Nat} {a b:World} {v:Value} {n:Nat} {xs:List Value} {e:TypeId} (h:a.ownsRow B0 e 1 v n xs) (u:Gs S a b) (hS:∀k,S k->k<B0):b.ownsRow B0 e 1 v n xs:=by
 obtain⟨h1,h2⟩:=h;refine⟨h1,?_⟩
 rcases h2 with h2 | ⟨g,cap,cur,h3,h4,h5,h6⟩
 ·exact .inl h2
 ·exact .inr ⟨g,cap,cur,h3,h4,u.row h5 (fun hs=>by have:=hS g hs;omega),h6⟩
def RwT (W w:World) (vo:Value) (ps:List Value) (f:Fr):Prop:=PtF w (fun q=>NewS W w q/\vo.ownBlock≠some q) ps f
theorem RwT.gs {S:Nat->Prop} {W w w':World} {vo:Value} {ps:List Value} {f:Fr} (h:RwT W w vo ps f) (g:Gs S w w') (hS:∀k,S k->k<W.heap.size):RwT W w' vo ps f:=
 PtF.keep (fun _ hq=>⟨⟨hq.1.1,Nat.lt_of_lt_of_le hq.1.2 g.size⟩,hq.2⟩) (fun q hq=>g.block q hq.1.2 fun hs=>by have:=hS q hs;have:=hq.1.1;omega) h
theorem RwT.len {W w:World} {vo:Value} {ps:List Value} {f:Fr} (h:RwT W w vo ps f):ps.length=f.len:=PtF.len h
def RowP (S:Nat->Prop) (b:Nat) (v:Value) (R:Rs Fr) (J:Fr->World->Prop) (w:World) (en:Ending) (w':World):Prop:=
 ∃vo ps,en = .returned vo/\RwO w.heap.size w' vo ps/\0<ps.length/\ps.length<=1000002/\Gs S w w'/\match R with
  | .inl (f,j)=>RwT w w' vo ps f/\Psr w' b v j 0/\J f w'
  | .inr (p,r)=>Psr w' b v p r
def posW (b:Nat) (w:World):Nat:=match w.cell? ⟨b,1,none⟩ with
 | some v=>(intOf v).toNat
 | none=>0
theorem Psr.pos {w:World} {b:Nat} {v:Value} {i:Nat} {e:Int} (h:Psr w b v i e):posW b w=i:=by
 unfold posW;rw[h.cells.2.1]
 simp[intOf]
section
variable {nk lg:ByteArray->Bool}
inductive RwL (i0:Nat) (l:List Tk) (m:ByteArray) (b:Nat) (v:Value) (R:Rs Fr) (F:Fr->Nat->Rs Fr) (J:Fr->World->Prop) (W w:World) (vo:Value) (ps:List Value):Prop
 | good (acc:Fr) (j:Nat) (hlo:i0<=j) (hj:j<=l.length) (hacc:acc.len+i0<=j) (hR:R=if key l j m then F acc (j+1) else .inl (acc,j)) (hT:RwT W w vo ps acc) (hp:Psr w b v j 0) (hJ:J acc w):RwL i0 l m b v R F J W w vo ps
 | bad (p:Nat) (r:Int) (hr:¬r=0) (hpl:p<=l.length) (hR:R = .inr (p,r)) (hp:Psr w b v p r):RwL i0 l m b v R F J W w vo ps
theorem RwT.more {S:Nat->Prop} {W w w5 w6:World} {vo v6:Value} {ps:List Value} {f:Fr} {t:Tr} {A:Option Addr} {g:Nat} (h:RwT W w vo ps f) (hS:∀k,S k->k<W.heap.size) (u:Gs S w w5) (hW:W.heap.size<=w.heap.size) (hlt:∀g,vo.ownBlock=some g->g<w.heap.size)
  (ht:NewT w w5 (.pointer A) t) (hv:v6.ownBlock=some g) (hg:w5.grownBy w6 vo.ownBlock) (hat:vo.ownBlock=some g\/g=w5.heap.size):RwT W w6 v6 (ps++[.pointer A]) (f.app (fr1 t)):=by
 have hz:=hg.size;have hgn:∀q,q<w5.heap.size->vo.ownBlock≠some q->v6.ownBlock≠some q:=fun q hq hne e=>by
  rw[hv] at e;injection e with e
  rcases hat with h1 | h1
  ·rw[e] at h1;exact hne h1
  ·omega
 have kp:∀q,q<w5.heap.size->vo.ownBlock≠some q->w6.heap[q]? = w5.heap[q]?:=fun q hq hne=>hg.block q hq fun e=>hne e.symm
 have h5:=h.gs u hS;refine PtF.snoc (t:=t) ?_ (PtF.keep (fun q hq=>⟨⟨hq.1.1,by have:=hq.1.2;omega⟩,hgn q hq.1.2 hq.2⟩) (fun q hq=>kp q hq.1.2 hq.2) h5);have hne:∀q,NewS w w5 q->vo.ownBlock≠some q:=fun q hq e=>by have:=hlt q e;have:=hq.1;omega
 exact InT.keep ht (fun q hq=>⟨⟨by have:=hq.1;omega,by have:=hq.2;omega⟩,hgn q hq.2 (hne q hq)⟩) fun q hq=>kp q hq.2 (hne q hq)
theorem lJ {W0 w0:World} {l:List Tk} (b:Nat) (v:Value) (S:Nat->Prop) (hS:∀k,S k->k<w0.heap.size) (hSb:S b) (hSW:∀k,S k->W0.heap.size<=k) (m:ByteArray) (part:Fr->Nat->Rs Tr) (ha:∀acc i,Ahead i (part acc i)) (hle:∀acc i,i<=l.length->LeOk l.length (part acc i))
  (k:FuncId) (pre cap:Array Value) (hE:EntF k) (J:Fr->World->Prop) (hJ:∀acc w w',J acc w->(∀q,q<w0.heap.size->q≠b->w'.heap[q]? = w.heap[q]?)->J acc w')
  (F:Fr->Nat->Rs Fr) (hF:∀acc i,i<=l.length->F acc i=rowS l m (part acc i) acc F)
  (i:Nat) (hi:i<=l.length)
  (hp:∀acc j w,i<=j->j<=l.length->acc.len+i<=j->Gs S w0 w->J acc w->Psr w b v j 0->Calls Tryz.prog k (pre++cap) w (PaT S b v (part acc j) (fun t=>J (acc.app (fr1 t))) w))
  (T:Toks nk lg W0 v l) (hu:Up W0 w0) (hl:l.length<=100000) (h:Psr w0 b v i 0) (hJ0:J .nil w0) :
  Calls Tryz.prog 179 #[.pointer (some ⟨b,0,none⟩),.string m,.func (.func k) pre cap] w0 (RowP S b v (F .nil i) J w0):=by
 have cP:=hp .nil i w0 (Nat.le_refl _) hi (Nat.le_of_eq (Nat.zero_add i)) (Gs.refl _ _) hJ0 h;obtain⟨R,hR⟩:∃R,F .nil i=R:=⟨_,rfl⟩;have hR0:R=rowS l m (part .nil i) .nil F:=by rw[<- hR,hF .nil i hi]
 rw[hR];have HR0:=Lib.hid hR0;have HF:=Lib.hid hF;have HP:=Lib.hid hp;have HJ:=Lib.hid hJ;have HS:=Lib.hid hS;have HA:=Lib.hid ha;have HLE:=Lib.hid hle;have HSW:=Lib.hid hSW;have HE:=Lib.hid hE;have HB0:b<w0.heap.size:=hS b hSb;have hAh:=ha .nil i;have hLe:=hle .nil i hi;have HU:=Lib.hid hu;clear hF hp hJ hS ha hle hSW hJ0 hR hR0 hu h;obtain⟨i0,hi0,hz0,hz1,hz2⟩:=info_parts nI
 go_enter Tryz.func179,Tryz.ntmps179
 go_wp2_with fail;rw[HE.out,Oper.upon_enter];refine cP.mono ?_;rintro en w1 ⟨A1,rfl,g1,hR1⟩;go_wp2_with fail;obtain⟨W1,hW1⟩:∃W1,w1.alloc (.cells #[.pointer A1] 24)=W1:=⟨_,rfl⟩;have u1:Up w1 W1:=by rw[<- hW1];exact(Up.refl w1).alloc _
 have ho1:W1.ownsRow w0.heap.size 24 1 (.slice (some ⟨w1.heap.size,0,none⟩) 1 1) 1 [.pointer A1]:=by rw[<- hW1];exact World.ownsRow_lit w1 #[.pointer A1] 1 g1.size (by unfold maxLen;omega) rfl
 have hst:RwL i l m b v R F J w0 W1 (.slice (some ⟨w1.heap.size,0,none⟩) 1 1) [.pointer A1]:=by
  cases hp0:part .nil i with
  | inr e=>
   obtain⟨p,r⟩:=e;rw[hp0] at hR1 hLe;refine .bad p r (hLe.2 p r rfl) hLe.1 (by rw[HR0.out,hp0];rfl) (Psr.up hR1 u1)
  | inl e=>
   obtain⟨t,j⟩:=e;rw[hp0] at hR1 hLe hAh;obtain⟨n1,p1,j1⟩:=hR1;have hij:i<j:=hAh;refine .good (Fr.app .nil (fr1 t)) j (Nat.le_of_lt hij) hLe.1 (by show 1+i<=j;omega) (by rw[HR0.out,hp0];rfl) ?_ (p1.up u1) (HJ.out _ _ _ j1 fun q hq _=>u1.block q (by have:=g1.size;omega));have hs1:w1.heap.size<W1.heap.size:=by rw[<- hW1];simp
   exact⟨InT.keep n1 (fun q hq=>⟨⟨hq.1,by have:=hq.2;omega⟩,fun e=>by injection e with e;have:=hq.2;simp only at e;omega⟩) (fun q hq=>u1.block q hq.2),trivial⟩
 have HST1:=Lib.hid hst;have HO1:=Lib.hid ho1;have HG1:Hid (Gs S w0 W1):=Lib.hid (g1.trans (Gs.of u1));have HC:Hid (∀(j:Nat) (w:World),Gs S w0 w->Psr w b v j 0->j<=l.length->Calls Tryz.prog 38 #[.pointer (some ⟨b,0,none⟩),.string m] w (TaP b v j 0 (key l j m) w)):=Lib.hid fun j w g hps hj=>by
  have h:=qU b v j 0 m w T hps (g.up HU.out HSW.out) (by omega);have e:tkB l j 0 m=key l j m:=by unfold tkB;rw[decide_eq_true rfl,Bool.true_and]
  rw[e] at h;exact h
 have HCE:Hid (∀(j:Nat) (r:Int) (w:World),¬r=0->Gs S w0 w->Psr w b v j r->j<=1000000->Calls Tryz.prog 38 #[.pointer (some ⟨b,0,none⟩),.string m] w (TaP b v j r false w)):=Lib.hid fun j r w hr g hps hj=>by
  have h:=qU b v j r m w T hps (g.up HU.out HSW.out) hj;have e:tkB l j r m=false:=by unfold tkB;rw[decide_eq_false hr,Bool.false_and]
  rw[e] at h;exact h
 rw[hW1];clear hst ho1 u1 g1 hR1 cP hW1 hAh hLe T
 go_loopw [7] (fun vo wr=>∃ps,wr.ownsRow w0.heap.size 24 1 vo ps.length ps/\Ptrs ps/\0<ps.length/\ps.length<=l.length+1/\Gs S w0 wr/\RwL i l m b v R F J w0 wr vo ps) (fun _ wr=>l.length+1-posW b wr)
 case atStart=>exact⟨_,HO1.out,fun u hu=>⟨_,List.mem_singleton.1 hu⟩,Nat.succ_pos _,by show 1<=_;omega,HG1.out,HST1.out⟩
 case round=>
  obtain⟨ps,ho,hpt,hp0,hpl,hg,hst⟩:=hrel;obtain⟨g,cp,rfl,hbg,hltg⟩:=ho.form hp0;have HO:=Lib.hid ho;have HG:=Lib.hid hg;have HPT:=Lib.hid hpt;have hgs:=hg.size
  cases hst with
  | bad p r hr hpb hR hps=>
   have cT:=HCE.out p r wr hr hg hps (by omega);have HR:=Lib.hid hR;have HRR:=Lib.hid hr;clear ho hg hpt hR hps hr;go_wp2_with fail;refine cT.mono ?_;rintro en w2 ⟨rfl,g2,h2⟩;go_wp2_with fail
   go_ret
   have g2':Gs S wr w2:=g2.wide fun q _ hq=>by rw[hq];exact hSb
   refine⟨_,ps,rfl,⟨xF HO.out g2' HS.out,HPT.out⟩,hp0,by omega,HG.out.trans g2',?_⟩;rw[HR.out];exact h2
  | good acc j hlo hj hacc hR hT hps hJ1=>
   have cT:=HC.out j wr hg hps hj;have HR:=Lib.hid hR;have HT:=Lib.hid hT;have HJ1:=Lib.hid hJ1;have hlen:=hT.len;have HLN:=Lib.hid hlen
   cases hK:key l j m with
   | false=>
    rw[hK] at cT;have HK:=Lib.hid hK;clear ho hg hpt hR hps hT hJ1 hK hlen;go_wp2_with fail;refine cT.mono ?_;rintro en w2 ⟨rfl,g2,h2⟩;go_wp2_with fail
    go_ret
    have g2':Gs S wr w2:=g2.wide fun q _ hq=>by rw[hq];exact hSb
    refine⟨_,ps,rfl,⟨xF HO.out g2' HS.out,HPT.out⟩,hp0,by omega,HG.out.trans g2',?_⟩;rw[HR.out,HK.out];exact⟨HT.out.gs g2' HS.out,h2,HJ.out _ _ _ HJ1.out fun q hq hn=>g2.block q (by omega) hn⟩
   | true=>
    rw[hK] at cT;have HK:=Lib.hid hK;have hjl:=zU hK;have hAh:=HA.out acc (j+1);have hLe:=HLE.out acc (j+1) (by omega);have HR2:Hid (R=rowS l m (part acc (j+1)) acc F):=Lib.hid (by rw[HR.out,HK.out,if_pos rfl,HF.out acc (j+1) (by omega)]);have hpln:ps.length<=l.length:=by omega
    clear ho hg hpt hR hT hJ1 hK hlen;obtain⟨n,hn⟩:∃n,ps.length=n:=⟨_,rfl⟩;have hpos:=hps.pos;rw[hn] at hp0 hpl hpln ⊢;clear hps;have HN:=Lib.hid hn;clear hn;go_wp2_with fail;refine cT.mono ?_;rintro en w2 ⟨rfl,g2,h2⟩;have g2':Gs S wr w2:=g2.wide fun q _ hq=>by rw[hq];exact hSb
    have cP:=HP.out acc (j+1) w2 (by omega) (by omega) (by omega) (HG.out.trans g2') (HJ.out _ _ _ HJ1.out fun q hq hn=>g2.block q (by omega) hn) h2;have G2:=Lib.hid g2';have hz2':=g2.size;clear g2 g2' h2;go_wp2_with fail;rw[HE.out,Oper.upon_enter];refine cP.mono ?_;rintro en w3 ⟨A3,rfl,g3,hR3⟩;have hg3s:=g3.size;have ho3:=xF (xF HO.out G2.out HS.out) g3 HS.out;rw[HN.out] at ho3;have HO3:=Lib.hid (ho3.alloc (.cells #[.pointer A3] 24));have HG3:Hid (Gs S wr w3):=Lib.hid (G2.out.trans g3);have HW3:Hid (w0.heap.size<=(w3.alloc (.cells #[.pointer A3] 24)).heap.size):=Lib.hid (by have:=g3.size;simp;omega);have HZ3:Hid ((w3.alloc (.cells #[.pointer A3] 24)).heap.size=w3.heap.size+1):=Lib.hid (by simp);have HR3:=Lib.hid hR3;clear ho3 g3 hR3 cP
    go_wp2_with (at_builtin;refine wpList_append_lies _ rfl _ _ 33 rfl w0.heap.size 24 i0 _ 1 8 Tryz.underlying33 hi0 hz0 hz1 hz2 rfl (by omega) (.slice (some ⟨g,0,none⟩) n cp) n ps rfl HO3.out ⟨w3.heap.size,0,none⟩ 1 1 [.pointer A3] rfl rfl (cell_one_new _ _ _) (by intro u hu;rw[List.mem_singleton.1 hu];rfl) (by omega) (by unfold maxLen;omega) (by omega) HW3.out (w3.heap.size+1) HZ3.out ?_;intro g6 cap6 w6 ho6 hg6 hat6 hlt6)
    have hgn:∀g',Value.ownBlock (.slice (some ⟨g,0,none⟩) n cp)=some g'->g'=g:=fun g' e=>by injection e with e;exact e.symm
    have hG6:Gs S w0 w6:=((HG.out.trans HG3.out).alloc _).grown hg6 fun g' e=>.inr (by rw[hgn g' e];exact hbg)
    have hps6:∀p r,Psr w3 b v p r->Psr w6 b v p r:=fun p r h=>(hg6.block b (by have:=HZ3.out;have:=hg3s;omega) fun e=>by have:=hgn b e.symm;omega).trans (((Up.refl w3).alloc _).row h)
    have hlen6:(ps++[Value.pointer A3]).length=n+1:=by rw[List.length_append,HN.out];rfl
    have hsame:∀q,q<w0.heap.size->w6.heap[q]? = w3.heap[q]?:=fun q hq=>(hg6.block q (by have:=HZ3.out;omega) fun e=>by have:=hgn q e.symm;omega).trans (((Up.refl w3).alloc _).block q (by omega))
    have hR3:=HR3.out
    cases hpt:part acc (j+1) with
    | inr e=>
     obtain⟨p,r⟩:=e;rw[hpt] at hR3 hAh hLe;have hjp:j+1<=p:=hAh;have hpl6:=hps6 p r hR3;refine⟨⟨ps++[.pointer A3],by rw[hlen6];exact ho6,HPT.out.snoc A3,by omega,by omega,hG6,.bad p r (hLe.2 p r rfl) hLe.1 (by rw[HR2.out,hpt];rfl) hpl6⟩,?_⟩;rw[hpl6.pos,hpos];omega
    | inl e=>
     obtain⟨t,q⟩:=e;rw[hpt] at hR3 hAh hLe;have hjq:j+1<q:=hAh;obtain⟨n3,p3,j3⟩:=hR3;have hpl6:=hps6 q 0 p3;refine⟨⟨ps++[.pointer A3],by rw[hlen6];exact ho6,HPT.out.snoc A3,by omega,by omega,hG6,.good (acc.app (fr1 t)) q (by omega) hLe.1 (by rw[Fr.len_app];show acc.len+1+i<=q;omega) (by rw[HR2.out,hpt];rfl) ?_ hpl6 (HJ.out _ _ _ j3 fun x hx _=>hsame x hx)⟩,?_⟩
     ·have hT':=HT.out
      rw[HN.out] at hT';exact hT'.more HS.out (HG3.out.alloc _) hgs (fun g' e=>by rw[hgn g' e];exact hltg) ((n3.base hz2').up ((Up.refl w3).alloc _)) rfl hg6 (by rcases hat6 with h | h;exact .inl h;exact .inr (by rw[HZ3.out];exact h))
     ·rw[hpl6.pos,hpos]
      omega
theorem lK {W0 w0:World} {l:List Tk} (b:Nat) (v:Value) (S:Nat->Prop) (hS:∀k,S k->k<w0.heap.size) (hSb:S b) (hSW:∀k,S k->W0.heap.size<=k) (m:ByteArray)
  (k:FuncId) (pre cap:Array Value) (hE:EntF k) (i:Nat) (r:Int) (hr:¬r=0) (R:Rs Tr) (hR:R = .inr (i,r)) (J:Tr->World->Prop)
  (hp:Calls Tryz.prog k (pre++cap) w0 (PaT S b v R J w0)) (J':Fr->World->Prop)
  (T:Toks nk lg W0 v l) (hu:Up W0 w0) (hi:i<=1000000) :
  Calls Tryz.prog 179 #[.pointer (some ⟨b,0,none⟩),.string m,.func (.func k) pre cap] w0 (RowP S b v (.inr (i,r)) J' w0):=by
 subst hR;have HS:=Lib.hid hS;have HSW:=Lib.hid hSW;have HE:=Lib.hid hE;have HB0:b<w0.heap.size:=hS b hSb;have HU:=Lib.hid hu;clear hS hSW hu
 go_enter Tryz.func179,Tryz.ntmps179
 go_wp2_with fail;rw[HE.out,Oper.upon_enter];refine hp.mono ?_;rintro en w1 ⟨A1,rfl,g1,hR1⟩;go_wp2_with fail;obtain⟨W1,hW1⟩:∃W1,w1.alloc (.cells #[.pointer A1] 24)=W1:=⟨_,rfl⟩;have u1:Up w1 W1:=by rw[<- hW1];exact(Up.refl w1).alloc _
 have ho1:W1.ownsRow w0.heap.size 24 1 (.slice (some ⟨w1.heap.size,0,none⟩) 1 1) 1 [.pointer A1]:=by rw[<- hW1];exact World.ownsRow_lit w1 #[.pointer A1] 1 g1.size (by unfold maxLen;omega) rfl
 have HO1:=Lib.hid ho1;have hg1:Gs S w0 W1:=g1.trans (Gs.of u1);have hps1:Psr W1 b v i r:=Psr.up hR1 u1;have cT:=qU b v i r m W1 T hps1 (hg1.up HU.out HSW.out) hi;have e:tkB l i r m=false:=by unfold tkB;rw[decide_eq_false hr,Bool.false_and]
 rw[e] at cT;have HG1:=Lib.hid hg1;rw[hW1];clear ho1 u1 g1 hR1 hW1 hg1 hps1 e hp T
 go_loopw [7] (fun vo wr=>vo = .slice (some ⟨w1.heap.size,0,none⟩) 1 1/\wr=W1) (fun _ _=>0)
 case atStart=>exact⟨rfl,rfl⟩
 case round=>
  obtain⟨rfl,rfl⟩:=hrel;go_wp2_with fail;refine cT.mono ?_;rintro en w2 ⟨rfl,g2,h2⟩;go_wp2_with fail
  go_ret
  have g2':Gs S wr w2:=g2.wide fun q _ hq=>by rw[hq];exact hSb
  exact⟨_,[.pointer A1],rfl,⟨xF HO1.out g2' HS.out,fun u hu=>⟨_,List.mem_singleton.1 hu⟩⟩,Nat.succ_pos _,by show 1<=_;omega,HG1.out.trans g2',h2⟩
end
def nmS (o:Option ByteArray) (e:Int):ByteArray:=if e=0 then o.getD nob else nob
def nmI (o:Option ByteArray) (i:Nat) (e:Int):Nat:=if e=0 then (match o with | some _=>i+1 | none=>i) else i
def nmE (o:Option ByteArray) (e:Int):Int:=if e=0 then (match o with | some _=>0 | none=>6) else e
def NmP (b:Nat) (v:Value) (s:ByteArray) (i:Nat) (e:Int) (w:World) (en:Ending) (w':World):Prop:=en = .returned (.string s)/\Gs (On b) w w'/\Psr w' b v i e
def AnP (x:Value) (d:Bool) (w:World) (en:Ending) (w':World):Prop:=en = .returned (.tuple #[x,.bool d])/\Up w w'
theorem zWc (b:Nat) (v:Value) (i:Nat) (e:Int) (x:Value) (d:Bool) (w:World) (cS:∀w',Up w w'->Calls Tryz.prog 75 #[v,.int .i64 (i:Int)] w' (AnP x d w')) (h:Psr w b v i e) :
  Calls Tryz.prog 116 #[.pointer (some ⟨b,0,none⟩),.func (.func 75) #[] #[]] w (AnP (if e=0 then x else .string nob) (decide (e=0)&&d) w):=by
 obtain⟨c0,c1,c2,f1,f2⟩:=h.cells;have hb:b<w.heap.size:=qC h;clear h f1 f2
 by_cases he:e=0
 ·subst he
  have c0u:∀u:Upw w,u.w.cell? ⟨b,0,none⟩=some v:=Upw.cell c0;have c1u:∀u:Upw w,u.w.cell? ⟨b,1,none⟩=some (.int .i64 (i:Int)):=Upw.cell c1;have CK:∀u:Upw w,Calls Tryz.prog 75 #[v,.int .i64 (i:Int)] u.w fun e w'=>e = .returned (.tuple #[x,.bool d])/\Up w w':=fun u=>(cS u.w u.h).mono fun e w' ⟨h1,h2⟩=>⟨h1,u.h.trans h2⟩
  have HK:=Lib.hid CK;have U0:=Lib.hid (Up.refl w);have HD:Hid ((decide ((0:Int)=0)&&d)=d):=Lib.hid (by rw[decide_eq_true rfl,Bool.true_and]);rw[if_pos rfl,HD.out];clear CK cS c0 c1
  go_enter Tryz.func116,Tryz.ntmps116
  go_wp2_with fail;refine jA (W:=w) U0.out (by kernel_rfl) (by kernel_rfl) ?_
  repeat (go_big_quiet_step (first
   | (go_at_call 75;exact Calls.upw (HK.out _))))
  refine wpQuiet_nil ?_;rintro _ ⟨⟨w9,u9⟩,rfl⟩;go_wp2_with fail
  go_ret2
  exact⟨rfl,u9⟩
 ·have HD:Hid ((decide (e=0)&&d)=false):=Lib.hid (by rw[decide_eq_false he,Bool.false_and])
  rw[if_neg he,HD.out];clear cS c0 c1
  go_enter Tryz.func116,Tryz.ntmps116
  go_wp2_with fail
  go_ret2
  exact⟨rfl,Up.refl _⟩
theorem zNp (b:Nat) (v:Value) (i:Nat) (e:Int) (x:Value) (d:Bool) (w:World) (cS:∀w',Up w w'->Calls Tryz.prog 45 #[v,.int .i64 (i:Int)] w' (AnP x d w')) (h:Psr w b v i e) :
  Calls Tryz.prog 116 #[.pointer (some ⟨b,0,none⟩),.func (.func 45) #[] #[]] w (AnP (if e=0 then x else .string nob) (decide (e=0)&&d) w):=by
 obtain⟨c0,c1,c2,f1,f2⟩:=h.cells;have hb:b<w.heap.size:=qC h;clear h f1 f2
 by_cases he:e=0
 ·subst he
  have c0u:∀u:Upw w,u.w.cell? ⟨b,0,none⟩=some v:=Upw.cell c0;have c1u:∀u:Upw w,u.w.cell? ⟨b,1,none⟩=some (.int .i64 (i:Int)):=Upw.cell c1;have CK:∀u:Upw w,Calls Tryz.prog 45 #[v,.int .i64 (i:Int)] u.w fun e w'=>e = .returned (.tuple #[x,.bool d])/\Up w w':=fun u=>(cS u.w u.h).mono fun e w' ⟨h1,h2⟩=>⟨h1,u.h.trans h2⟩
  have HK:=Lib.hid CK;have U0:=Lib.hid (Up.refl w);have HD:Hid ((decide ((0:Int)=0)&&d)=d):=Lib.hid (by rw[decide_eq_true rfl,Bool.true_and]);rw[if_pos rfl,HD.out];clear CK cS c0 c1
  go_enter Tryz.func116,Tryz.ntmps116
  go_wp2_with fail;refine jA (W:=w) U0.out (by kernel_rfl) (by kernel_rfl) ?_
  repeat (go_big_quiet_step (first
   | (go_at_call 45;exact Calls.upw (HK.out _))))
  refine wpQuiet_nil ?_;rintro _ ⟨⟨w9,u9⟩,rfl⟩;go_wp2_with fail
  go_ret2
  exact⟨rfl,u9⟩
 ·have HD:Hid ((decide (e=0)&&d)=false):=Lib.hid (by rw[decide_eq_false he,Bool.false_and])
  rw[if_neg he,HD.out];clear cS c0 c1
  go_enter Tryz.func116,Tryz.ntmps116
  go_wp2_with fail
  go_ret2
  exact⟨rfl,Up.refl _⟩
def PkPs (b:Nat) (v:Value) (x:Value) (d:Bool) (i:Nat) (e:Int) (w:World) (en:Ending) (w':World):Prop:=en = .returned (.tuple #[x,.bool d])/\Gs (On b) w w'/\Psr w' b v (if d then i+1 else i) e
theorem sH (b:Nat) (v F:Value) (i:Nat) (e:Int) (x:Value) (d:Bool) (w:World) (cL:Calls Tryz.prog 116 #[.pointer (some ⟨b,0,none⟩),F] w (AnP x d w)) (h:Psr w b v i e) (hi:i<=1000000) :
  Calls Tryz.prog 67 #[.pointer (some ⟨b,0,none⟩),F] w (PkPs b v x d i e w):=by
 have hb:b<w.heap.size:=qC h;have H:=Lib.hid h;have hw:IntKind.i64.wrap ((i:Int)+1)=(i:Int)+1:=by rw[IntKind.wrap_i64];omega
 clear h
 cases d with
 | false=>
  go_enter Tryz.func67,Tryz.ntmps67
  go_wp2_with fail;refine cL.mono ?_;rintro en w1 ⟨rfl,u1⟩;go_wp2_with fail
  go_ret2
  exact⟨rfl,Gs.of u1,H.out.up u1⟩
 | true=>
  go_enter Tryz.func67,Tryz.ntmps67
  go_wp2_with fail;refine cL.mono ?_;rintro en w1 ⟨rfl,u1⟩;have h1:=H.out.up u1;obtain⟨d0,d1,d2,g1,g2⟩:=h1.cells;have H1:=Lib.hid h1;have U1:=Lib.hid u1;clear u1 h1 d0 g2;go_wp2_with fail
  go_ret2
  exact⟨rfl,(Gs.of U1.out).set _ _ (.inl rfl),H1.out.at _ _ (by rw[if_pos rfl];omega)⟩
theorem lL (b:Nat) (v F:Value) (i:Nat) (e:Int) (s:ByteArray) (d:Bool) (w:World) (cP:Calls Tryz.prog 67 #[.pointer (some ⟨b,0,none⟩),F] w (PkPs b v (.string s) d i e w)) :
  Calls Tryz.prog 44 #[.pointer (some ⟨b,0,none⟩),F] w (NmP b v s (if d then i+1 else i) (if d then e else if e=0 then 6 else e) w):=by
 cases d with
 | true=>
  go_enter Tryz.func44,Tryz.ntmps44
  go_wp2_with fail;refine cP.mono ?_;rintro en w1 ⟨rfl,g1,h1⟩;have G1:=Lib.hid g1;have H1:=Lib.hid h1;clear g1 h1;go_wp2_with fail
  go_ret
  exact⟨rfl,G1.out,H1.out⟩
 | false=>
  obtain⟨E,hEE⟩:∃E,(if e=0 then 6 else e)=E:=⟨_,rfl⟩;have HEE:=Lib.hid hEE;simp only[Bool.false_eq_true,if_false];rw[hEE];clear hEE
  go_enter Tryz.func44,Tryz.ntmps44
  go_wp2_with fail;refine cP.mono ?_;rintro en w1 ⟨rfl,g1,h1⟩;have cF:=fQ b v i e 6 w1 h1;have G1:=Lib.hid g1;rw[HEE.out] at cF;clear g1 h1 cP;go_wp2_with fail;refine cF.mono ?_;rintro en w2 ⟨⟨u,rfl⟩,g2,h2⟩;have H2:=Lib.hid h2;clear h2;go_wp2_with fail
  go_ret
  exact⟨rfl,G1.out.trans g2,H2.out⟩
theorem oK (b:Nat) (v:Value) (i:Nat) (e:Int) (o:Option ByteArray) (w:World) (cS:∀w',Up w w'->Calls Tryz.prog 75 #[v,.int .i64 (i:Int)] w' (NaP o w')) (h:Psr w b v i e) (hi:i<=1000000) :
  Calls Tryz.prog 44 #[.pointer (some ⟨b,0,none⟩),.func (.func 75) #[] #[]] w (NmP b v (nmS o e) (nmI o i e) (nmE o e) w):=by
 have cL:=zWc b v i e _ _ w cS h
 by_cases he:e=0
 ·subst he
  rw[if_pos rfl,decide_eq_true rfl,Bool.true_and] at cL;have c:=lL b v _ i 0 _ _ w (sH b v _ i 0 _ _ w cL h hi)
  cases o<;>exact c
 ·rw[if_neg he,decide_eq_false he,Bool.false_and] at cL
  have c:=lL b v _ i e nob _ w (sH b v _ i e _ _ w cL h hi);rw[if_neg he] at c;have e1:nmS o e=nob/\nmI o i e=i/\nmE o e=e:=⟨if_neg he,if_neg he,if_neg he⟩;rw[e1.1,e1.2.1,e1.2.2];exact c
theorem zUt (b:Nat) (v:Value) (i:Nat) (e:Int) (o:Option ByteArray) (w:World) (cS:∀w',Up w w'->Calls Tryz.prog 45 #[v,.int .i64 (i:Int)] w' (NaP o w')) (h:Psr w b v i e) (hi:i<=1000000) :
  Calls Tryz.prog 44 #[.pointer (some ⟨b,0,none⟩),.func (.func 45) #[] #[]] w (NmP b v (nmS o e) (nmI o i e) (nmE o e) w):=by
 have cL:=zNp b v i e _ _ w cS h
 by_cases he:e=0
 ·subst he
  rw[if_pos rfl,decide_eq_true rfl,Bool.true_and] at cL;have c:=lL b v _ i 0 _ _ w (sH b v _ i 0 _ _ w cL h hi)
  cases o<;>exact c
 ·rw[if_neg he,decide_eq_false he,Bool.false_and] at cL
  have c:=lL b v _ i e nob _ w (sH b v _ i e _ _ w cL h hi);rw[if_neg he] at c;have e1:nmS o e=nob/\nmI o i e=i/\nmE o e=e:=⟨if_neg he,if_neg he,if_neg he⟩;rw[e1.1,e1.2.1,e1.2.2];exact c
def InL (S:Nat->Prop) (b:Nat) (v:Value) (i:Nat) (e:Int) (P:World->Prop) (w:World) (en:Ending) (w':World):Prop:=(∃u,en = .returned u)/\Gs S w w'/\Psr w' b v i e/\P w'
section
variable {nk lg:ByteArray->Bool}
theorem yB {W0:World} {l:List Tk} (b:Nat) (v:Value) (i:Nat) (e:Int) (opening closing:ByteArray) (k:FuncId) (cap:Array Value) (hE:EntF k) (S:Nat->Prop) (hSW:∀q,S q->W0.heap.size<=q) (hbW:W0.heap.size<=b) (i2:Nat) (e2:Int) (P:World->Prop) (w:World)
  (T:Toks nk lg W0 v l) (h:Psr w b v i e) (hu:Up W0 w) (hi:i<=1000000) (hi2:i2<=1000000)
  (cI:∀w1,Gs (On b) w w1->Psr w1 b v (neI i (tkB l i e opening)) (neE e (tkB l i e opening))->Calls Tryz.prog k cap w1 (InL S b v i2 e2 P w1)) :
  Calls Tryz.prog 64 #[.pointer (some ⟨b,0,none⟩),.string opening,.string closing,.func (.func k) #[] cap] w
   fun en w'=>(∃u,en = .returned u)/\∃w1 w2,Gs (On b) w w1/\Gs S w1 w2/\P w2/\Gs (On b) w2 w'/\Psr w' b v (neI i2 (tkB l i2 e2 closing)) (neE e2 (tkB l i2 e2 closing)):=by
 have cN:=yG b v i e opening w T h hu hi;have HU:=Lib.hid hu;have HI:=Lib.hid cI;have HT:=Lib.hid T;have HSW:=Lib.hid hSW;have HE:=Lib.hid hE;clear h hu cI T hSW hE
 go_enter Tryz.func64,Tryz.ntmps64
 go_wp2_with fail;refine cN.mono ?_;rintro en w1 ⟨⟨u,rfl⟩,g1,h1⟩;have cI:=HI.out w1 g1 h1;have G1:=Lib.hid g1;clear g1 h1;go_wp2_with fail;rw[HE.out,Oper.upon_enter];refine cI.mono ?_;rintro en w2 ⟨⟨u,rfl⟩,g2,h2,p2⟩;have u2:Up W0 w2:=g2.up (G1.out.up HU.out (fun q hq=>by rw[hq];exact hbW)) HSW.out;have cN2:=yG b v i2 e2 closing w2 HT.out h2 u2 hi2;have G2:=Lib.hid g2;have P2:=Lib.hid p2;clear g2 p2 u2 h2;go_wp2_with fail;refine cN2.mono ?_;rintro en w3 ⟨⟨u,rfl⟩,g3,h3⟩;go_wp2_with fail;go_end0;exact⟨⟨_,rfl⟩,w1,w2,G1.out,G2.out,P2.out,g3,h3⟩
end
end Go.Proofs.YtgeghilbikljcaaGreatDoor
namespace Go.Proofs.YtgeghilbikljcaaGreatDoor
open Go.RowKit Go.Shelf
attribute [local go_sem] Oper.semAt_some
def Kq (n v:Nat) (A B:World):Prop:=A.heap.size<=B.heap.size/\∀q,q<n->q≠v->B.heap[q]? = A.heap[q]?
theorem Kq.refl (n v:Nat) (A:World):Kq n v A A:=⟨Nat.le_refl _,fun _ _ _=>rfl⟩
theorem Kq.trans {n v:Nat} {A B C:World} (h:Kq n v A B) (k:Kq n v B C):Kq n v A C:=⟨Nat.le_trans h.1 k.1,fun q h1 h2=>(k.2 q h1 h2).trans (h.2 q h1 h2)⟩
theorem Kq.cell {n v:Nat} {A B:World} (h:Kq n v A B) {p:Addr} (h1:p.block<n) (h2:p.block≠v):B.cell? p=A.cell? p:=World.cell?_of_block (h.2 _ h1 h2)
theorem Kq.put {n v:Nat} {w:World} (hn:n<=w.heap.size) (W:World) (l:Nat) (o o':Obj) (hl:w.heap.size<=l) (_:W.heap[l]? = some o) (_:o.isCells=false) (_:o.isWalk=false):Kq n v W (W.putObj l o'):=⟨by simp,fun q hq _=>World.putObj_heap_other (by omega)⟩
def bwd (qs:List (Option Addr)) (k:Nat):List (Nat×Option Addr):=(List.range k).map fun j=>(qs.length-1-j,(qs[qs.length-1-j]?).getD none)
theorem zZs (qs:List (Option Addr)) (k:Nat):bwd qs (k+1)=bwd qs k++[(qs.length-1-k,(qs[qs.length-1-k]?).getD none)]:=by simp[bwd,List.range_succ]
theorem lM (qs:List (Option Addr)) (k:Nat):(bwd qs k).length=k:=by simp[bwd]
theorem zR1 (n k:Nat) (h:k<n):((n:Int)-1-(k:Int))=((n-1-k:Nat):Int):=by omega
theorem zNq (F:Fence) (n vb:Nat) (hf:F.fn 209) (hro:F.round=none) (hn:1<=n) (l Bs n₀ b off cap:Nat) (hv1:Bs≠vb) (hv2:b≠vb) (qs:List (Option Addr)) (hreach:qs.length<=100000000) (hb:b<n₀) (J Jx:List (Nat×Option Addr)->World->Prop)
  (hY:∀pre x W,J pre W->pre.length<qs.length->YieldAt F (n-1) Tryz.prog l #[.int .i64 (x.1:Int),.pointer x.2] W fun e W'=>
   (e = .returned (.bool true)/\J (pre++[x]) W'/\Kq n₀ vb W W')\/(e = .returned (.bool false)/\Jx (pre++[x]) W'))
  (W:World) (hBn:Bs<n₀) (hBs:W.cell? ⟨Bs,0,none⟩=some (.slice (some ⟨b,off,none⟩) qs.length cap)) (hc:∀j,j<qs.length->W.cell? ⟨b,off+j,none⟩=some (.pointer ((qs[j]?).getD none))) (h0:J [] W) :
  CallsIn F n Tryz.prog 209 #[.func (.yield l) #[] #[],.pointer (some ⟨Bs,0,none⟩)] W fun e W'=>(∃v,e = .returned v)/\
   ((∃ys,ys=bwd qs qs.length/\J ys W')\/(∃pre,(∃k,k<=qs.length/\pre=bwd qs k)/\Jx pre W')):=by
 obtain⟨len,hlen⟩:∃len,qs.length=len:=⟨_,rfl⟩;have HLEN:=Lib.hid hlen;rw[hlen] at hBs hreach ⊢;have HC:=Lib.hid hc;have HY:=Lib.hid hY;clear hc hY hlen;refine callsIn_of_wp Tryz.func209 rfl hf ?_ hro;simp only[Tryz.ntmps209,List.size_toArray,List.length_cons,List.length_nil,Nat.reduceAdd,Nat.reduceSub,Array.replicate_succ,Array.replicate_zero,List.push_toArray,List.append_toArray,List.nil_append,List.cons_append];have hw1:IntKind.i64.wrap ((len:Int)-1)=(len:Int)-1:=by rw[IntKind.wrap_i64];omega
 gi_wp2
 gi_loopw [3] (fun i wr=>∃k:Nat,k<=len/\i = .int .i64 ((len:Int)-1-(k:Int))/\J (bwd qs k) wr/\Kq n₀ vb W wr)
  (fun i _=>(intOf i+1).toNat)
 case atStart=>exact⟨0,Nat.zero_le _,yS (by omega),h0,Kq.refl _ _ _⟩
 case round=>
  obtain⟨k,hk,rfl,hJs,hnx⟩:=hrel;have hBs':=(hnx.cell (p:=⟨Bs,0,none⟩) hBn hv1).trans hBs
  by_cases hlt:k<len
  ·have hcx:wr.cell? ⟨b,off+(len-1-k),none⟩=some (.pointer ((qs[qs.length-1-k]?).getD none)):=by
    have h:=(hnx.cell (p:=⟨b,off+(len-1-k),none⟩) hb hv2).trans (HC.out (len-1-k) (by rw[HLEN.out];omega));rw[h,HLEN.out]
   obtain⟨fn,tmps,assign,body,hy,hR⟩:=HY.out _ (len-1-k,(qs[qs.length-1-k]?).getD none) wr hJs (by rw[lM,HLEN.out];exact hlt)
   dsimp only at hy
   have hi:(len:Int)-1-(k:Int)=((len-1-k:Nat):Int):=zR1 len k hlt;have hlt':len-1-k<len:=by omega
   have hsucc:bwd qs (k+1)=bwd qs k++[(len-1-k,(qs[qs.length-1-k]?).getD none)]:=by rw[zZs,HLEN.out]
   have HSUC:=Lib.hid hsucc;have HR:=Lib.hid hR;obtain⟨ix,hix⟩:∃ix,len-1-k=ix:=⟨_,rfl⟩;obtain⟨qx,hqx⟩:∃qx,(qs[qs.length-1-k]?).getD none=qx:=⟨_,rfl⟩;rw[hix,hqx] at hcx hy;rw[hix] at hi hlt';rw[hi];have HIX:=Lib.hid hix;have HQX:=Lib.hid hqx;have HI:=Lib.hid hi;have hw2:IntKind.i64.wrap ((ix:Int)-1)=(ix:Int)-1:=by rw[IntKind.wrap_i64];omega
   clear hsucc hR hix hqx hi
   gi_wp2
   refine HR.out.mono ?_;rintro e W3 (⟨rfl,hJ3,hk3⟩ | ⟨rfl,hJx3⟩)
   ·gi_wp2
    go_roundw
    case rel=>exact⟨k+1,by omega,yS (by have:=HI.out;omega),by rw[HSUC.out];exact hJ3,hnx.trans hk3⟩
    case measure=>first | (simp[intOf];omega) | simp[intOf]
   ·gi_wp2
    refine bodyPost_ret (results_none rfl _ _ _) rfl ?_;exact⟨⟨_,rfl⟩,.inr ⟨_,⟨k+1,by omega,HSUC.out.symm⟩,hJx3⟩⟩
  ·obtain rfl:k=len:=by omega
   have hi:¬(0:Int)<=(k:Int)-1-(k:Int):=by omega
   gi_wp2
   go_end0;exact⟨⟨_,rfl⟩,.inl (by first | exact hJs | exact⟨_,rfl,hJs⟩)⟩
theorem zHd (F:Fence) (n:Nat) (hf:F.fn 180) (hro:F.round=none) (a:Option Addr) (len cap:Nat) (w:World) :
  CallsIn F n Tryz.prog 180 #[.slice a len cap] w fun e w'=>e = .returned (.func (.func 209) #[] #[.pointer (some ⟨w.heap.size,0,none⟩)])/\w'=w.alloc (.cells #[.slice a len cap] 33):=by
 refine callsIn_of_wp Tryz.func180 rfl hf ?_ hro;simp only[Tryz.ntmps180,List.size_toArray,List.length_cons,List.length_nil,Nat.reduceAdd,Nat.reduceSub,Array.replicate_succ,Array.replicate_zero,List.push_toArray,List.append_toArray,List.nil_append,List.cons_append]
 gi_wp2
 go_ret
 exact⟨rfl,rfl⟩
theorem zWd (F:Fence) (n vb:Nat) (hf:F.fn 209) (hro:F.round=none) (hn:1<=n) (Bs n₀ b off cap:Nat) (hv1:Bs≠vb) (hv2:b≠vb) (qs:List (Option Addr)) (hreach:qs.length<=100000000) (w:World) (hBs:Bs<n₀) (hb:b<n₀) (hn₀:n₀<=w.heap.size)
  (hc:w.cell? ⟨Bs,0,none⟩=some (.slice (some ⟨b,off,none⟩) qs.length cap)) (hI:∀j,j<qs.length->w.cell? ⟨b,off+j,none⟩=some (.pointer ((qs[j]?).getD none))) :
  SeqStopsK F n Tryz.prog 209 #[.pointer (some ⟨Bs,0,none⟩)] (fun x:Nat×Option Addr=>#[Value.int .i64 (x.1:Int),Value.pointer x.2]) (Kq n₀ vb) (fun ys=>ys=bwd qs qs.length)
   (fun pre=>∃k,k<=qs.length/\pre=bwd qs k) qs.length w:=fun l J Jx W hW _ _ hY h0=>by
 have hc':=(hW.cell (p:=⟨Bs,0,none⟩) (by simp only;omega)).trans hc;exact zNq F n vb hf hro hn l Bs n₀ b off cap hv1 hv2 qs hreach hb J Jx hY W hBs hc' (fun j hj=>(hW.cell (p:=⟨b,off+j,none⟩) (by simp only;omega)).trans (hI j hj)) h0
end Go.Proofs.YtgeghilbikljcaaGreatDoor
