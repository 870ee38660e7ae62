/-
  The parser that layers share: Look, Pick, Named; Between (written by gpte.py).
-/
import Derived.Test.YtgeghilbikljcaaGreatDoorGj09
import Derived.LoopIn
import Derived.LoopNIn
import Derived.OwnWalkIn
import Derived.RangeFuncBound
import Derived.RangeFuncBox
import Derived.RangeFuncCalls
import Derived.RangeFuncLeaves
import Derived.RangeFuncNested
import Derived.Shelf.Abstract
import Derived.TacticsInMore
set_option maxHeartbeats 40000000
set_option maxRecDepth 100000
namespace Go.Proofs.YtgeghilbikljcaaGreatDoor
open Go.RowKit
def nmS (o:Option ByteArray) (e:Int):ByteArray:=if e=0 then o.getD nob else nob
def nmI (o:Option ByteArray) (i:Nat) (e:Int):Nat:=if e=0 then (match o with | some _=>i+1 | none=>i) else i
def nmE (o:Option ByteArray) (e:Int):Int:=if e=0 then (match o with | some _=>0 | none=>6) else e
def NmP (b:Nat) (v:Value) (s:ByteArray) (i:Nat) (e:Int) (w:World) (en:Ending) (w':World):Prop:=en = .returned (.string s)/\Gs (On b) w w'/\Psr w' b v i e
def AnP (x:Value) (d:Bool) (w:World) (en:Ending) (w':World):Prop:=en = .returned (.tuple #[x,.bool d])/\Up w w'
theorem zY6 (b:Nat) (v:Value) (i:Nat) (e:Int) (x:Value) (d:Bool) (w:World) (cS:∀w',Up w w'->Calls Tryz.prog 75 #[v,.int .i64 (i:Int)] w' (AnP x d w')) (h:Psr w b v i e) :
  Calls Tryz.prog 116 #[.pointer (some ⟨b,0,none⟩),.func (.func 75) #[] #[]] w (AnP (if e=0 then x else .string nob) (decide (e=0)&&d) w):=by
 obtain⟨c0,c1,c2,f1,f2⟩:=h.cells;have hb:b<w.heap.size:=qC h;clear h f1 f2
 by_cases he:e=0
 ·subst he
  have c0u:∀u:Upw w,u.w.cell? ⟨b,0,none⟩=some v:=Upw.cell c0;have c1u:∀u:Upw w,u.w.cell? ⟨b,1,none⟩=some (.int .i64 (i:Int)):=Upw.cell c1;have CK:∀u:Upw w,Calls Tryz.prog 75 #[v,.int .i64 (i:Int)] u.w fun e w'=>e = .returned (.tuple #[x,.bool d])/\Up w w':=fun u=>(cS u.w u.h).mono fun e w' ⟨h1,h2⟩=>⟨h1,u.h.trans h2⟩
  have HK:=Lib.hid CK;have U0:=Lib.hid (Up.refl w);have HD:Hid ((decide ((0:Int)=0)&&d)=d):=Lib.hid (by rw[decide_eq_true rfl,Bool.true_and]);rw[if_pos rfl,HD.out];clear CK cS c0 c1
  go_enter Tryz.func116,Tryz.ntmps116
  go_wp2_with fail;refine zT (W:=w) U0.out (by kernel_rfl) (by kernel_rfl) ?_
  repeat (go_big_quiet_step (first
   | (go_at_call 75;exact Calls.upw (HK.out _))))
  refine wpQuiet_nil ?_;rintro _ ⟨⟨w9,u9⟩,rfl⟩;go_wp2_with fail
  go_ret2
  exact⟨rfl,u9⟩
 ·have HD:Hid ((decide (e=0)&&d)=false):=Lib.hid (by rw[decide_eq_false he,Bool.false_and])
  rw[if_neg he,HD.out];clear cS c0 c1
  go_enter Tryz.func116,Tryz.ntmps116
  go_wp2_with fail
  go_ret2
  exact⟨rfl,Up.refl _⟩
theorem zSk (b:Nat) (v:Value) (i:Nat) (e:Int) (x:Value) (d:Bool) (w:World) (cS:∀w',Up w w'->Calls Tryz.prog 45 #[v,.int .i64 (i:Int)] w' (AnP x d w')) (h:Psr w b v i e) :
  Calls Tryz.prog 116 #[.pointer (some ⟨b,0,none⟩),.func (.func 45) #[] #[]] w (AnP (if e=0 then x else .string nob) (decide (e=0)&&d) w):=by
 obtain⟨c0,c1,c2,f1,f2⟩:=h.cells;have hb:b<w.heap.size:=qC h;clear h f1 f2
 by_cases he:e=0
 ·subst he
  have c0u:∀u:Upw w,u.w.cell? ⟨b,0,none⟩=some v:=Upw.cell c0;have c1u:∀u:Upw w,u.w.cell? ⟨b,1,none⟩=some (.int .i64 (i:Int)):=Upw.cell c1;have CK:∀u:Upw w,Calls Tryz.prog 45 #[v,.int .i64 (i:Int)] u.w fun e w'=>e = .returned (.tuple #[x,.bool d])/\Up w w':=fun u=>(cS u.w u.h).mono fun e w' ⟨h1,h2⟩=>⟨h1,u.h.trans h2⟩
  have HK:=Lib.hid CK;have U0:=Lib.hid (Up.refl w);have HD:Hid ((decide ((0:Int)=0)&&d)=d):=Lib.hid (by rw[decide_eq_true rfl,Bool.true_and]);rw[if_pos rfl,HD.out];clear CK cS c0 c1
  go_enter Tryz.func116,Tryz.ntmps116
  go_wp2_with fail;refine zT (W:=w) U0.out (by kernel_rfl) (by kernel_rfl) ?_
  repeat (go_big_quiet_step (first
   | (go_at_call 45;exact Calls.upw (HK.out _))))
  refine wpQuiet_nil ?_;rintro _ ⟨⟨w9,u9⟩,rfl⟩;go_wp2_with fail
  go_ret2
  exact⟨rfl,u9⟩
 ·have HD:Hid ((decide (e=0)&&d)=false):=Lib.hid (by rw[decide_eq_false he,Bool.false_and])
  rw[if_neg he,HD.out];clear cS c0 c1
  go_enter Tryz.func116,Tryz.ntmps116
  go_wp2_with fail
  go_ret2
  exact⟨rfl,Up.refl _⟩
def PkPs (b:Nat) (v:Value) (x:Value) (d:Bool) (i:Nat) (e:Int) (w:World) (en:Ending) (w':World):Prop:=en = .returned (.tuple #[x,.bool d])/\Gs (On b) w w'/\Psr w' b v (if d then i+1 else i) e
theorem mV (b:Nat) (v F:Value) (i:Nat) (e:Int) (x:Value) (d:Bool) (w:World) (cL:Calls Tryz.prog 116 #[.pointer (some ⟨b,0,none⟩),F] w (AnP x d w)) (h:Psr w b v i e) (hi:i<=1000000) :
  Calls Tryz.prog 67 #[.pointer (some ⟨b,0,none⟩),F] w (PkPs b v x d i e w):=by
 have hb:b<w.heap.size:=qC h;have H:=Lib.hid h;have hw:IntKind.i64.wrap ((i:Int)+1)=(i:Int)+1:=by rw[IntKind.wrap_i64];omega
 clear h
 cases d with
 | false=>
  go_enter Tryz.func67,Tryz.ntmps67
  go_wp2_with fail;refine cL.mono ?_;rintro en w1 ⟨rfl,u1⟩;go_wp2_with fail
  go_ret2
  exact⟨rfl,Gs.of u1,H.out.up u1⟩
 | true=>
  go_enter Tryz.func67,Tryz.ntmps67
  go_wp2_with fail;refine cL.mono ?_;rintro en w1 ⟨rfl,u1⟩;have h1:=H.out.up u1;obtain⟨d0,d1,d2,g1,g2⟩:=h1.cells;have H1:=Lib.hid h1;have U1:=Lib.hid u1;clear u1 h1 d0 g2;go_wp2_with fail
  go_ret2
  exact⟨rfl,(Gs.of U1.out).set _ _ (.inl rfl),H1.out.at _ _ (by rw[if_pos rfl];omega)⟩
theorem pZ (b:Nat) (v F:Value) (i:Nat) (e:Int) (s:ByteArray) (d:Bool) (w:World) (cP:Calls Tryz.prog 67 #[.pointer (some ⟨b,0,none⟩),F] w (PkPs b v (.string s) d i e w)) :
  Calls Tryz.prog 44 #[.pointer (some ⟨b,0,none⟩),F] w (NmP b v s (if d then i+1 else i) (if d then e else if e=0 then 6 else e) w):=by
 cases d with
 | true=>
  go_enter Tryz.func44,Tryz.ntmps44
  go_wp2_with fail;refine cP.mono ?_;rintro en w1 ⟨rfl,g1,h1⟩;have G1:=Lib.hid g1;have H1:=Lib.hid h1;clear g1 h1;go_wp2_with fail
  go_ret
  exact⟨rfl,G1.out,H1.out⟩
 | false=>
  obtain⟨E,hEE⟩:∃E,(if e=0 then 6 else e)=E:=⟨_,rfl⟩;have HEE:=Lib.hid hEE;simp only[Bool.false_eq_true,if_false];rw[hEE];clear hEE
  go_enter Tryz.func44,Tryz.ntmps44
  go_wp2_with fail;refine cP.mono ?_;rintro en w1 ⟨rfl,g1,h1⟩;have cF:=vZ b v i e 6 w1 h1;have G1:=Lib.hid g1;rw[HEE.out] at cF;clear g1 h1 cP;go_wp2_with fail;refine cF.mono ?_;rintro en w2 ⟨⟨u,rfl⟩,g2,h2⟩;have H2:=Lib.hid h2;clear h2;go_wp2_with fail
  go_ret
  exact⟨rfl,G1.out.trans g2,H2.out⟩
theorem eI (b:Nat) (v:Value) (i:Nat) (e:Int) (o:Option ByteArray) (w:World) (cS:∀w',Up w w'->Calls Tryz.prog 75 #[v,.int .i64 (i:Int)] w' (NaP o w')) (h:Psr w b v i e) (hi:i<=1000000) :
  Calls Tryz.prog 44 #[.pointer (some ⟨b,0,none⟩),.func (.func 75) #[] #[]] w (NmP b v (nmS o e) (nmI o i e) (nmE o e) w):=by
 have cL:=zY6 b v i e _ _ w cS h
 by_cases he:e=0
 ·subst he
  rw[if_pos rfl,decide_eq_true rfl,Bool.true_and] at cL;have c:=pZ b v _ i 0 _ _ w (mV b v _ i 0 _ _ w cL h hi)
  cases o<;>exact c
 ·rw[if_neg he,decide_eq_false he,Bool.false_and] at cL
  have c:=pZ b v _ i e nob _ w (mV b v _ i e _ _ w cL h hi);rw[if_neg he] at c;have e1:nmS o e=nob/\nmI o i e=i/\nmE o e=e:=⟨if_neg he,if_neg he,if_neg he⟩;rw[e1.1,e1.2.1,e1.2.2];exact c
theorem zW2 (b:Nat) (v:Value) (i:Nat) (e:Int) (o:Option ByteArray) (w:World) (cS:∀w',Up w w'->Calls Tryz.prog 45 #[v,.int .i64 (i:Int)] w' (NaP o w')) (h:Psr w b v i e) (hi:i<=1000000) :
  Calls Tryz.prog 44 #[.pointer (some ⟨b,0,none⟩),.func (.func 45) #[] #[]] w (NmP b v (nmS o e) (nmI o i e) (nmE o e) w):=by
 have cL:=zSk b v i e _ _ w cS h
 by_cases he:e=0
 ·subst he
  rw[if_pos rfl,decide_eq_true rfl,Bool.true_and] at cL;have c:=pZ b v _ i 0 _ _ w (mV b v _ i 0 _ _ w cL h hi)
  cases o<;>exact c
 ·rw[if_neg he,decide_eq_false he,Bool.false_and] at cL
  have c:=pZ b v _ i e nob _ w (mV b v _ i e _ _ w cL h hi);rw[if_neg he] at c;have e1:nmS o e=nob/\nmI o i e=i/\nmE o e=e:=⟨if_neg he,if_neg he,if_neg he⟩;rw[e1.1,e1.2.1,e1.2.2];exact c
def InL (S:Nat->Prop) (b:Nat) (v:Value) (i:Nat) (e:Int) (P:World->Prop) (w:World) (en:Ending) (w':World):Prop:=(∃u,en = .returned u)/\Gs S w w'/\Psr w' b v i e/\P w'
section
variable {nk lg:ByteArray->Bool}
theorem zJ {W0:World} {l:List Tk} (b:Nat) (v:Value) (i:Nat) (e:Int) (opening closing:ByteArray) (k:FuncId) (cap:Array Value) (hE:EntF k) (S:Nat->Prop) (hSW:∀q,S q->W0.heap.size<=q) (hbW:W0.heap.size<=b) (i2:Nat) (e2:Int) (P:World->Prop) (w:World)
  (T:Toks nk lg W0 v l) (h:Psr w b v i e) (hu:Up W0 w) (hi:i<=1000000) (hi2:i2<=1000000)
  (cI:∀w1,Gs (On b) w w1->Psr w1 b v (neI i (tkB l i e opening)) (neE e (tkB l i e opening))->Calls Tryz.prog k cap w1 (InL S b v i2 e2 P w1)) :
  Calls Tryz.prog 64 #[.pointer (some ⟨b,0,none⟩),.string opening,.string closing,.func (.func k) #[] cap] w
   fun en w'=>(∃u,en = .returned u)/\∃w1 w2,Gs (On b) w w1/\Gs S w1 w2/\P w2/\Gs (On b) w2 w'/\Psr w' b v (neI i2 (tkB l i2 e2 closing)) (neE e2 (tkB l i2 e2 closing)):=by
 have cN:=zN b v i e opening w T h hu hi;have HU:=Lib.hid hu;have HI:=Lib.hid cI;have HT:=Lib.hid T;have HSW:=Lib.hid hSW;have HE:=Lib.hid hE;clear h hu cI T hSW hE
 go_enter Tryz.func64,Tryz.ntmps64
 go_wp2_with fail;refine cN.mono ?_;rintro en w1 ⟨⟨u,rfl⟩,g1,h1⟩;have cI:=HI.out w1 g1 h1;have G1:=Lib.hid g1;clear g1 h1;go_wp2_with fail;rw[HE.out,Oper.upon_enter];refine cI.mono ?_;rintro en w2 ⟨⟨u,rfl⟩,g2,h2,p2⟩;have u2:Up W0 w2:=g2.up (G1.out.up HU.out (fun q hq=>by rw[hq];exact hbW)) HSW.out;have cN2:=zN b v i2 e2 closing w2 HT.out h2 u2 hi2;have G2:=Lib.hid g2;have P2:=Lib.hid p2;clear g2 p2 u2 h2;go_wp2_with fail;refine cN2.mono ?_;rintro en w3 ⟨⟨u,rfl⟩,g3,h3⟩;go_wp2_with fail;go_end0;exact⟨⟨_,rfl⟩,w1,w2,G1.out,G2.out,P2.out,g3,h3⟩
end
end Go.Proofs.YtgeghilbikljcaaGreatDoor
namespace Go.Proofs.YtgeghilbikljcaaGreatDoor
open Go.RowKit Go.Shelf
attribute [local go_sem] Oper.semAt_some
def Kq (n v:Nat) (A B:World):Prop:=A.heap.size<=B.heap.size/\∀q,q<n->q≠v->B.heap[q]? = A.heap[q]?
theorem Kq.refl (n v:Nat) (A:World):Kq n v A A:=⟨Nat.le_refl _,fun _ _ _=>rfl⟩
theorem Kq.trans {n v:Nat} {A B C:World} (h:Kq n v A B) (k:Kq n v B C):Kq n v A C:=⟨Nat.le_trans h.1 k.1,fun q h1 h2=>(k.2 q h1 h2).trans (h.2 q h1 h2)⟩
theorem Kq.cell {n v:Nat} {A B:World} (h:Kq n v A B) {p:Addr} (h1:p.block<n) (h2:p.block≠v):B.cell? p=A.cell? p:=World.cell?_of_block (h.2 _ h1 h2)
theorem Kq.put {n v:Nat} {w:World} (hn:n<=w.heap.size) (W:World) (l:Nat) (o o':Obj) (hl:w.heap.size<=l) (_:W.heap[l]? = some o) (_:o.isCells=false) (_:o.isWalk=false):Kq n v W (W.putObj l o'):=⟨by simp,fun q hq _=>World.putObj_heap_other (by omega)⟩
def bwd (qs:List (Option Addr)) (k:Nat):List (Nat×Option Addr):=(List.range k).map fun j=>(qs.length-1-j,(qs[qs.length-1-j]?).getD none)
theorem oU (qs:List (Option Addr)) (k:Nat):bwd qs (k+1)=bwd qs k++[(qs.length-1-k,(qs[qs.length-1-k]?).getD none)]:=by simp[bwd,List.range_succ]
theorem sD (qs:List (Option Addr)) (k:Nat):(bwd qs k).length=k:=by simp[bwd]
theorem zVk (n k:Nat) (h:k<n):((n:Int)-1-(k:Int))=((n-1-k:Nat):Int):=by omega
theorem zSl (F:Fence) (n vb:Nat) (hf:F.fn 209) (hro:F.round=none) (hn:1<=n) (l Bs n₀ b off cap:Nat) (hv1:Bs≠vb) (hv2:b≠vb) (qs:List (Option Addr)) (hreach:qs.length<=100000000) (hb:b<n₀) (J Jx:List (Nat×Option Addr)->World->Prop)
  (hY:∀pre x W,J pre W->pre.length<qs.length->YieldAt F (n-1) Tryz.prog l #[.int .i64 (x.1:Int),.pointer x.2] W fun e W'=>
   (e = .returned (.bool true)/\J (pre++[x]) W'/\Kq n₀ vb W W')\/(e = .returned (.bool false)/\Jx (pre++[x]) W'))
  (W:World) (hBn:Bs<n₀) (hBs:W.cell? ⟨Bs,0,none⟩=some (.slice (some ⟨b,off,none⟩) qs.length cap)) (hc:∀j,j<qs.length->W.cell? ⟨b,off+j,none⟩=some (.pointer ((qs[j]?).getD none))) (h0:J [] W) :
  CallsIn F n Tryz.prog 209 #[.func (.yield l) #[] #[],.pointer (some ⟨Bs,0,none⟩)] W fun e W'=>(∃v,e = .returned v)/\
   ((∃ys,ys=bwd qs qs.length/\J ys W')\/(∃pre,(∃k,k<=qs.length/\pre=bwd qs k)/\Jx pre W')):=by
 obtain⟨len,hlen⟩:∃len,qs.length=len:=⟨_,rfl⟩;have HLEN:=Lib.hid hlen;rw[hlen] at hBs hreach ⊢;have HC:=Lib.hid hc;have HY:=Lib.hid hY;clear hc hY hlen;refine callsIn_of_wp Tryz.func209 rfl hf ?_ hro;simp only[Tryz.ntmps209,List.size_toArray,List.length_cons,List.length_nil,Nat.reduceAdd,Nat.reduceSub,Array.replicate_succ,Array.replicate_zero,List.push_toArray,List.append_toArray,List.nil_append,List.cons_append];have hw1:IntKind.i64.wrap ((len:Int)-1)=(len:Int)-1:=by rw[IntKind.wrap_i64];omega
 gi_wp2
 gi_loopw [3] (fun i wr=>∃k:Nat,k<=len/\i = .int .i64 ((len:Int)-1-(k:Int))/\J (bwd qs k) wr/\Kq n₀ vb W wr)
  (fun i _=>(intOf i+1).toNat)
 case atStart=>exact⟨0,Nat.zero_le _,jR (by omega),h0,Kq.refl _ _ _⟩
 case round=>
  obtain⟨k,hk,rfl,hJs,hnx⟩:=hrel;have hBs':=(hnx.cell (p:=⟨Bs,0,none⟩) hBn hv1).trans hBs
  by_cases hlt:k<len
  ·have hcx:wr.cell? ⟨b,off+(len-1-k),none⟩=some (.pointer ((qs[qs.length-1-k]?).getD none)):=by
    have h:=(hnx.cell (p:=⟨b,off+(len-1-k),none⟩) hb hv2).trans (HC.out (len-1-k) (by rw[HLEN.out];omega));rw[h,HLEN.out]
   obtain⟨fn,tmps,assign,body,hy,hR⟩:=HY.out _ (len-1-k,(qs[qs.length-1-k]?).getD none) wr hJs (by rw[sD,HLEN.out];exact hlt)
   dsimp only at hy
   have hi:(len:Int)-1-(k:Int)=((len-1-k:Nat):Int):=zVk len k hlt;have hlt':len-1-k<len:=by omega
   have hsucc:bwd qs (k+1)=bwd qs k++[(len-1-k,(qs[qs.length-1-k]?).getD none)]:=by rw[oU,HLEN.out]
   have HSUC:=Lib.hid hsucc;have HR:=Lib.hid hR;obtain⟨ix,hix⟩:∃ix,len-1-k=ix:=⟨_,rfl⟩;obtain⟨qx,hqx⟩:∃qx,(qs[qs.length-1-k]?).getD none=qx:=⟨_,rfl⟩;rw[hix,hqx] at hcx hy;rw[hix] at hi hlt';rw[hi];have HIX:=Lib.hid hix;have HQX:=Lib.hid hqx;have HI:=Lib.hid hi;have hw2:IntKind.i64.wrap ((ix:Int)-1)=(ix:Int)-1:=by rw[IntKind.wrap_i64];omega
   clear hsucc hR hix hqx hi
   gi_wp2
   refine HR.out.mono ?_;rintro e W3 (⟨rfl,hJ3,hk3⟩ | ⟨rfl,hJx3⟩)
   ·gi_wp2
    go_roundw
    case rel=>exact⟨k+1,by omega,jR (by have:=HI.out;omega),by rw[HSUC.out];exact hJ3,hnx.trans hk3⟩
    case measure=>first | (simp[intOf];omega) | simp[intOf]
   ·gi_wp2
    refine bodyPost_ret (results_none rfl _ _ _) rfl ?_;exact⟨⟨_,rfl⟩,.inr ⟨_,⟨k+1,by omega,HSUC.out.symm⟩,hJx3⟩⟩
  ·obtain rfl:k=len:=by omega
   have hi:¬(0:Int)<=(k:Int)-1-(k:Int):=by omega
   gi_wp2
   go_end0;exact⟨⟨_,rfl⟩,.inl (by first | exact hJs | exact⟨_,rfl,hJs⟩)⟩
theorem zOl (F:Fence) (n:Nat) (hf:F.fn 180) (hro:F.round=none) (a:Option Addr) (len cap:Nat) (w:World) :
  CallsIn F n Tryz.prog 180 #[.slice a len cap] w fun e w'=>e = .returned (.func (.func 209) #[] #[.pointer (some ⟨w.heap.size,0,none⟩)])/\w'=w.alloc (.cells #[.slice a len cap] 33):=by
 refine callsIn_of_wp Tryz.func180 rfl hf ?_ hro;simp only[Tryz.ntmps180,List.size_toArray,List.length_cons,List.length_nil,Nat.reduceAdd,Nat.reduceSub,Array.replicate_succ,Array.replicate_zero,List.push_toArray,List.append_toArray,List.nil_append,List.cons_append]
 gi_wp2
 go_ret
 exact⟨rfl,rfl⟩
theorem zY7 (F:Fence) (n vb:Nat) (hf:F.fn 209) (hro:F.round=none) (hn:1<=n) (Bs n₀ b off cap:Nat) (hv1:Bs≠vb) (hv2:b≠vb) (qs:List (Option Addr)) (hreach:qs.length<=100000000) (w:World) (hBs:Bs<n₀) (hb:b<n₀) (hn₀:n₀<=w.heap.size)
  (hc:w.cell? ⟨Bs,0,none⟩=some (.slice (some ⟨b,off,none⟩) qs.length cap)) (hI:∀j,j<qs.length->w.cell? ⟨b,off+j,none⟩=some (.pointer ((qs[j]?).getD none))) :
  SeqStopsK F n Tryz.prog 209 #[.pointer (some ⟨Bs,0,none⟩)] (fun x:Nat×Option Addr=>#[Value.int .i64 (x.1:Int),Value.pointer x.2]) (Kq n₀ vb) (fun ys=>ys=bwd qs qs.length)
   (fun pre=>∃k,k<=qs.length/\pre=bwd qs k) qs.length w:=fun l J Jx W hW _ _ hY h0=>by
 have hc':=(hW.cell (p:=⟨Bs,0,none⟩) (by simp only;omega)).trans hc;exact zSl F n vb hf hro hn l Bs n₀ b off cap hv1 hv2 qs hreach hb J Jx hY W hBs hc' (fun j hj=>(hW.cell (p:=⟨b,off+j,none⟩) (by simp only;omega)).trans (hI j hj)) h0
end Go.Proofs.YtgeghilbikljcaaGreatDoor
namespace Go.Proofs.YtgeghilbikljcaaGreatDoor
open Go.RowKit Go.Shelf
attribute [local go_sem] Oper.semAt_some
def isC (w:World) (q:Nat):Prop:=∃o:Obj,w.heap[q]? = some o/\o.isCells=true
theorem oV {w:World} {a:Addr} {v:Value} (h:w.cell? a=some v):isC w a.block:=by
 cases hb:w.heap[a.block]? with
 | none=>simp[World.cell?,hb] at h
 | some o=>
  refine⟨o,hb,?_⟩
  cases o with
  | cells c t f=>rfl
  | _=>simp[World.cell?,hb] at h
theorem InF.cells {w:World} {S:Nat->Prop}:∀{f:Fr} {b o:Nat},InF w S f b o->InF w (fun q=>S q/\isC w q) f b o
 | .nil,_,_,_=>trivial
 | .cons x ks rs,b,o,⟨⟨v,hv,q,p,A,c,e,hq,⟨xs,te,hx⟩,h0,h1,h2,h3,h4,hc,hkids⟩,hr⟩=>
  ⟨⟨v,hv,q,p,A,c,e,⟨hq,_,hx,rfl⟩,⟨xs,te,hx⟩,h0,h1,h2,h3,h4,hc,fun hn=>by
   obtain⟨kb,ko,hA,h5,h7⟩:=hkids hn;refine⟨kb,ko,hA,⟨h5,?_⟩,InF.cells h7⟩
   cases ks with
   | nil=>exact absurd hn (Nat.lt_irrefl _)
   | cons y k2 r2=>
    obtain⟨⟨u,hu,_⟩,_⟩:=h7;exact oV (a:=⟨kb,ko,none⟩) hu⟩,InF.cells hr⟩
theorem InT.cells {w:World} {S:Nat->Prop} {v:Value} {t:Tr} (h:InT w S v t):InT w (fun q=>S q/\isC w q) v t:=by
 obtain⟨q,p,A,c,e,hq,⟨xs,te,hx⟩,h0,h1,h2,h3,h4,hc,hkids⟩:=h;refine⟨q,p,A,c,e,⟨hq,_,hx,rfl⟩,⟨xs,te,hx⟩,h0,h1,h2,h3,h4,hc,fun hn=>?_⟩;obtain⟨kb,ko,hA,h5,h7⟩:=hkids hn;refine⟨kb,ko,hA,⟨h5,?_⟩,InF.cells h7⟩;obtain⟨x,k,r,hf⟩:=Fr.cut hn;rw[hf] at h7;obtain⟨⟨u,hu,_⟩,_⟩:=h7;exact oV (a:=⟨kb,ko,none⟩) hu
theorem Ptrs.list:∀{ps:List Value},Ptrs ps->∃qs:List (Option Addr),ps=qs.map Value.pointer
 | [],_=>⟨[],rfl⟩
 | p::ps,h=>by
  obtain⟨A,rfl⟩:=h p (List.mem_cons_self ..);obtain⟨qs,rfl⟩:=Ptrs.list (ps:=ps) fun u hu=>h u (List.mem_cons_of_mem _ hu)
  exact⟨A::qs,rfl⟩
def Sc (w:World) (Bn:Nat) (W:World) (q:Nat):Prop:=NewS w W q/\q≠Bn/\isC W q
theorem isC.keep {W W':World} {q:Nat} (h:isC W q) (hb:W'.heap[q]? = W.heap[q]?):isC W' q:=by
 obtain⟨o,ho,hc⟩:=h;exact⟨o,hb.trans ho,hc⟩
theorem zOm {w W0 W:World} {Bn:Nat} {v:Value} {t:Tr} (g:Gs (On Bn) W0 W) (h:InT W0 (Sc w Bn W0) v t):InT W (Sc w Bn W) v t:=
 InT.keep h (fun q hq=>⟨⟨hq.1.1,Nat.lt_of_lt_of_le hq.1.2 g.size⟩,hq.2.1,hq.2.2.keep (g.block q hq.1.2 hq.2.1)⟩) fun q hq=>g.block q hq.1.2 hq.2.1
def dropF:Fr->Nat->Fr
 | f,0=>f
 | .nil,_+1=>.nil
 | .cons _ _ r,n+1=>dropF r n
theorem mW:∀(f:Fr) (n:Nat),(dropF f n).len=f.len-n
 | .nil,0=>rfl
 | .cons _ _ _,0=>rfl
 | .nil,n+1=>by show 0=0-(n+1);omega
 | .cons _ _ r,n+1=>by show(dropF r n).len=r.len+1-(n+1);rw[mW r n];omega
theorem mX:∀{f:Fr} {i:Nat} {t:Tr},f.get i=some t->dropF f i=(fr1 t).app (dropF f (i+1))
 | .nil,_,_,h=>by cases h
 | .cons x k r,0,t,h=>by
  have h:some (x,k)=some t:=h;have h:=Option.some.inj h;subst h
  show Fr.cons x k r=Fr.cons x k (Fr.app .nil (dropF r 0))
  cases r<;>rfl
 | .cons x k r,i+1,t,h=>mX (f:=r) (i:=i) h
theorem zY8 {k:Int} {f:Fr} {i:Nat} {t:Tr} (h:f.get i=some t) (hl:i+1<f.len):foldK k (dropF f i)=nd k nob (fr2 t (foldK k (dropF f (i+1)))):=by
 rw[mX h,bC k t (by rw[mW];omega)]
theorem zY9 {k:Int} {f:Fr} {i:Nat} {t:Tr} (h:f.get i=some t) (hl:i+1=f.len):foldK k (dropF f i)=t:=by
 have h0:(dropF f (i+1)).len=0:=by rw[mW];omega
 have e:dropF f (i+1) = .nil:=by
  cases hd:dropF f (i+1) with
  | nil=>rfl
  | cons _ _ _=>rw[hd] at h0;cases h0
 rw[mX h,e,Fr.app_nil]
 rfl
theorem PtF.get {w:World} {S:Nat->Prop}:∀{vs:List Value} {f:Fr} {i:Nat} {v:Value},PtF w S vs f->vs[i]? = some v->∃t,f.get i=some t/\InT w S v t
 | [],_,_,_,_,h=>by cases h
 | _::_,.nil,_,_,h,_=>h.elim
 | v::vs,.cons x ks rs,0,u,h,hv=>⟨(x,ks),rfl,by rw[<- Option.some.inj hv];exact h.1⟩
 | _::vs,.cons _ _ rs,i+1,u,h,hv=>PtF.get (vs:=vs) (f:=rs) (i:=i) h.2 hv
def NI (w W0:World) (Bn:Nat) (kind:Int) (R:Rs Fr) (qs:List (Option Addr)) (pre:List (Nat×Option Addr)) (W:World):Prop:=
 ∃A,Boxed W Bn 24 (.pointer A)/\Gs (On Bn) W0 W/\(pre=bwd qs pre.length->pre.length<=qs.length->∀f j,R = .inl (f,j)->InT W (Sc w Bn W) (.pointer A) (foldK kind (dropF f (qs.length-pre.length))))
theorem zSm {w W0:World} {Bn:Nat} {kind:Int} {R:Rs Fr} {qs:List (Option Addr)} (hB:Bn<W0.heap.size):OwnFrom W0.heap.size (NI w W0 Bn kind R qs):=fun s X Y row ⟨A,hb,hg,ht⟩ hgr hr=>
 ⟨A,hb.kept hgr (fun e=>by have:=(hr Bn e.symm).1;omega),hg.grown hgr (fun g e=>.inr (hr g e).1),fun h1 h2 f j hf=>by
  have hk:∀q,Sc w Bn X q->Y.heap[q]? = X.heap[q]?:=fun q hq=>hgr.block q hq.1.2 fun e=>by
   obtain⟨-,o,ho,hc⟩:=hr q e.symm;obtain⟨o',ho',hc'⟩:=hq.2.2;rw[ho] at ho';have e:=Option.some.inj ho';rw[e,hc'] at hc
   cases hc
  exact InT.keep (ht h1 h2 f j hf) (fun q hq=>⟨⟨hq.1.1,Nat.lt_of_lt_of_le hq.1.2 hgr.size⟩,hq.2.1,hq.2.2.keep (hk q hq)⟩) hk⟩
theorem zLp {w:World} {S:Nat->Prop} {va vb:Value} {a b:Tr} {k:Int} (ha:InT w S va a) (hb:InT w S vb b) (hS:∀q,S q->q<w.heap.size) :
  InT ((w.alloc (.cells #[va,vb] 24)).alloc (.cells #[.int .i64 k,.int .i64 0,.string nob,.string ⟨#[]⟩,.slice (some ⟨w.heap.size,0,none⟩) 2 2] 44)) (fun q=>S q\/q=w.heap.size\/q=w.heap.size+1) (.pointer (some ⟨w.heap.size+1,0,none⟩)) (nd k nob (fr2 a b)):=by
 have e1:(w.alloc (.cells #[va,vb] 24)).heap.size=w.heap.size+1:=by simp
 obtain⟨W1,hW1⟩:∃W1,w.alloc (.cells #[va,vb] 24)=W1:=⟨_,rfl⟩;have s1:W1.heap[w.heap.size]? = some (.cells #[va,vb] 24 (0,0)):=by rw[<- hW1];exact heap_alloc_new w _
 have u1:Up w W1:=by rw[<- hW1];exact(Up.refl w).alloc _
 rw[hW1] at e1 ⊢;rw[<- e1];obtain⟨W2,hW2⟩:∃W2,W1.alloc (.cells #[.int .i64 k,.int .i64 0,.string nob,.string ⟨#[]⟩,.slice (some ⟨w.heap.size,0,none⟩) 2 2] 44)=W2:=⟨_,rfl⟩;have s2:W2.heap[W1.heap.size]? = some (.cells #[.int .i64 k,.int .i64 0,.string nob,.string ⟨#[]⟩,.slice (some ⟨w.heap.size,0,none⟩) 2 2] 44 (0,0)):=by rw[<- hW2];exact heap_alloc_new W1 _
 have u2:Up W1 W2:=by rw[<- hW2];exact(Up.refl W1).alloc _
 have s3:W2.heap[w.heap.size]? = some (.cells #[va,vb] 24 (0,0)):=u2.row s1;have kp:∀q,S q->W2.heap[q]? = w.heap[q]?:=fun q hq=>(u1.trans u2).block q (hS q hq)
 rw[hW2];exact yV (x:=⟨k,0,nob,nob⟩) (f:=fr2 a b) s2 rfl (Nat.le_refl _) (.inr (.inr rfl)) (.inr (.inl rfl)) ⟨⟨_,cell_of_row W2 w.heap.size 0 _ _ _ s3,InT.keep ha (fun _ h=>.inl h) kp⟩,⟨_,cell_of_row W2 w.heap.size 1 _ _ _ s3,InT.keep hb (fun _ h=>.inl h) kp⟩,trivial⟩
theorem zOn {w W0 W:World} {Bn:Nat} {kind:Int} {R:Rs Fr} {qs:List (Option Addr)} {pre:List (Nat×Option Addr)} {x:Nat×Option Addr} {A:Option Addr} (hz:w.heap.size<=W0.heap.size) (_hB:w.heap.size<=Bn) (bX:Boxed W Bn 24 (.pointer A)) (g:Gs (On Bn) W0 W)
  (ht:pre=bwd qs pre.length->pre.length<=qs.length->∀f j,R = .inl (f,j)->InT W (Sc w Bn W) (.pointer A) (foldK kind (dropF f (qs.length-pre.length))))
  (hget:∀f j,R = .inl (f,j)->f.len=qs.length+1/\∀(i:Nat) B,qs[i]? = some B->∃t,f.get i=some t/\InT W0 (Sc w Bn W0) (.pointer B) t) :
  NI w W0 Bn kind R qs (pre++[x]) (((W.setCell ⟨Bn,0,none⟩ (.pointer (some ⟨W.heap.size+1,0,none⟩))).alloc (.cells #[.pointer x.2,.pointer A] 24)).alloc (.cells #[.int .i64 kind,.int .i64 0,.string nob,.string ⟨#[]⟩,.slice (some ⟨W.heap.size,0,none⟩) 2 2] 44)):=by
 obtain⟨Ws,hWs⟩:∃Ws,W.setCell ⟨Bn,0,none⟩ (.pointer (some ⟨W.heap.size+1,0,none⟩))=Ws:=⟨_,rfl⟩;have zs:Ws.heap.size=W.heap.size:=by rw[<- hWs];simp[World.setCell]
 have bs:Boxed Ws Bn 24 (.pointer (some ⟨W.heap.size+1,0,none⟩)):=by rw[<- hWs];exact bX.set _
 have gs:Gs (On Bn) W0 Ws:=by rw[<- hWs];exact g.set _ _ (.inl rfl)
 have hcn:∀q,q≠Bn->Ws.heap[q]? = W.heap[q]?:=fun q hq=>by rw[<- hWs];exact Below.heap_setCell _ _ _ _ hq
 rw[hWs,<- zs];rw[<- zs] at bs;refine⟨_,(bs.alloc _).alloc _,(gs.alloc _).alloc _,fun h1 h2 f j hf=>?_⟩;obtain⟨hlen,hget⟩:=hget f j hf;have hl1:(pre++[x]).length=pre.length+1:=by simp
 rw[hl1] at h1 h2 ⊢;rw[oU] at h1;obtain⟨h3,h4⟩:=List.append_inj' h1 rfl;have h5:x=(qs.length-1-pre.length,(qs[qs.length-1-pre.length]?).getD none):=by simpa using h4
 obtain⟨B,hBq⟩:∃B,qs[qs.length-1-pre.length]? = some B:=⟨_,List.getElem?_eq_getElem (by omega)⟩;obtain⟨t,hft,htt⟩:=hget _ B hBq;have hx:x.2=B:=by rw[h5];show(qs[qs.length-1-pre.length]?).getD none=B;rw[hBq];rfl
 have hta:=ht h3 (by omega) f j hf;have hi:qs.length-(pre.length+1)=qs.length-1-pre.length:=by omega
 have hi2:qs.length-pre.length=qs.length-1-pre.length+1:=by omega
 rw[hi,zY8 hft (by omega)];rw[hi2] at hta;have kp:∀q,Sc w Bn W q->Ws.heap[q]? = W.heap[q]?:=fun q hq=>hcn q hq.2.1
 have h6:=zLp (k:=kind) (InT.keep (zOm g htt) (fun _ h=>h) kp) (InT.keep hta (fun _ h=>h) kp) (fun q hq=>by rw[zs];exact hq.1.2);rw[<- hx] at h6;have hbW:Bn<W.heap.size:=bX.lt;have hgz:=g.size;have z2:((Ws.alloc (.cells #[.pointer x.2,.pointer A] 24)).alloc (.cells #[.int .i64 kind,.int .i64 0,.string nob,.string ⟨#[]⟩,.slice (some ⟨Ws.heap.size,0,none⟩) 2 2] 44)).heap.size=Ws.heap.size+2:=by simp
 refine InT.keep h6 (fun q hq=>?_) fun q hq=>rfl
 rcases hq with hq | rfl | rfl
 ·exact⟨⟨hq.1.1,by rw[z2];have:=hq.1.2;omega⟩,hq.2.1,hq.2.2.keep ((((Up.refl Ws).alloc _).alloc _).block q (by rw[zs];exact hq.1.2) |>.trans (hcn q hq.2.1))⟩
 ·exact⟨⟨by omega,by rw[z2];omega⟩,by omega,⟨_,yF _ (heap_alloc_new Ws _),rfl⟩⟩
 ·exact⟨⟨by omega,by rw[z2];omega⟩,by omega,⟨_,yU _ _ (by simp),rfl⟩⟩
theorem xU {b Bn:Nat} {a w w':World} (h:Gs (On b) a w) (g:Gs (On Bn) w w') (hB:a.heap.size<=Bn):Gs (On b) a w':=
 ⟨g.os.trans h.os,g.tape.trans h.tape,g.output.trans h.output,Nat.le_trans h.size g.size,fun k hk hn=>(g.block k (Nat.lt_of_lt_of_le hk h.size) (by unfold On;omega)).trans (h.block k hk hn)⟩
theorem zOo (f:Fr):dropF f 0=f:=by cases f<;>rfl
theorem oW {w:World} {B:Nat} {e:TypeId} {g n cp k:Nat} {ps:List Value} (h:w.ownsRow B e 1 (.slice (some ⟨g,0,none⟩) n cp) k ps):k<=cp:=by
 rcases h.2 with ⟨h,-⟩ | ⟨g',cap,cur,h,-,-,hc,-⟩
 ·cases h
 ·cases h
  exact hc
theorem oX {α:Type} (a:Array α) (x:α) (f:α->α) (i:Nat) (h:i<a.size):(a.push x).modify i f=(a.modify i f).push x:=by
 apply Array.ext
 ·simp
 ·intro j h1 h2
  simp only[Array.size_modify,Array.size_push] at h1;rw[Array.getElem_modify,Array.getElem_push,Array.getElem_push];simp only[Array.size_modify]
  by_cases hj:j<a.size
  ·rw[dif_pos hj,dif_pos hj,Array.getElem_modify]
  ·rw[dif_neg hj,dif_neg hj,if_neg (by omega)]
theorem qZ (w:World) (o:Obj) (p:Addr) (v:Value) (h:p.block<w.heap.size):(w.alloc o).setCell p v=(w.setCell p v).alloc o:=by
 unfold World.setCell World.alloc;simp only;rw[oX _ _ _ _ h]
def jv (Bk:Nat):Value:=.func (.func 182) #[] #[.pointer (some ⟨Bk,0,none⟩)]
theorem bE (kind:Int) (w:World):Calls Tryz.prog 159 #[.int .i64 kind] w fun e w'=>e = .returned (jv w.heap.size)/\w'=w.alloc (.cells #[.int .i64 kind] 3):=by
 go_enter Tryz.func159,Tryz.ntmps159
 go_wp2_with fail
 go_ret
 exact⟨rfl,rfl⟩
theorem zSn (A1 A2:Option Addr) (Bk:Nat) (kind:Int) (w:World) (ck:w.cell? ⟨Bk,0,none⟩=some (.int .i64 kind)):Calls Tryz.prog 182 #[.pointer A1,.pointer A2,.pointer (some ⟨Bk,0,none⟩)] w fun e w'=>e = .returned (.pointer (some ⟨w.heap.size+1,0,none⟩))/\
  w'=(w.alloc (.cells #[.pointer A1,.pointer A2] 24)).alloc (.cells #[.int .i64 kind,.int .i64 0,.string ⟨#[]⟩,.string ⟨#[]⟩,.slice (some ⟨w.heap.size,0,none⟩) 2 2] 44):=by
 go_enter Tryz.func182,Tryz.ntmps182
 go_wp2_with fail
 go_ret
 exact⟨rfl,rfl⟩
theorem vG (b:Nat) (v:Value) (sign:ByteArray) (kind:Int) (part:Value) (R:Rs Fr) (J:Fr->World->Prop) (w:World) (hb:b<w.heap.size) (Bk:Nat) (hk:w.heap[Bk]? = some (.cells #[.int .i64 kind] 3 (0,0))) (hkb:Bk≠b)
  (hrow:Calls Tryz.prog 179 #[.pointer (some ⟨b,0,none⟩),.string sign,part] (w.alloc (.cells #[jv Bk] 155)) (RowP (On b) b v R J (w.alloc (.cells #[jv Bk] 155)))) :
  Calls Tryz.prog 157 #[.pointer (some ⟨b,0,none⟩),.string sign,part,jv Bk] w (PaT (On b) b v (toT kind R) (fun _ _=>True) w):=by
 refine(callsIn_wide (n:=3)).1 ?_;refine callsIn_of_wp_marks Tryz.func157 rfl trivial ?_ rfl;simp only[Tryz.ntmps157,List.size_toArray,List.length_cons,List.length_nil,Nat.reduceAdd,Nat.reduceSub,Array.replicate_succ,Array.replicate_zero,List.push_toArray,List.append_toArray,List.nil_append,List.cons_append];have HROW:=Lib.hid hrow;have bK:=Boxed.new w 155 (jv Bk);have HBK:=Lib.hid bK;have HKD:=Lib.hid (((Up.refl w).alloc (.cells #[jv Bk] 155)).row hk);have hkw:=qC hk;clear hrow bK hk;have HBW:=Lib.hid hb
 gi_wp2_with (refine⟨trivial,?_⟩;gi_at_call 179;refine(callsIn_wide.2 HROW.out).mono ?_;rintro e w1 ⟨vo,ps,rfl,⟨ho,hpt⟩,hp0,hpl,g1,hR1⟩;obtain⟨g,cp,rfl,hbg,hltg⟩:=ho.form hp0;obtain⟨n,hn⟩:∃n,ps.length=n:=⟨_,rfl⟩;rw[hn] at hp0 hpl ho ⊢;obtain⟨m,hm⟩:∃m,n=m+1:=⟨n-1,by omega⟩;have hw:IntKind.i64.wrap ((n:Int)-1)=(m:Int):=(by rw[IntKind.wrap_i64];omega);have hmn:m<n:=(by omega);have hcp:n<=cp:=oW ho;have hmc:m<=cp:=(by omega);obtain⟨qs0,hqs0⟩:=hpt.list;obtain⟨Al,hAl⟩:∃Al,qs0[m]? = some Al:=⟨_,List.getElem?_eq_getElem (by rw[hqs0,List.length_map] at hn;omega)⟩;have hcl:w1.cell? ⟨g,m,none⟩=some (.pointer Al):=(by have h1:=ho.cells (g:=g) rfl m (.pointer Al) (by rw[hqs0,List.getElem?_map,hAl];rfl);have e1:(⟨g,0,none⟩:Addr).add m=⟨g,0+m,none⟩:=(by unfold Addr.add;split<;>simp_all);rw[e1,Nat.zero_add] at h1;exact h1);have HO:=Lib.hid ho;have G1:=Lib.hid g1;have HR1:=Lib.hid hR1;have HPT:=Lib.hid hqs0;have HN:=Lib.hid hn;have HM:=Lib.hid hm;have HAL:=Lib.hid hAl;clear ho g1 hR1 hqs0 hpt hn hm hAl hbg)
 refine⟨trivial,(zOl _ _ trivial rfl _ _ _ _).mono ?_⟩;rintro e w2 ⟨rfl,rfl⟩
 gi_wp2
 obtain⟨W0,hW0⟩:∃W0,(w1.alloc (.cells #[.pointer Al] 24)).alloc (.cells #[.slice (some ⟨g,0,none⟩) m cp] 33)=W0:=⟨_,rfl⟩;have z0:W0.heap.size=w1.heap.size+2:=by rw[<- hW0];simp
 have bN:Boxed W0 w1.heap.size 24 (.pointer Al):=by rw[<- hW0];exact(Boxed.new w1 _ _).alloc _
 have bS:Boxed W0 (w1.heap.size+1) 33 (.slice (some ⟨g,0,none⟩) m cp):=by
  rw[<- hW0];have h:=Boxed.new (w1.alloc (.cells #[.pointer Al] 24)) 33 (.slice (some ⟨g,0,none⟩) m cp)
  rwa [World.size_alloc] at h
 have u0:Up w1 W0:=by rw[<- hW0];exact((Up.refl w1).alloc _).alloc _
 have g1:=G1.out;have z1:w.heap.size+1<=w1.heap.size:=by have:=g1.size;rwa [World.size_alloc] at this
 have hn0:qs0.length=n:=by have:=HN.out;rw[HPT.out,List.length_map] at this;exact this
 have hm:=HM.out;have hql:(qs0.take m).length=m:=by rw[List.length_take];omega
 have hgt:∀(i:Nat) B,(qs0.take m)[i]? = some B->qs0[i]? = some B:=fun i B h=>by
  rw[List.getElem?_take] at h
  split at h
  ·exact h
  ·cases h
 have hcs:∀j,j<(qs0.take m).length->W0.cell? ⟨g,0+j,none⟩=some (.pointer (((qs0.take m)[j]?).getD none)):=fun j hj=>by
  obtain⟨B,hB⟩:∃B,(qs0.take m)[j]? = some B:=⟨_,List.getElem?_eq_getElem hj⟩;rw[hB];have h1:=HO.out.cells (g:=g) rfl j (.pointer B) (by rw[HPT.out,List.getElem?_map,hgt j B hB];rfl);have e1:(⟨g,0,none⟩:Addr).add j=⟨g,0+j,none⟩:=by unfold Addr.add;split<;>simp_all
  rw[e1] at h1;exact u0.cell h1
 have hall:∀f j,R = .inl (f,j)->f.len=n/\∀(i:Nat) B,qs0[i]? = some B->∃t,f.get i=some t/\InT W0 (Sc w w1.heap.size W0) (.pointer B) t:=fun f j hf=>by
  have hr:=HR1.out;rw[hf] at hr;have hrt:RwT (w.alloc (.cells #[jv Bk] 155)) w1 (.slice (some ⟨g,0,none⟩) ps.length cp) ps f:=hr.1;refine⟨by rw[<- hrt.len,HN.out],fun i B hB=>?_⟩;obtain⟨t,h1,h2⟩:=PtF.get hrt (i:=i) (v:=.pointer B) (by rw[HPT.out,List.getElem?_map,hB];rfl);refine⟨t,h1,InT.keep h2.cells (fun q hq=>?_) fun q hq=>u0.block q hq.1.1.2⟩;have h3:=hq.1.1.1;have h4:=hq.1.1.2;rw[World.size_alloc] at h3;exact⟨⟨by omega,by omega⟩,by omega,hq.2.keep (u0.block q h4)⟩
 have HALL:=Lib.hid hall;have hget:∀f j,R = .inl (f,j)->f.len=(qs0.take m).length+1/\∀(i:Nat) B,(qs0.take m)[i]? = some B->∃t,f.get i=some t/\InT W0 (Sc w w1.heap.size W0) (.pointer B) t:=fun f j hf=>by
  obtain⟨h1,h2⟩:=HALL.out f j hf;exact⟨by rw[hql];omega,fun i B hB=>h2 i B (hgt i B hB)⟩
 have hni:NI w W0 w1.heap.size kind R (qs0.take m) [] W0:=⟨Al,bN,Gs.refl _ _,fun _ _ f j hf=>by
  obtain⟨h1,h2⟩:=HALL.out f j hf;obtain⟨t,h3,h4⟩:=h2 m Al HAL.out;rw[hql]
  show InT W0 _ _ (foldK kind (dropF f m))
  rw[zY9 h3 (by omega)];exact h4⟩
 rw[hW0];obtain⟨qs,hqs⟩:∃qs,qs0.take m=qs:=⟨_,rfl⟩;rw[hqs] at hql hcs hget hni;have HGET:=Lib.hid hget;have HNI:=Lib.hid hni;have HU0:=Lib.hid u0;have HBS:=Lib.hid bS;have HCS:=Lib.hid hcs;have gk:W0.heap[w.heap.size]? = some (.cells #[jv Bk] 155 (0,0)):=u0.row (g1.row HBK.out (by unfold On;omega));have gk2:W0.heap[Bk]? = some (.cells #[.int .i64 kind] 3 (0,0)):=u0.row (g1.row HKD.out (by unfold On;omega));have HGK:=Lib.hid gk;have HGK2:=Lib.hid gk2;subst hql;clear hW0 bN bS u0 g1 hall hget hni hcs hgt hqs gk gk2 hn0 hm;refine wpIn_rangeFunc_ownF rfl (by decide) (gf:=209) (lb:=#[.pointer (some ⟨w1.heap.size+1,0,none⟩)]) rfl trivial (enters_of Tryz.func209 (by kernel_rfl) rfl)
  (zY7 Fence.wide 2 w1.heap.size trivial rfl (by decide) (w1.heap.size+1) W0.heap.size g 0 cp (by omega) (by omega) qs (by omega) W0 (by omega) (by omega) (Nat.le_refl _) HBS.out.cell HCS.out)
  (fun h k=>Kq.trans h k) (Kq.put (Nat.le_refl _)) (Below.refl _ _) (fun _=>rfl)
  (NI w W0 w1.heap.size kind R qs) (fun _ _ _=>False) (zSm (by omega)) (fun _ _ _ _ _ hs _ _=>hs) HNI.out
  (fun x=>{tmps:=#[.pointer (some ⟨b,0,none⟩),.string sign,part,jv Bk,undef,undef,undef,.pointer (some ⟨w.heap.size,0,none⟩),.pointer none,.slice (some ⟨g,0,none⟩) n cp,.int .i64 (qs.length:Int),.pointer (some ⟨w1.heap.size,0,none⟩),undef,.pointer x.2,.pointer (some ⟨b,0,none⟩),.string sign,part,.slice (some ⟨g,0,none⟩) n cp,.slice (some ⟨g,0,none⟩) n cp,.int .i64 (n:Int),.int .i64 (qs.length:Int),.slice (some ⟨g,0,none⟩) n cp,.int .i64 (qs.length:Int),.pointer (some ⟨g,qs.length,none⟩),.pointer Al,.slice (some ⟨g,0,none⟩) n cp,.int .i64 (qs.length:Int),.slice (some ⟨g,0,none⟩) qs.length cp,.func (.func 209) #[] #[.pointer (some ⟨w1.heap.size+1,0,none⟩)],.int .i64 (x.1:Int),.pointer x.2,undef,undef,undef,undef,undef],defers:=[]}) ?assign ?body ?done ?stop
 case assign=>
  intro l x W K hK
  gi_wp2
  exact hK
 case body=>
  rintro l pre x W ⟨A,bX,gX,hX⟩ _;have ck:W.cell? ⟨Bk,0,none⟩=some (.int .i64 kind):=cell_of_row W Bk 0 _ _ _ (gX.row HGK2.out (by unfold On;omega));have cj:W.cell? ⟨w.heap.size,0,none⟩=some (.func (.func 182) #[] #[.pointer (some ⟨Bk,0,none⟩)]):=cell_of_row W w.heap.size 0 _ _ _ (gX.row HGK.out (by unfold On;omega));have cX:=bX.cell;have hbl:=bX.lt;have hzW:=gX.size;have HX:=Lib.hid hX;have GX:=Lib.hid gX;have BX:=Lib.hid bX;clear hX gX bX
  gi_wp2_with (refine⟨trivial,?_⟩;gi_at_call 182;refine(callsIn_wide.2 (zSn _ _ Bk kind _ ck)).mono ?_;rintro e w9 ⟨rfl,h9⟩;have b9:Boxed w9 w1.heap.size 24 (.pointer A):=(by rw[h9];exact(BX.out.alloc _).alloc _);have c9:=b9.cell;have f9:=b9.frozen;have hb9:=b9.lt;have H9:=Lib.hid h9;clear h9 b9)
  have h9:=H9.out;have e9:w9.setCell ⟨w1.heap.size,0,none⟩ (.pointer (some ⟨W.heap.size+1,0,none⟩))=((W.setCell ⟨w1.heap.size,0,none⟩ (.pointer (some ⟨W.heap.size+1,0,none⟩))).alloc (.cells #[.pointer x.2,.pointer A] 24)).alloc (.cells #[.int .i64 kind,.int .i64 0,.string nob,.string ⟨#[]⟩,.slice (some ⟨W.heap.size,0,none⟩) 2 2] 44):=by
   rw[h9,qZ _ _ _ _ (by rw[World.size_alloc];simp only;omega),qZ _ _ _ _ (by simp only;omega)]
   rfl
  rw[e9];refine⟨((KeepsOthers.setCell _ _ _).trans (KeepsOthers.alloc _ _)).trans (KeepsOthers.alloc _ _),⟨by simp[World.setCell];omega,fun q hq hne=>?_⟩,zOn (by omega) (by omega) BX.out GX.out HX.out HGET.out⟩;have hs:(W.setCell ⟨w1.heap.size,0,none⟩ (.pointer (some ⟨W.heap.size+1,0,none⟩))).heap.size=W.heap.size:=by simp[World.setCell]
  exact((((Up.refl _).alloc _).alloc _).block q (by rw[hs];omega)).trans (Below.heap_setCell _ _ _ _ hne)
 case done=>
  rintro D ys W hD rfl hI hK;have hI2:=(zSm (by omega)).putObj (.deferred none) hI hD hK rfl;have HI2:=Lib.hid hI2;have HK:=Lib.hid hK;obtain⟨A,bX,gX,hX⟩:=hI;have cX:=bX.cell;clear hX gX bX hI2
  gi_wp2
  refine⟨by simp,.inl ⟨_,_,rfl,run_takeDeferred hK,?_⟩⟩;refine⟨_,results_tmp rfl _ _ _,A,rfl,?_⟩;obtain⟨A2,b2,g2,h2⟩:=HI2.out;have hne:w1.heap.size≠D:=by omega
  have e2:A2=A:=by
   have e:=b2.cell;rw[World.cell?_of_block (a:=⟨w1.heap.size,0,none⟩) (World.putObj_heap_other hne),cX] at e;injection e with e;injection e with e;exact e.symm
  subst e2;have g1:=G1.out;have u0:=HU0.out;have hr1:=HR1.out;refine⟨xU (((Gs.of ((Up.refl w).alloc (.cells #[jv Bk] 155))).trans g1).trans (Gs.of u0)) g2 (by omega),?_⟩
  cases R with
  | inr e=>
   obtain⟨p,r⟩:=e;exact g2.row (u0.row hr1) (by unfold On;omega)
  | inl e=>
   obtain⟨f,j⟩:=e;have h3:=h2 (by rw[sD]) (by rw[sD];exact Nat.le_refl _) f j rfl;rw[sD,Nat.sub_self,zOo] at h3;exact⟨InT.keep h3 (fun q hq=>hq.1) fun _ _=>rfl,g2.row (u0.row hr1.2.1) (by unfold On;omega),trivial⟩
 case stop=>
  rintro D c pre W _ _ h _;exact h.elim
end Go.Proofs.YtgeghilbikljcaaGreatDoor
namespace Go.Proofs.YtgeghilbikljcaaGreatDoor
open Go.RowKit
def plV:Array Value:=#[.string kInt,.int .i64 1,.string kBool,.int .i64 2,.string kUnit,.int .i64 3]
def Pl (w:World):Prop:=∃t z,w.heap[4]? = some (.cells plV t z)
theorem Pl.up {w w':World} (h:Pl w) (u:Up w w'):Pl w':=by
 obtain⟨t,z,h⟩:=h;exact⟨t,z,u.row h⟩
def plS:Nat->ByteArray
 | 0=>kInt
 | 1=>kBool
 | _=>kUnit
theorem tX:∀k:Nat,k<3->∀w:World,(Instr.index 201 (.agg plV) (.int .i64 (k:Int))).run Tryz.prog w = .ok (.agg #[.string (plS k),.int .i64 ((k+1:Nat):Int)]) w
 | 0,_,_=>by kernel_rfl
 | 1,_,_=>by kernel_rfl
 | 2,_,_=>by kernel_rfl
 | k+3,h,_=>absurd h (by omega)
def nameR (o:Option ByteArray) (i:Nat) (e:Int):Rs Tr:=if e=0 then (match o with | some s=>.inl (nd 4 s .nil,i+1) | none=>.inr (i,6)) else .inr (i,e)
theorem oY {w w3:World} {b:Nat} {v:Value} {i:Nat} {e:Int} (k:Int) (s:ByteArray) (hb:b<w.heap.size) (g:Gs (On b) w w3) (h:Psr w3 b v i e) (r:w3.heap[w.heap.size+1]? = some (.cells #[.pointer none] 24 (0,0)))
  (WF:World) (hWF:(w3.setCell ⟨w.heap.size+1,0,none⟩ (.pointer (some ⟨w3.heap.size,0,none⟩))).alloc (.cells #[.int .i64 k,.int .i64 0,.string s,.string ⟨#[]⟩,.slice none 0 0] 44)=WF) :
  WF.cell? ⟨w.heap.size+1,0,none⟩=some (.pointer (some ⟨w3.heap.size,0,none⟩))/\Gs (On b) w WF/\Psr WF b v i e/\NewT w WF (.pointer (some ⟨w3.heap.size,0,none⟩)) (nd k s .nil):=by
 obtain⟨Ws,hWs⟩:∃Ws,w3.setCell ⟨w.heap.size+1,0,none⟩ (.pointer (some ⟨w3.heap.size,0,none⟩))=Ws:=⟨_,rfl⟩;have zs:Ws.heap.size=w3.heap.size:=by rw[<- hWs];simp[World.setCell]
 have bs:Boxed Ws (w.heap.size+1) 24 (.pointer (some ⟨w3.heap.size,0,none⟩)):=by rw[<- hWs];exact Boxed.set _ r
 have gs:Gs (On b) w Ws:=by rw[<- hWs];exact g.set _ _ (.inr (by simp))
 have hs:Psr Ws b v i e:=by rw[<- hWs];exact(Below.heap_setCell _ _ _ _ (by simp only;omega)).trans h
 rw[hWs] at hWF;have uf:Up Ws WF:=by rw[<- hWF];exact(Up.refl Ws).alloc _
 have nf:WF.heap[w3.heap.size]? = some (.cells #[.int .i64 k,.int .i64 0,.string s,.string ⟨#[]⟩,.slice none 0 0] 44 (0,0)):=by rw[<- hWF,<- zs];exact heap_alloc_new Ws _
 have hg:=g.size;exact⟨uf.cell bs.cell,gs.trans (Gs.of uf),hs.up uf,kR (x:=⟨k,0,s,nob⟩) nf ⟨hg,qC nf⟩⟩
section
variable {nk lg:ByteArray->Bool}
theorem mZ {V0:World} {l:List Tk} (b:Nat) (v:Value) (i:Nat) (e:Int) (w:World) (T:Toks nk lg V0 v l) (h:Psr w b v i e) (hu:Up V0 w) (hbW:V0.heap.size<=b) (hP:Pl w) (hi:i<=1000000) (hn:∀k,k<3->tkB l i e (plS k)=false) (h1:tkB l i e kOpen=false) (h2:tkB l i e kMu=false) :
  Calls Tryz.prog 181 #[.agg #[.pointer (some ⟨b,0,none⟩)]] w (PaT (On b) b v (nameR (nam lg l i) i e) (fun _ _=>True) w):=by
 have HO:=Lib.hid h1;have HM:=Lib.hid h2;clear h1 h2;obtain⟨tp,zp,hpl⟩:=hP;have hb:b<w.heap.size:=qC h;have hpw:4<w.heap.size:=qC hpl;have H:=Lib.hid h;have HPL:=Lib.hid hpl;have HU:=Lib.hid hu;have HT:=Lib.hid T;have HN:=Lib.hid hn;have hpl2:((w.alloc (.cells #[.pointer (some ⟨b,0,none⟩)] 129)).alloc (.cells #[.pointer none] 24)).heap[4]? = some (.cells plV tp zp):=(((Up.refl w).alloc _).alloc _).row hpl;clear h hpl hu T hn
 go_enter Tryz.func181,Tryz.ntmps181
 go_wp2_with (refine wpList_load_row rfl 201 (.global 4) rfl 4 rfl tp plV zp _ hpl2 Tryz.underlying201 rfl (by kernel_rfl) ?_)
 generalize hA:plV=AR
 have HAR:=Lib.hid hA;obtain⟨W0,hW0⟩:∃W0,(w.alloc (.cells #[.pointer (some ⟨b,0,none⟩)] 129)).alloc (.cells #[.pointer none] 24)=W0:=⟨_,rfl⟩;have z0:W0.heap.size=w.heap.size+2:=by rw[<- hW0];simp
 have b1:W0.heap[w.heap.size]? = some (.cells #[.pointer (some ⟨b,0,none⟩)] 129 (0,0)):=by rw[<- hW0];exact yF _ (heap_alloc_new w _)
 have b2:W0.heap[w.heap.size+1]? = some (.cells #[.pointer none] 24 (0,0)):=by rw[<- hW0];exact yU _ _ (by simp)
 have u0:Up w W0:=by rw[<- hW0];exact((Up.refl w).alloc _).alloc _
 have B1:=Lib.hid b1;have B2:=Lib.hid b2;have UZ:=Lib.hid u0;rw[hW0];clear hA hpl2 hW0 b1 b2 u0
 go_loopw [6] (fun x wr=>∃k:Nat,k<=3/\x = .int .i64 (k:Int)/\Gs (On b) W0 wr/\Psr wr b v i e) (fun x _=>4-(intOf x).toNat)
 case atStart=>exact⟨0,Nat.zero_le _,rfl,Gs.refl _ _,H.out.up UZ.out⟩
 case round=>
  obtain⟨k,hk,rfl,hg,ps⟩:=hrel;have hgs:=hg.size;have hur:Up V0 wr:=hg.up (HU.out.trans UZ.out) (fun q hq=>by rw[hq];exact hbW);have r1:wr.heap[w.heap.size]? = some (.cells #[.pointer (some ⟨b,0,none⟩)] 129 (0,0)):=hg.row B1.out (by unfold On;omega);have r2:wr.heap[w.heap.size+1]? = some (.cells #[.pointer none] 24 (0,0)):=hg.row B2.out (by unfold On;omega);have c1:wr.cell? ⟨w.heap.size,0,none⟩=some (.pointer (some ⟨b,0,none⟩)):=cell_of_row wr w.heap.size 0 _ _ _ r1;have hbw:w.heap.size<wr.heap.size:=by omega
  by_cases hlt:k<3
  ·have hix:∀W,(Instr.index 201 (.agg AR) (.int .i64 (k:Int))).run Tryz.prog W = .ok (.agg #[.string (plS k),.int .i64 ((k+1:Nat):Int)]) W:=fun W=>by rw[<- HAR.out];exact tX k (by omega) W
   have hw:IntKind.i64.wrap ((k:Int)+1)=((k+1:Nat):Int):=by rw[IntKind.wrap_i64];omega
   have hkz:(k:Int)<3:=by omega
   obtain⟨X,hX⟩:∃X,plS k=X:=⟨_,rfl⟩;obtain⟨ka,hka⟩:∃ka,((k+1:Nat):Int)=ka:=⟨_,rfl⟩;rw[hX,hka] at hix;have HX:=Lib.hid hX;have HKA:=Lib.hid hka;rw[hka] at hw;obtain⟨Wr,hWr⟩:∃Wr,wr.alloc (.cells #[.string X,.int .i64 ka] 200)=Wr:=⟨_,rfl⟩;have ur:Up wr Wr:=by rw[<- hWr];exact(Up.refl wr).alloc _
   have cT:Calls Tryz.prog 38 #[.pointer (some ⟨b,0,none⟩),.string X] Wr (TaP b v i e (tkB l i e X) Wr):=qP b v i e X Wr HT.out (ps.up ur) (hur.trans ur) hi;rw[<- hX] at cT;rw[HN.out k (by omega),hX] at cT;have HG:=Lib.hid hg;have WRD:=Lib.hid hWr;have UR:=Lib.hid ur;clear hX hka hWr ur hg ps hur r1 r2;go_wp2_with fail;rw[WRD.out];refine cT.mono ?_;rintro en w2 ⟨rfl,g2,h2⟩;go_wp2_with fail
   go_roundw
   case rel=>exact⟨k+1,by omega,jR (by have:=HKA.out;omega),(HG.out.trans (Gs.of UR.out)).trans g2,h2⟩
   case measure=>simp[intOf];have:=HKA.out;omega
  ·obtain rfl:k=3:=by omega
   have hSee:Calls Tryz.prog 63 #[.pointer (some ⟨b,0,none⟩),.string kOpen] wr (BoU false wr):=by have h:=yW b v i e kOpen wr HT.out ps hur;rw[HO.out] at h;exact h
   have HG:=Lib.hid hg;have HPS:=Lib.hid ps;have HR1:=Lib.hid r1;have HR2:=Lib.hid r2;have HUR:=Lib.hid hur;clear hg ps r1 r2 hur;go_wp2_with fail;refine hSee.mono ?_;rintro en w1 ⟨rfl,u1⟩;have hps1:=HPS.out.up u1;have hTak:Calls Tryz.prog 38 #[.pointer (some ⟨b,0,none⟩),.string kMu] w1 (TaP b v i e false w1):=by have h:=qP b v i e kMu w1 HT.out hps1 (HUR.out.trans u1) hi;rw[HM.out] at h;exact h
   have c1b:=(show Up wr w1 from u1).cell c1;have U1:=Lib.hid u1;clear u1 hps1 hSee;go_wp2_with fail;refine hTak.mono ?_;rintro en w2 ⟨rfl,g2,h2⟩;have c1c:w2.cell? ⟨w.heap.size,0,none⟩=some (.pointer (some ⟨b,0,none⟩)):=g2.cell c1b (by unfold On;simp only;omega);have u02:Up V0 w2:=g2.up (HUR.out.trans U1.out) (fun q hq=>by rw[hq];exact hbW);have cNm:=zW2 b v i e (nam lg l i) w2 (fun w' u=>HT.out.long i w' (u02.trans u)) h2 hi;have G2:=Lib.hid g2;clear g2 h2 u02 hTak c1b c1;go_wp2_with fail;refine cNm.mono ?_;rintro en w3 ⟨rfl,g3,h3⟩;have hgA:Gs (On b) w w3:=((((Gs.of UZ.out).trans HG.out).trans (Gs.of U1.out)).trans G2.out).trans g3;have r2b:w3.heap[w.heap.size+1]? = some (.cells #[.pointer none] 24 (0,0)):=((Gs.of U1.out:Gs (On b) wr w1).trans (G2.out.trans g3)).row HR2.out (by unfold On;omega);have c2:w3.cell? ⟨w.heap.size+1,0,none⟩=some (.pointer none):=cell_of_row w3 _ 0 _ _ _ r2b;have f2:=frozen_of_row w3 (w.heap.size+1) 0 _ _ r2b;have hb3:=qC r2b;have HGA:=Lib.hid hgA;have H3:=Lib.hid h3;have R2B:=Lib.hid r2b;clear hgA r2b g3 h3;go_wp2_with fail;obtain⟨WF,hWF⟩:∃WF,(w3.setCell ⟨w.heap.size+1,0,none⟩ (.pointer (some ⟨w3.heap.size,0,none⟩))).alloc (.cells #[.int .i64 4,.int .i64 0,.string (nmS (nam lg l i) e),.string ⟨#[]⟩,.slice none 0 0] 44)=WF:=⟨_,rfl⟩;obtain⟨r0,gF,pF,nF⟩:=oY 4 _ hb HGA.out H3.out R2B.out WF hWF;rw[hWF]
   refine bodyPost_ret (v:=.pointer (some ⟨w3.heap.size,0,none⟩)) (by simp[results,Tryz.results181,go_sem,r0]) rfl ⟨_,rfl,gF,?_⟩;unfold nameR
   by_cases he:e=0
   ·subst he
    rw[if_pos rfl]
    cases ho:nam lg l i with
    | none=>rw[ho] at pF;exact pF
    | some s=>rw[ho] at pF nF;exact⟨nF,pF,trivial⟩
   ·rw[if_neg he]
    unfold nmI nmE at pF;rw[if_neg he,if_neg he] at pF;exact pF
theorem fI {V0:World} {l:List Tk} (b:Nat) (v:Value) (i:Nat) (k0:Nat) (hk0:k0<3) (w:World) (T:Toks nk lg V0 v l) (h:Psr w b v i 0) (hu:Up V0 w) (hbW:V0.heap.size<=b) (hP:Pl w) (hi:i<=1000000) (hn:∀k,k<k0->tkB l i 0 (plS k)=false) (hy:tkB l i 0 (plS k0)=true) :
  Calls Tryz.prog 181 #[.agg #[.pointer (some ⟨b,0,none⟩)]] w (PaT (On b) b v (.inl (nd ((k0+1:Nat):Int) nob .nil,i+1)) (fun _ _=>True) w):=by
 have HY:=Lib.hid hy;clear hy;obtain⟨tp,zp,hpl⟩:=hP;have hb:b<w.heap.size:=qC h;have hpw:4<w.heap.size:=qC hpl;have H:=Lib.hid h;have HPL:=Lib.hid hpl;have HU:=Lib.hid hu;have HT:=Lib.hid T;have HN:=Lib.hid hn;have hpl2:((w.alloc (.cells #[.pointer (some ⟨b,0,none⟩)] 129)).alloc (.cells #[.pointer none] 24)).heap[4]? = some (.cells plV tp zp):=(((Up.refl w).alloc _).alloc _).row hpl;clear h hpl hu T hn
 go_enter Tryz.func181,Tryz.ntmps181
 go_wp2_with (refine wpList_load_row rfl 201 (.global 4) rfl 4 rfl tp plV zp _ hpl2 Tryz.underlying201 rfl (by kernel_rfl) ?_)
 generalize hA:plV=AR
 have HAR:=Lib.hid hA;obtain⟨W0,hW0⟩:∃W0,(w.alloc (.cells #[.pointer (some ⟨b,0,none⟩)] 129)).alloc (.cells #[.pointer none] 24)=W0:=⟨_,rfl⟩;have z0:W0.heap.size=w.heap.size+2:=by rw[<- hW0];simp
 have b1:W0.heap[w.heap.size]? = some (.cells #[.pointer (some ⟨b,0,none⟩)] 129 (0,0)):=by rw[<- hW0];exact yF _ (heap_alloc_new w _)
 have b2:W0.heap[w.heap.size+1]? = some (.cells #[.pointer none] 24 (0,0)):=by rw[<- hW0];exact yU _ _ (by simp)
 have u0:Up w W0:=by rw[<- hW0];exact((Up.refl w).alloc _).alloc _
 have B1:=Lib.hid b1;have B2:=Lib.hid b2;have UZ:=Lib.hid u0;rw[hW0];clear hA hpl2 hW0 b1 b2 u0
 go_loopw [6] (fun x wr=>∃k:Nat,k<=k0/\x = .int .i64 (k:Int)/\Gs (On b) W0 wr/\Psr wr b v i 0) (fun x _=>4-(intOf x).toNat)
 case atStart=>exact⟨0,Nat.zero_le _,rfl,Gs.refl _ _,H.out.up UZ.out⟩
 case round=>
  obtain⟨k,hk,rfl,hg,ps⟩:=hrel;have hgs:=hg.size;have hur:Up V0 wr:=hg.up (HU.out.trans UZ.out) (fun q hq=>by rw[hq];exact hbW);have r1:wr.heap[w.heap.size]? = some (.cells #[.pointer (some ⟨b,0,none⟩)] 129 (0,0)):=hg.row B1.out (by unfold On;omega);have r2:wr.heap[w.heap.size+1]? = some (.cells #[.pointer none] 24 (0,0)):=hg.row B2.out (by unfold On;omega);have c1:wr.cell? ⟨w.heap.size,0,none⟩=some (.pointer (some ⟨b,0,none⟩)):=cell_of_row wr w.heap.size 0 _ _ _ r1;have hbw:w.heap.size<wr.heap.size:=by omega
  by_cases hlt:k<k0
  ·have hix:∀W,(Instr.index 201 (.agg AR) (.int .i64 (k:Int))).run Tryz.prog W = .ok (.agg #[.string (plS k),.int .i64 ((k+1:Nat):Int)]) W:=fun W=>by rw[<- HAR.out];exact tX k (by omega) W
   have hw:IntKind.i64.wrap ((k:Int)+1)=((k+1:Nat):Int):=by rw[IntKind.wrap_i64];omega
   have hkz:(k:Int)<3:=by omega
   obtain⟨X,hX⟩:∃X,plS k=X:=⟨_,rfl⟩;obtain⟨ka,hka⟩:∃ka,((k+1:Nat):Int)=ka:=⟨_,rfl⟩;rw[hX,hka] at hix;have HX:=Lib.hid hX;have HKA:=Lib.hid hka;rw[hka] at hw;obtain⟨Wr,hWr⟩:∃Wr,wr.alloc (.cells #[.string X,.int .i64 ka] 200)=Wr:=⟨_,rfl⟩;have ur:Up wr Wr:=by rw[<- hWr];exact(Up.refl wr).alloc _
   have cT:Calls Tryz.prog 38 #[.pointer (some ⟨b,0,none⟩),.string X] Wr (TaP b v i 0 (tkB l i 0 X) Wr):=qP b v i 0 X Wr HT.out (ps.up ur) (hur.trans ur) hi;rw[<- hX] at cT;rw[HN.out k (by omega),hX] at cT;have HG:=Lib.hid hg;have WRD:=Lib.hid hWr;have UR:=Lib.hid ur;clear hX hka hWr ur hg ps hur r1 r2;go_wp2_with fail;rw[WRD.out];refine cT.mono ?_;rintro en w2 ⟨rfl,g2,h2⟩;go_wp2_with fail
   go_roundw
   case rel=>exact⟨k+1,by omega,jR (by have:=HKA.out;omega),(HG.out.trans (Gs.of UR.out)).trans g2,h2⟩
   case measure=>simp[intOf];have:=HKA.out;omega
  ·obtain rfl:k=k0:=by omega
   have hix:∀W,(Instr.index 201 (.agg AR) (.int .i64 (k:Int))).run Tryz.prog W = .ok (.agg #[.string (plS k),.int .i64 ((k+1:Nat):Int)]) W:=fun W=>by rw[<- HAR.out];exact tX k (by omega) W
   have hw:IntKind.i64.wrap ((k:Int)+1)=((k+1:Nat):Int):=by rw[IntKind.wrap_i64];omega
   have hkz:(k:Int)<3:=by omega
   obtain⟨X,hX⟩:∃X,plS k=X:=⟨_,rfl⟩;obtain⟨ka,hka⟩:∃ka,((k+1:Nat):Int)=ka:=⟨_,rfl⟩;rw[hX,hka] at hix;have HX:=Lib.hid hX;have HKA:=Lib.hid hka;rw[hka] at hw;obtain⟨Wr,hWr⟩:∃Wr,wr.alloc (.cells #[.string X,.int .i64 ka] 200)=Wr:=⟨_,rfl⟩;have ur:Up wr Wr:=by rw[<- hWr];exact(Up.refl wr).alloc _
   have cT:Calls Tryz.prog 38 #[.pointer (some ⟨b,0,none⟩),.string X] Wr (TaP b v i 0 (tkB l i 0 X) Wr):=qP b v i 0 X Wr HT.out (ps.up ur) (hur.trans ur) hi;rw[<- hX] at cT;rw[HY.out,hX] at cT;have HG:=Lib.hid hg;have HR2:=Lib.hid r2;have WRD:=Lib.hid hWr;have UR:=Lib.hid ur;clear hX hka hWr ur hg ps hur r1 r2;go_wp2_with fail;rw[WRD.out];refine cT.mono ?_;rintro en w2 ⟨rfl,g2,h2⟩;have hz:=g2.size;have hWz:Wr.heap.size=wr.heap.size+1:=by rw[<- WRD.out];simp
   have hx2:w2.heap[wr.heap.size]? = some (.cells #[.string X,.int .i64 ka] 200 (0,0)):=g2.row (by rw[<- WRD.out];exact heap_alloc_new wr _) (by unfold On;omega);have ck:w2.cell? ⟨wr.heap.size,1,none⟩=some (.int .i64 ka):=cell_of_row w2 _ 1 _ _ _ hx2;have r2b:w2.heap[w.heap.size+1]? = some (.cells #[.pointer none] 24 (0,0)):=g2.row (UR.out.row HR2.out) (by unfold On;omega);have c2:w2.cell? ⟨w.heap.size+1,0,none⟩=some (.pointer none):=cell_of_row w2 _ 0 _ _ _ r2b;have f2:=frozen_of_row w2 (w.heap.size+1) 0 _ _ r2b;have hb3:=qC r2b;have hgA:Gs (On b) w w2:=(((Gs.of UZ.out).trans HG.out).trans (Gs.of UR.out)).trans g2;have HGA:=Lib.hid hgA;have H3:=Lib.hid h2;have R2B:=Lib.hid r2b;clear hgA r2b g2 h2 hx2 c1;go_wp2_with fail;obtain⟨WF,hWF⟩:∃WF,(w2.setCell ⟨w.heap.size+1,0,none⟩ (.pointer (some ⟨w2.heap.size,0,none⟩))).alloc (.cells #[.int .i64 ka,.int .i64 0,.string ⟨#[]⟩,.string ⟨#[]⟩,.slice none 0 0] 44)=WF:=⟨_,rfl⟩;obtain⟨r0,gF,pF,nF⟩:=oY ka ⟨#[]⟩ hb HGA.out H3.out R2B.out WF hWF;rw[hWF];refine bodyPost_ret (v:=.pointer (some ⟨w2.heap.size,0,none⟩)) (by simp[results,Tryz.results181,go_sem,r0]) rfl ⟨_,rfl,gF,?_⟩;rw[HKA.out];exact⟨nF,pF,trivial⟩
end
end Go.Proofs.YtgeghilbikljcaaGreatDoor
