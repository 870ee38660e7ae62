/-
  Layer 6, the program's atom: a type in signs, mu.
-/
import Derived.Test.YtgeghilbikljcaaGreatDoorGj10
import Derived.Deep.Onto
import Derived.KernelRfl
import Derived.Laws.AppendOwnNone
import Derived.Laws.CopyOwn
import Derived.Laws.OwnMore
import Derived.Lib.AppendZeros
import Derived.Maps.OwnSet
set_option maxHeartbeats 40000000
set_option maxRecDepth 100000
namespace Go.Proofs.YtgeghilbikljcaaGreatDoor
open Go.RowKit
def rI {α:Type}:Rs α->Nat
 | .inl (_,j)=>j
 | .inr (p,_)=>p
def rE {α:Type}:Rs α->Int
 | .inl _=>0
 | .inr (_,r)=>r
def Two (a b:Nat) (q:Nat):Prop:=q=a\/q=b
theorem Gs.two {b c:Nat} {w w':World} (h:Gs (On b) w w'):Gs (Two b c) w w':=h.wide fun _ _ hq=>.inl hq
theorem Gs.out2 {b c:Nat} {a w w':World} (h:Gs (On b) a w) (g:Gs (Two b c) w w') (hc:a.heap.size<=c):Gs (On b) a w':=
 ⟨g.os.trans h.os,g.tape.trans h.tape,g.output.trans h.output,Nat.le_trans h.size g.size,fun k hk hn=>(g.block k (Nat.lt_of_lt_of_le hk h.size) (by intro hq;rcases hq with hq | hq;exact hn hq;omega)).trans (h.block k hk hn)⟩
def P1 (wb:World) (B2:Nat) (R:Rs Tr) (w:World):Prop:=∃A,Boxed w B2 24 (.pointer A)/\∀t j,R = .inl (t,j)->InT w (fun q=>NewS wb w q/\q≠B2) (.pointer A) t
theorem zSo (wb:World) (b:Nat) (v:Value) (B1 B2:Nat) (A0:Option Addr) (R:Rs Tr) (w:World) (hz:wb.heap.size<=w.heap.size) (hbw:b≠B2) (hB2:B2<w.heap.size) (c1:w.cell? ⟨B1,0,none⟩=some (.pointer (some ⟨b,0,none⟩))) (b2:Boxed w B2 24 (.pointer A0))
  (cA:Calls Tryz.prog 124 #[.agg #[.pointer (some ⟨b,0,none⟩)]] w (PaT (On b) b v R (fun _ _=>True) w)) :
  Calls Tryz.prog 210 #[.pointer (some ⟨B1,0,none⟩),.pointer (some ⟨B2,0,none⟩)] w (InL (Two b B2) b v (rI R) (rE R) (P1 wb B2 R) w):=by
 have HB:=Lib.hid b2;clear b2
 go_enter Tryz.func210,Tryz.ntmps210
 go_wp2_with fail;refine cA.mono ?_;rintro en w1 ⟨A,rfl,g1,hR⟩;have b3:Boxed w1 B2 24 (.pointer A0):=g1.row HB.out (by unfold On;omega);have c3:=b3.cell;have f3:=b3.frozen;have hb3:=b3.lt;have B3:=Lib.hid b3;have G1:=Lib.hid g1;have HR:=Lib.hid hR;have hz1:=g1.size;clear b3 g1 hR cA;go_wp2_with fail;go_end0;have hne:∀q,q≠B2->(w1.setCell ⟨B2,0,none⟩ (.pointer A)).heap[q]? = w1.heap[q]?:=fun q hq=>Below.heap_setCell _ _ _ _ hq
 refine⟨⟨_,rfl⟩,(G1.out.two).set _ _ (.inl (.inr rfl)),?_,A,B3.out.set _,fun t j hR=>?_⟩
 ·have h:=HR.out
  cases R with
  | inl e=>exact(hne b hbw).trans h.2.1
  | inr e=>exact(hne b hbw).trans h
 ·have h:=HR.out
  rw[hR] at h;have hs:(w1.setCell ⟨B2,0,none⟩ (.pointer A)).heap.size=w1.heap.size:=by simp[World.setCell]
  exact InT.keep h.1 (fun q hq=>⟨⟨by have:=hq.1;omega,by rw[hs];exact hq.2⟩,by have:=hq.1;omega⟩) fun q hq=>hne q (by have:=hq.1;omega)
section
variable {nk lg:ByteArray->Bool}
def parR (l:List Tk) (R:Rs Tr):Rs Tr:=match R with
 | .inr e=>.inr e
 | .inl (t,j)=>if key l j kShut then .inl (t,j+1) else .inr (j,6)
theorem zE {l:List Tk} {i:Nat} {e:Int} {x:ByteArray} (h:¬e=0):tkB l i e x=false:=by unfold tkB;rw[decide_eq_false h,Bool.false_and]
theorem qQ {l:List Tk} {i:Nat} {x:ByteArray}:tkB l i 0 x=key l i x:=by unfold tkB;rw[decide_eq_true rfl,Bool.true_and]
theorem tY {e:Int} (h:¬e=0):neE e false=e:=if_neg h
theorem zYa {V0:World} {l:List Tk} (b:Nat) (v:Value) (i:Nat) (R:Rs Tr) (hR:LeOk l.length R) (hl:l.length<=100000) (w:World) (T:Toks nk lg V0 v l) (h:Psr w b v i 0) (hu:Up V0 w) (hbW:V0.heap.size<=b) (hP:Pl w) (hi:i<=1000000) (hn:∀k,k<3->tkB l i 0 (plS k)=false) (hy:tkB l i 0 kOpen=true)
  (cA:∀w',Gs (On b) w w'->Psr w' b v (i+1) 0->Calls Tryz.prog 124 #[.agg #[.pointer (some ⟨b,0,none⟩)]] w' (PaT (On b) b v R (fun _ _=>True) w')) :
  Calls Tryz.prog 181 #[.agg #[.pointer (some ⟨b,0,none⟩)]] w (PaT (On b) b v (parR l R) (fun _ _=>True) w):=by
 have HY:=Lib.hid hy;have HCA:=Lib.hid cA;have HLE:=Lib.hid hR;clear hy cA hR;obtain⟨tp,zp,hpl⟩:=hP;have hb:b<w.heap.size:=qC h;have hpw:4<w.heap.size:=qC hpl;have H:=Lib.hid h;have HPL:=Lib.hid hpl;have HU:=Lib.hid hu;have HT:=Lib.hid T;have HN:=Lib.hid hn;have hpl2:((w.alloc (.cells #[.pointer (some ⟨b,0,none⟩)] 129)).alloc (.cells #[.pointer none] 24)).heap[4]? = some (.cells plV tp zp):=(((Up.refl w).alloc _).alloc _).row hpl;clear h hpl hu T hn
 go_enter Tryz.func181,Tryz.ntmps181
 go_wp2_with (refine wpList_load_row rfl 201 (.global 4) rfl 4 rfl tp plV zp _ hpl2 Tryz.underlying201 rfl (by kernel_rfl) ?_)
 generalize hA:plV=AR
 have HAR:=Lib.hid hA;obtain⟨W0,hW0⟩:∃W0,(w.alloc (.cells #[.pointer (some ⟨b,0,none⟩)] 129)).alloc (.cells #[.pointer none] 24)=W0:=⟨_,rfl⟩;have z0:W0.heap.size=w.heap.size+2:=by rw[<- hW0];simp
 have b1:W0.heap[w.heap.size]? = some (.cells #[.pointer (some ⟨b,0,none⟩)] 129 (0,0)):=by rw[<- hW0];exact yF _ (heap_alloc_new w _)
 have b2:W0.heap[w.heap.size+1]? = some (.cells #[.pointer none] 24 (0,0)):=by rw[<- hW0];exact yU _ _ (by simp)
 have u0:Up w W0:=by rw[<- hW0];exact((Up.refl w).alloc _).alloc _
 have B1:=Lib.hid b1;have B2:=Lib.hid b2;have UZ:=Lib.hid u0;rw[hW0];clear hA hpl2 hW0 b1 b2 u0
 go_loopw [6] (fun x wr=>∃k:Nat,k<=3/\x = .int .i64 (k:Int)/\Gs (On b) W0 wr/\Psr wr b v i 0) (fun x _=>4-(intOf x).toNat)
 case atStart=>exact⟨0,Nat.zero_le _,rfl,Gs.refl _ _,H.out.up UZ.out⟩
 case round=>
  obtain⟨k,hk,rfl,hg,ps⟩:=hrel;have hgs:=hg.size;have hur:Up V0 wr:=hg.up (HU.out.trans UZ.out) (fun q hq=>by rw[hq];exact hbW);have r1:wr.heap[w.heap.size]? = some (.cells #[.pointer (some ⟨b,0,none⟩)] 129 (0,0)):=hg.row B1.out (by unfold On;omega);have r2:wr.heap[w.heap.size+1]? = some (.cells #[.pointer none] 24 (0,0)):=hg.row B2.out (by unfold On;omega);have c1:wr.cell? ⟨w.heap.size,0,none⟩=some (.pointer (some ⟨b,0,none⟩)):=cell_of_row wr w.heap.size 0 _ _ _ r1;have hbw:w.heap.size<wr.heap.size:=by omega
  by_cases hlt:k<3
  ·have hix:∀W,(Instr.index 201 (.agg AR) (.int .i64 (k:Int))).run Tryz.prog W = .ok (.agg #[.string (plS k),.int .i64 ((k+1:Nat):Int)]) W:=fun W=>by rw[<- HAR.out];exact tX k (by omega) W
   have hw:IntKind.i64.wrap ((k:Int)+1)=((k+1:Nat):Int):=by rw[IntKind.wrap_i64];omega
   have hkz:(k:Int)<3:=by omega
   obtain⟨X,hX⟩:∃X,plS k=X:=⟨_,rfl⟩;obtain⟨ka,hka⟩:∃ka,((k+1:Nat):Int)=ka:=⟨_,rfl⟩;rw[hX,hka] at hix;have HX:=Lib.hid hX;have HKA:=Lib.hid hka;rw[hka] at hw;obtain⟨Wr,hWr⟩:∃Wr,wr.alloc (.cells #[.string X,.int .i64 ka] 200)=Wr:=⟨_,rfl⟩;have ur:Up wr Wr:=by rw[<- hWr];exact(Up.refl wr).alloc _
   have cT:Calls Tryz.prog 38 #[.pointer (some ⟨b,0,none⟩),.string X] Wr (TaP b v i 0 (tkB l i 0 X) Wr):=qP b v i 0 X Wr HT.out (ps.up ur) (hur.trans ur) hi;rw[<- hX] at cT;rw[HN.out k (by omega),hX] at cT;have HG:=Lib.hid hg;have WRD:=Lib.hid hWr;have UR:=Lib.hid ur;clear hX hka hWr ur hg ps hur r1 r2;go_wp2_with fail;rw[WRD.out];refine cT.mono ?_;rintro en w2 ⟨rfl,g2,h2⟩;go_wp2_with fail
   go_roundw
   case rel=>exact⟨k+1,by omega,jR (by have:=HKA.out;omega),(HG.out.trans (Gs.of UR.out)).trans g2,h2⟩
   case measure=>simp[intOf];have:=HKA.out;omega
  ·obtain rfl:k=3:=by omega
   have hSee:Calls Tryz.prog 63 #[.pointer (some ⟨b,0,none⟩),.string kOpen] wr (BoU true wr):=by have h:=yW b v i 0 kOpen wr HT.out ps hur;rw[HY.out] at h;exact h
   have HG:=Lib.hid hg;have HPS:=Lib.hid ps;have HR1:=Lib.hid r1;have HR2:=Lib.hid r2;have HUR:=Lib.hid hur;clear hg ps r1 r2 hur;go_wp2_with fail;refine hSee.mono ?_;rintro en w1 ⟨rfl,u1⟩;have c1b:=(show Up wr w1 from u1).cell c1;have hz1:wr.heap.size<=w1.heap.size:=(show Up wr w1 from u1).size;have hgA:Gs (On b) w w1:=((Gs.of UZ.out).trans HG.out).trans (Gs.of u1);have HB2:Hid (Boxed w1 (w.heap.size+1) 24 (.pointer none)):=Lib.hid (Up.row u1 HR2.out);have HB1:Hid (w1.heap[w.heap.size]? = some (.cells #[.pointer (some ⟨b,0,none⟩)] 129 (0,0))):=Lib.hid (Up.row u1 HR1.out);have cB:=zJ b v i 0 kOpen kShut 210 #[.pointer (some ⟨w.heap.size,0,none⟩),.pointer (some ⟨w.heap.size+1,0,none⟩)] (fun _ _=>by kernel_rfl) (Two b (w.heap.size+1)) (fun q hq=>by have:=HU.out.size;rcases hq with hq | hq<;>omega) hbW (rI R) (rE R) (P1 w (w.heap.size+1) R) w1
    HT.out (HPS.out.up u1) (HUR.out.trans u1) hi (by have h:=HLE.out.1;cases R<;>(simp only[rI];simp only[pl] at h;omega)) (fun w2 g2 h2=>by
     rw[HY.out] at h2;exact zSo w b v w.heap.size (w.heap.size+1) none R w2 (by have:=g2.size;omega) (by omega) (by have:=g2.size;omega) (cell_of_row w2 _ 0 _ _ _ (g2.row HB1.out (by unfold On;omega))) (g2.row HB2.out (by unfold On;omega)) (HCA.out w2 (hgA.trans g2) h2))
   have HGA:=Lib.hid hgA;clear hgA u1 hSee c1;go_wp2_with fail;refine cB.mono ?_;rintro en w4 ⟨⟨u,rfl⟩,w2,w3,g2,g3,⟨A,b3,hT⟩,g4,h4⟩;have b4:Boxed w4 (w.heap.size+1) 24 (.pointer A):=g4.row b3 (by unfold On;omega);have c4:=b4.cell;have f4:=b4.frozen;have hb4:=b4.lt;have hgF:Gs (On b) w w4:=((HGA.out.trans g2).out2 g3 (by omega)).trans g4;have HGF:=Lib.hid hgF;have HTT:Hid (∀t j,R = .inl (t,j)->InT w4 (fun q=>NewS w w4 q/\q≠w.heap.size+1) (.pointer A) t):=Lib.hid fun t j hR=>InT.keep (hT t j hR) (fun q hq=>⟨⟨hq.1.1,Nat.lt_of_lt_of_le hq.1.2 g4.size⟩,hq.2⟩) fun q hq=>g4.block q hq.1.2 (by have:=hq.1.1;unfold On;omega)
   have H4:=Lib.hid h4;have B4:=Lib.hid b4;clear cB b4 hgF h4 g2 g3 g4 b3 hT;go_wp2_with fail;obtain⟨WF,hWF⟩:∃WF,w4.setCell ⟨w.heap.size+1,0,none⟩ (.pointer A)=WF:=⟨_,rfl⟩;have bF:Boxed WF (w.heap.size+1) 24 (.pointer A):=by rw[<- hWF];exact B4.out.set _
   have r0:=bF.cell;have hs:WF.heap.size=w4.heap.size:=by rw[<- hWF];simp[World.setCell]
   have hne:∀q,q≠w.heap.size+1->WF.heap[q]? = w4.heap[q]?:=fun q hq=>by rw[<- hWF];exact Below.heap_setCell _ _ _ _ hq
   have gF:Gs (On b) w WF:=by rw[<- hWF];exact HGF.out.set _ _ (.inr (by simp))
   have pF:Psr WF b v (neI (rI R) (tkB l (rI R) (rE R) kShut)) (neE (rE R) (tkB l (rI R) (rE R) kShut)):=(hne b (by omega)).trans H4.out;have hle:=HLE.out;rw[hWF];refine bodyPost_ret (v:=.pointer A) (by simp[results,Tryz.results181,go_sem,r0]) rfl ⟨_,rfl,gF,?_⟩
   cases R with
   | inr e=>
    obtain⟨p,r⟩:=e;have hr:¬r=0:=hle.2 p r rfl;simp only[rI,rE] at pF;rw[zE hr,tY hr] at pF;exact pF
   | inl e=>
    obtain⟨t,j⟩:=e;simp only[rI,rE] at pF;rw[qQ] at pF;unfold parR;simp only
    cases hk:key l j kShut with
    | false=>rw[hk] at pF;exact pF
    | true=>
     rw[hk] at pF;exact⟨InT.keep (HTT.out t j rfl) (fun q hq=>⟨hq.1.1,by rw[hs];exact hq.1.2⟩) (fun q hq=>hne q hq.2),pF,trivial⟩
end
def P2 (wb:World) (B2 Bm:Nat) (s:ByteArray) (RC:Rs Fr) (w:World):Prop:=Boxed w B2 24 (.pointer (some ⟨Bm,0,none⟩))/\∀f j,RC = .inl (f,j)->InT w (fun q=>NewS wb w q/\q≠B2) (.pointer (some ⟨Bm,0,none⟩)) (nd 7 s f)
theorem zSp (wb:World) (b:Nat) (v:Value) (B1 B2 Bm:Nat) (s:ByteArray) (RC:Rs Fr) (w:World) (h1:b≠B2) (h2:b≠Bm) (h3:B2≠Bm) (h4:B1≠b) (h5:wb.heap.size<=Bm) (h6:B1≠Bm)
  (c1:w.cell? ⟨B1,0,none⟩=some (.pointer (some ⟨b,0,none⟩))) (b2:Boxed w B2 24 (.pointer (some ⟨Bm,0,none⟩))) (nb:Nb w Bm ⟨7,0,s,nob⟩ (.slice none 0 0))
  (cC:∀w',Up w w'->Calls Tryz.prog 164 #[.agg #[.pointer (some ⟨b,0,none⟩)]] w' (RowP (On b) b v RC (fun _ _=>True) w')) :
  Calls Tryz.prog 211 #[.pointer (some ⟨B1,0,none⟩),.pointer (some ⟨B2,0,none⟩)] w (InL (Two b Bm) b v (rI RC) (rE RC) (P2 wb B2 Bm s RC) w):=by
 have HB:=Lib.hid b2;have HNB:=Lib.hid nb;have HC:=Lib.hid cC;have c2:=b2.cell;have hb2:=b2.lt;have hb1:=zZ c1;have hbm:=qC nb;clear b2 nb cC
 go_enter Tryz.func211,Tryz.ntmps211
 go_wp2_with fail
 go_region_held3 (fun w'=>w'.cell? ⟨B2,0,none⟩=some (.pointer (some ⟨Bm,0,none⟩))/\w'.cell? ⟨B1,0,none⟩=some (.pointer (some ⟨b,0,none⟩))) (first | go_keep | (refine⟨?_,?_⟩<;>(rw[zS _ _ _ (by simp only;omega)];assumption)))
  ((go_at_call 164;refine(HC.out _ (by first | exact Below.refl _ _ | exact qE (Below.refl _ _) 1)).mono ?_;rintro e w2 ⟨vo,ps,rfl,⟨hoR,hpt⟩,hp0,hpl,g2,hR⟩;obtain⟨g,cp,rfl,hbg,hltg⟩:=hoR.form hp0;have g2:Gs (On b) w w2:=⟨g2.os,g2.tape,g2.output,g2.size,g2.block⟩;have nb2:Nb w2 Bm ⟨7,0,s,nob⟩ (.slice none 0 0):=g2.row HNB.out (fun e=>h2 e.symm);have c4:=nb2.cell.1;have f4:=nb2.cell.2;have b22:Boxed w2 B2 24 (.pointer (some ⟨Bm,0,none⟩)):=g2.row HB.out (fun e=>h1 e.symm);have k2:=b22.cell;have k1:=g2.cell c1 (fun e=>h4 e);have HOW:=Lib.hid hoR;have HR:=Lib.hid hR;have G2:=Lib.hid g2;have N2:=Lib.hid nb2;have B22:=Lib.hid b22;clear hoR hpt hR g2 nb2 b22))
 go_wp2_with fail;go_end0;obtain⟨WF,hWF⟩:∃WF,w2.setCell ⟨Bm,4,none⟩ (.slice (some ⟨g,0,none⟩) ps.length cp)=WF:=⟨_,rfl⟩;have nF:Nb WF Bm ⟨7,0,s,nob⟩ (.slice (some ⟨g,0,none⟩) ps.length cp):=by rw[<- hWF];exact N2.out.store _
 have hne:∀q,q≠Bm->WF.heap[q]? = w2.heap[q]?:=fun q hq=>by rw[<- hWF];exact Below.heap_setCell _ _ _ _ hq
 have hs:WF.heap.size=w2.heap.size:=by rw[<- hWF];simp[World.setCell]
 have hbg:w.heap.size<=g:=hbg;have oF:WF.ownsRow w.drew.heap.size 24 1 (.slice (some ⟨g,0,none⟩) ps.length cp) ps.length ps:=by rw[<- hWF];exact jD HOW.out _ _ fun g' e=>by injection e with e;subst e;simp only;omega
 have gF:Gs (Two b Bm) w WF:=by rw[<- hWF];exact G2.out.two.set _ _ (.inl (.inr rfl))
 have hz2:=G2.out.size;rw[hWF];refine⟨⟨_,rfl⟩,gF,?_,(hne _ h3).trans B22.out,fun f j hf=>?_⟩
 ·have h:=HR.out
  cases RC with
  | inl e=>exact(hne b h2).trans h.2.1
  | inr e=>exact(hne b h2).trans h
 ·have h:=HR.out
  rw[hf] at h;have hT:RwT w.drew w2 (.slice (some ⟨g,0,none⟩) ps.length cp) ps f:=h.1;have hl:=hT.len;rw[hl] at oF;have hd:w.drew.heap.size=w.heap.size:=rfl;refine OwnT.tree (x:=⟨7,0,s,nob⟩) ⟨ps,oF,PtF.keep (fun q hq=>?_) (fun q hq=>hne q ?_) hT⟩ (by rw[<- hl];exact nF) ⟨⟨h5,by omega⟩,fun e=>h3 e.symm⟩ fun g' e=>?_
  ·have h7:=hq.1.1
   have h8:=hq.1.2;exact⟨⟨by omega,by omega⟩,by omega⟩
  ·have h7:=hq.1.1
   omega
  ·injection e with e
   have e:g=g':=e;subst e;exact⟨⟨by omega,by omega⟩,by omega⟩
section
variable {nk lg:ByteArray->Bool}
def muE (l:List Tk) (o:Option ByteArray) (i:Nat):Nat×Int:=(neI (nmI o i 0) (tkB l (nmI o i 0) (nmE o 0) kLeft),neE (nmE o 0) (tkB l (nmI o i 0) (nmE o 0) kLeft))
def muR (l:List Tk) (s:ByteArray) (RC:Rs Fr):Rs Tr:=match RC with
 | .inr e=>.inr e
 | .inl (c,j)=>if key l j jW then .inl (nd 7 s c,j+1) else .inr (j,6)
theorem zSq {w w3:World} {b:Nat} {v:Value} {i:Nat} {e:Int} (k:Int) (s:ByteArray) (hb:b<w.heap.size) (g:Gs (On b) w w3) (h:Psr w3 b v i e) (r1:w3.heap[w.heap.size]? = some (.cells #[.pointer (some ⟨b,0,none⟩)] 129 (0,0))) (r:w3.heap[w.heap.size+1]? = some (.cells #[.pointer none] 24 (0,0)))
  (WF:World) (hWF:(w3.setCell ⟨w.heap.size+1,0,none⟩ (.pointer (some ⟨w3.heap.size,0,none⟩))).alloc (.cells #[.int .i64 k,.int .i64 0,.string s,.string ⟨#[]⟩,.slice none 0 0] 44)=WF) :
  WF.heap[w.heap.size]? = some (.cells #[.pointer (some ⟨b,0,none⟩)] 129 (0,0))/\Boxed WF (w.heap.size+1) 24 (.pointer (some ⟨w3.heap.size,0,none⟩))/\Gs (On b) w WF/\Psr WF b v i e/\Nb WF w3.heap.size ⟨k,0,s,nob⟩ (.slice none 0 0)/\Gs (Two b (w.heap.size+1)) w3 WF:=by
 obtain⟨Ws,hWs⟩:∃Ws,w3.setCell ⟨w.heap.size+1,0,none⟩ (.pointer (some ⟨w3.heap.size,0,none⟩))=Ws:=⟨_,rfl⟩;have zs:Ws.heap.size=w3.heap.size:=by rw[<- hWs];simp[World.setCell]
 have bs:Boxed Ws (w.heap.size+1) 24 (.pointer (some ⟨w3.heap.size,0,none⟩)):=by rw[<- hWs];exact Boxed.set _ r
 have gs:Gs (On b) w Ws:=by rw[<- hWs];exact g.set _ _ (.inr (by simp))
 have g3:Gs (Two b (w.heap.size+1)) w3 Ws:=by rw[<- hWs];exact(Gs.refl _ _).set _ _ (.inl (.inr rfl))
 have hs:Psr Ws b v i e:=by rw[<- hWs];exact(Below.heap_setCell _ _ _ _ (by simp only;omega)).trans h
 have h1:Ws.heap[w.heap.size]? = some (.cells #[.pointer (some ⟨b,0,none⟩)] 129 (0,0)):=by rw[<- hWs];exact(Below.heap_setCell _ _ _ _ (by simp only;omega)).trans r1
 rw[hWs] at hWF;have uf:Up Ws WF:=by rw[<- hWF];exact(Up.refl Ws).alloc _
 have nf:WF.heap[w3.heap.size]? = some (.cells #[.int .i64 k,.int .i64 0,.string s,.string ⟨#[]⟩,.slice none 0 0] 44 (0,0)):=by rw[<- hWF,<- zs];exact heap_alloc_new Ws _
 exact⟨uf.row h1,uf.row bs,gs.trans (Gs.of uf),hs.up uf,nf,g3.trans (Gs.of uf)⟩
theorem eJ {V0:World} {l:List Tk} (b:Nat) (v:Value) (i:Nat) (RC:Rs Fr) (hR:LeOk l.length RC) (hl:l.length<=100000) (w:World) (T:Toks nk lg V0 v l) (h:Psr w b v i 0) (hu:Up V0 w) (hbW:V0.heap.size<=b) (hP:Pl w) (hi:i<=l.length) (hn:∀k,k<3->tkB l i 0 (plS k)=false) (hy:tkB l i 0 kOpen=false) (hm:tkB l i 0 kMu=true)
  (cC:∀w',Gs (On b) w w'->Psr w' b v (muE l (nam nk l (i+1)) (i+1)).1 (muE l (nam nk l (i+1)) (i+1)).2->Calls Tryz.prog 164 #[.agg #[.pointer (some ⟨b,0,none⟩)]] w' (RowP (On b) b v RC (fun _ _=>True) w')) :
  Calls Tryz.prog 181 #[.agg #[.pointer (some ⟨b,0,none⟩)]] w (PaT (On b) b v (muR l (nmS (nam nk l (i+1)) 0) RC) (fun _ _=>True) w):=by
 have HY:=Lib.hid hy;have HM:=Lib.hid hm;have HCC:=Lib.hid cC;have HLE:=Lib.hid hR;have hi:i<=100000:=by omega
 clear hy hm cC hR;obtain⟨tp,zp,hpl⟩:=hP;have hb:b<w.heap.size:=qC h;have hpw:4<w.heap.size:=qC hpl;have H:=Lib.hid h;have HPL:=Lib.hid hpl;have HU:=Lib.hid hu;have HT:=Lib.hid T;have HN:=Lib.hid hn;have hpl2:((w.alloc (.cells #[.pointer (some ⟨b,0,none⟩)] 129)).alloc (.cells #[.pointer none] 24)).heap[4]? = some (.cells plV tp zp):=(((Up.refl w).alloc _).alloc _).row hpl;clear h hpl hu T hn
 go_enter Tryz.func181,Tryz.ntmps181
 go_wp2_with (refine wpList_load_row rfl 201 (.global 4) rfl 4 rfl tp plV zp _ hpl2 Tryz.underlying201 rfl (by kernel_rfl) ?_)
 generalize hA:plV=AR
 have HAR:=Lib.hid hA;obtain⟨W0,hW0⟩:∃W0,(w.alloc (.cells #[.pointer (some ⟨b,0,none⟩)] 129)).alloc (.cells #[.pointer none] 24)=W0:=⟨_,rfl⟩;have z0:W0.heap.size=w.heap.size+2:=by rw[<- hW0];simp
 have b1:W0.heap[w.heap.size]? = some (.cells #[.pointer (some ⟨b,0,none⟩)] 129 (0,0)):=by rw[<- hW0];exact yF _ (heap_alloc_new w _)
 have b2:W0.heap[w.heap.size+1]? = some (.cells #[.pointer none] 24 (0,0)):=by rw[<- hW0];exact yU _ _ (by simp)
 have u0:Up w W0:=by rw[<- hW0];exact((Up.refl w).alloc _).alloc _
 have B1:=Lib.hid b1;have B2:=Lib.hid b2;have UZ:=Lib.hid u0;rw[hW0];clear hA hpl2 hW0 b1 b2 u0
 go_loopw [6] (fun x wr=>∃k:Nat,k<=3/\x = .int .i64 (k:Int)/\Gs (On b) W0 wr/\Psr wr b v i 0) (fun x _=>4-(intOf x).toNat)
 case atStart=>exact⟨0,Nat.zero_le _,rfl,Gs.refl _ _,H.out.up UZ.out⟩
 case round=>
  obtain⟨k,hk,rfl,hg,ps⟩:=hrel;have hgs:=hg.size;have hur:Up V0 wr:=hg.up (HU.out.trans UZ.out) (fun q hq=>by rw[hq];exact hbW);have r1:wr.heap[w.heap.size]? = some (.cells #[.pointer (some ⟨b,0,none⟩)] 129 (0,0)):=hg.row B1.out (by unfold On;omega);have r2:wr.heap[w.heap.size+1]? = some (.cells #[.pointer none] 24 (0,0)):=hg.row B2.out (by unfold On;omega);have c1:wr.cell? ⟨w.heap.size,0,none⟩=some (.pointer (some ⟨b,0,none⟩)):=cell_of_row wr w.heap.size 0 _ _ _ r1;have hbw:w.heap.size<wr.heap.size:=by omega
  by_cases hlt:k<3
  ·have hix:∀W,(Instr.index 201 (.agg AR) (.int .i64 (k:Int))).run Tryz.prog W = .ok (.agg #[.string (plS k),.int .i64 ((k+1:Nat):Int)]) W:=fun W=>by rw[<- HAR.out];exact tX k (by omega) W
   have hw:IntKind.i64.wrap ((k:Int)+1)=((k+1:Nat):Int):=by rw[IntKind.wrap_i64];omega
   have hkz:(k:Int)<3:=by omega
   obtain⟨X,hX⟩:∃X,plS k=X:=⟨_,rfl⟩;obtain⟨ka,hka⟩:∃ka,((k+1:Nat):Int)=ka:=⟨_,rfl⟩;rw[hX,hka] at hix;have HX:=Lib.hid hX;have HKA:=Lib.hid hka;rw[hka] at hw;obtain⟨Wr,hWr⟩:∃Wr,wr.alloc (.cells #[.string X,.int .i64 ka] 200)=Wr:=⟨_,rfl⟩;have ur:Up wr Wr:=by rw[<- hWr];exact(Up.refl wr).alloc _
   have cT:Calls Tryz.prog 38 #[.pointer (some ⟨b,0,none⟩),.string X] Wr (TaP b v i 0 (tkB l i 0 X) Wr):=qP b v i 0 X Wr HT.out (ps.up ur) (hur.trans ur) (by omega);rw[<- hX] at cT;rw[HN.out k (by omega),hX] at cT;have HG:=Lib.hid hg;have WRD:=Lib.hid hWr;have UR:=Lib.hid ur;clear hX hka hWr ur hg ps hur r1 r2;go_wp2_with fail;rw[WRD.out];refine cT.mono ?_;rintro en w2 ⟨rfl,g2,h2⟩;go_wp2_with fail
   go_roundw
   case rel=>exact⟨k+1,by omega,jR (by have:=HKA.out;omega),(HG.out.trans (Gs.of UR.out)).trans g2,h2⟩
   case measure=>simp[intOf];have:=HKA.out;omega
  ·obtain rfl:k=3:=by omega
   have hSee:Calls Tryz.prog 63 #[.pointer (some ⟨b,0,none⟩),.string kOpen] wr (BoU false wr):=by have h:=yW b v i 0 kOpen wr HT.out ps hur;rw[HY.out] at h;exact h
   have HG:=Lib.hid hg;have HPS:=Lib.hid ps;have HR1:=Lib.hid r1;have HR2:=Lib.hid r2;have HUR:=Lib.hid hur;clear hg ps r1 r2 hur;go_wp2_with fail;refine hSee.mono ?_;rintro en w1 ⟨rfl,u1⟩;have hps1:=HPS.out.up u1;have hTak:Calls Tryz.prog 38 #[.pointer (some ⟨b,0,none⟩),.string kMu] w1 (TaP b v i 0 true w1):=by have h:=qP b v i 0 kMu w1 HT.out hps1 (HUR.out.trans u1) (by omega);rw[HM.out] at h;exact h
   have c1b:=(show Up wr w1 from u1).cell c1;have U1:=Lib.hid u1;clear u1 hps1 hSee;go_wp2_with fail;refine hTak.mono ?_;rintro en w2 ⟨rfl,g2,h2⟩;have c1c:w2.cell? ⟨w.heap.size,0,none⟩=some (.pointer (some ⟨b,0,none⟩)):=g2.cell c1b (by unfold On;simp only;omega);have u02:Up V0 w2:=g2.up (HUR.out.trans U1.out) (fun q hq=>by rw[hq];exact hbW);have cNm:=eI b v (i+1) 0 (nam nk l (i+1)) w2 (fun w' u=>HT.out.name (i+1) w' (u02.trans u)) h2 (by omega);obtain⟨o,ho⟩:∃o,nam nk l (i+1)=o:=⟨_,rfl⟩;have HO:=Lib.hid ho;rw[ho] at cNm;have G2:=Lib.hid g2;have U02:=Lib.hid u02;clear g2 h2 u02 hTak c1b c1 ho;go_wp2_with fail;refine cNm.mono ?_;rintro en w3 ⟨rfl,g3,h3⟩;have hgA:Gs (On b) w w3:=((((Gs.of UZ.out).trans HG.out).trans (Gs.of U1.out)).trans G2.out).trans g3;have r1b:w3.heap[w.heap.size]? = some (.cells #[.pointer (some ⟨b,0,none⟩)] 129 (0,0)):=((Gs.of U1.out:Gs (On b) wr w1).trans (G2.out.trans g3)).row HR1.out (by unfold On;omega);have r2b:w3.heap[w.heap.size+1]? = some (.cells #[.pointer none] 24 (0,0)):=((Gs.of U1.out:Gs (On b) wr w1).trans (G2.out.trans g3)).row HR2.out (by unfold On;omega);have c2:w3.cell? ⟨w.heap.size+1,0,none⟩=some (.pointer none):=cell_of_row w3 _ 0 _ _ _ r2b;have c1d:w3.cell? ⟨w.heap.size,0,none⟩=some (.pointer (some ⟨b,0,none⟩)):=cell_of_row w3 _ 0 _ _ _ r1b;have f2:=frozen_of_row w3 (w.heap.size+1) 0 _ _ r2b;have hb3:=qC r2b
   have HGA:=Lib.hid hgA;have H3:=Lib.hid h3;have R1B:=Lib.hid r1b;have R2B:=Lib.hid r2b;have U03:=Lib.hid (g3.up U02.out (fun q hq=>by rw[hq];exact hbW));clear hgA r1b r2b g3 h3 c1c;obtain⟨s,hs⟩:∃s,nmS o 0=s:=⟨_,rfl⟩;have HS:=Lib.hid hs;rw[hs];clear hs;obtain⟨WF,hWF⟩:∃WF,(w3.setCell ⟨w.heap.size+1,0,none⟩ (.pointer (some ⟨w3.heap.size,0,none⟩))).alloc (.cells #[.int .i64 7,.int .i64 0,.string s,.string ⟨#[]⟩,.slice none 0 0] 44)=WF:=⟨_,rfl⟩;obtain⟨r1F,bF,gF,pF,nF,g3F⟩:=zSq 7 s hb HGA.out H3.out R1B.out R2B.out WF hWF;have c1e:((w3.setCell ⟨w.heap.size+1,0,none⟩ (.pointer (some ⟨w3.heap.size,0,none⟩))).alloc (.cells #[.int .i64 7,.int .i64 0,.string s,.string ⟨#[]⟩,.slice none 0 0] 44)).cell? ⟨w.heap.size,0,none⟩=some (.pointer (some ⟨b,0,none⟩)):=by rw[hWF];exact cell_of_row WF _ 0 _ _ _ r1F
   have HRF:=Lib.hid r1F;have HBF:=Lib.hid bF;have HGF:=Lib.hid gF;have HNF:=Lib.hid nF;have hzF:=gF.size;have hzF3:=qC nF;have hEE:Hid (muE l (nam nk l (i+1)) (i+1)=(neI (nmI o (i+1) 0) (tkB l (nmI o (i+1) 0) (nmE o 0) kLeft),neE (nmE o 0) (tkB l (nmI o (i+1) 0) (nmE o 0) kLeft))):=Lib.hid (by rw[HO.out];rfl);have hio:nmI o (i+1) 0<=1000000:=by cases o<;>(simp only[nmI,if_pos];omega)
   have cB:=zJ b v (nmI o (i+1) 0) (nmE o 0) kLeft jW 211 #[.pointer (some ⟨w.heap.size,0,none⟩),.pointer (some ⟨w.heap.size+1,0,none⟩)] (fun _ _=>by kernel_rfl) (Two b w3.heap.size) (fun q hq=>by have:=HU.out.size;have:=HGA.out.size;rcases hq with hq | hq<;>omega) hbW (rI RC) (rE RC) (P2 w (w.heap.size+1) w3.heap.size s RC) WF
    HT.out pF (gF.up HU.out (fun q hq=>by rw[hq];exact hbW)) hio (by have h:=HLE.out.1;cases RC<;>(simp only[rI];simp only[pl] at h;omega)) (fun w5 g5 h5=>by
     have h5':=h5;have hE:=hEE.out;refine zSp w b v w.heap.size (w.heap.size+1) w3.heap.size s RC w5 (by omega) (by omega) (by omega) (by omega) (by omega) (by omega) (cell_of_row w5 _ 0 _ _ _ (g5.row HRF.out (by unfold On;omega))) (g5.row HBF.out (by unfold On;omega)) (g5.row HNF.out (by unfold On;omega)) fun w' u'=>HCC.out w' ((HGF.out.trans g5).trans (Gs.of u')) ?_
     rw[hE];exact h5'.up u')
   have HWF:=Lib.hid hWF;clear r1F bF gF pF nF g3F c1d hWF;go_wp2_with fail;rw[HWF.out];refine cB.mono ?_;rintro en w4 ⟨⟨u,rfl⟩,w5,w6,g5,g6,⟨b6,hT⟩,g4,h4⟩;have b4:Boxed w4 (w.heap.size+1) 24 (.pointer (some ⟨w3.heap.size,0,none⟩)):=g4.row b6 (by unfold On;omega);have c4:=b4.cell;have f4:=b4.frozen;have hb4:=b4.lt;have hgF:Gs (On b) w w4:=((HGF.out.trans g5).out2 g6 (by omega)).trans g4;have HGF4:=Lib.hid hgF;have HTT:Hid (∀f j,RC = .inl (f,j)->InT w4 (fun q=>NewS w w4 q/\q≠w.heap.size+1) (.pointer (some ⟨w3.heap.size,0,none⟩)) (nd 7 s f)):=Lib.hid fun t j hR=>InT.keep (hT t j hR) (fun q hq=>⟨⟨hq.1.1,Nat.lt_of_lt_of_le hq.1.2 g4.size⟩,hq.2⟩) fun q hq=>g4.block q hq.1.2 (by have:=hq.1.1;unfold On;omega)
   have H4:=Lib.hid h4;have B4:=Lib.hid b4;clear cB b4 hgF h4 g5 g6 g4 b6 hT;go_wp2_with fail;obtain⟨WG,hWG⟩:∃WG,w4.setCell ⟨w.heap.size+1,0,none⟩ (.pointer (some ⟨w3.heap.size,0,none⟩))=WG:=⟨_,rfl⟩;have bG:Boxed WG (w.heap.size+1) 24 (.pointer (some ⟨w3.heap.size,0,none⟩)):=by rw[<- hWG];exact B4.out.set _
   have r0:=bG.cell;have hsG:WG.heap.size=w4.heap.size:=by rw[<- hWG];simp[World.setCell]
   have hne:∀q,q≠w.heap.size+1->WG.heap[q]? = w4.heap[q]?:=fun q hq=>by rw[<- hWG];exact Below.heap_setCell _ _ _ _ hq
   have gG:Gs (On b) w WG:=by rw[<- hWG];exact HGF4.out.set _ _ (.inr (by simp))
   have pG:Psr WG b v (neI (rI RC) (tkB l (rI RC) (rE RC) jW)) (neE (rE RC) (tkB l (rI RC) (rE RC) jW)):=(hne b (by omega)).trans H4.out;have hle:=HLE.out;rw[hWG];refine bodyPost_ret (v:=.pointer (some ⟨w3.heap.size,0,none⟩)) (by simp[results,Tryz.results181,go_sem,r0]) rfl ⟨_,rfl,gG,?_⟩;rw[HO.out,HS.out]
   cases RC with
   | inr e=>
    obtain⟨p,r⟩:=e;have hr:¬r=0:=hle.2 p r rfl;simp only[rI,rE] at pG;rw[zE hr,tY hr] at pG;exact pG
   | inl e=>
    obtain⟨f,j⟩:=e;simp only[rI,rE] at pG;rw[qQ] at pG;unfold muR;simp only
    cases hk:key l j jW with
    | false=>rw[hk] at pG;exact pG
    | true=>
     rw[hk] at pG;exact⟨InT.keep (HTT.out f j rfl) (fun q hq=>⟨hq.1.1,by rw[hsG];exact hq.1.2⟩) (fun q hq=>hne q hq.2),pG,trivial⟩
end
theorem zSr (s:ByteArray):(s.toList.isEmpty)=isEmp s:=by
 unfold isEmp;rw[Lib.toList_data,Lib.size_eq]
 cases s.data.toList<;>rfl
section
variable {nk lg:ByteArray->Bool}
def numB (x:Nod) (a b:Int):Bool:=decide (a<=x.n)&&decide (x.n<=b)&&isEmp x.a&&isEmp x.m
end
def TelB (b:Bool) (w:World) (e:Ending) (w':World):Prop:=e = .returned (.bool b)/\Up w w'
theorem sE {a b:Bool} {w w':World} (h:a=b) (u:Up w w'):TelB a w (.returned (.bool b)) w':=⟨by rw[h],u⟩
theorem tF (x:Nod) (f:Fr) (a b:Int) (w:World) (v:Value) (hv:HasT w v (some (x,f))) :
  Calls Tryz.prog 101 #[v,.int .i64 a,.int .i64 b] w (TelB (numB x a b) w):=by
 obtain⟨q,p,A,c,rfl,hq,c0,c1,c2,c3,c4,hc,hkid⟩:=InT.open hv;have e1:=zSr x.a;have e2:=zSr x.m;have HB:Hid (numB x a b=(decide (a<=x.n)&&decide (x.n<=b)&&isEmp x.a&&isEmp x.m)):=Lib.hid rfl;rw[HB.out];obtain⟨d1,h1⟩:∃d,decide (a<=x.n)=d:=⟨_,rfl⟩;obtain⟨d2,h2⟩:∃d,decide (x.n<=b)=d:=⟨_,rfl⟩;obtain⟨d3,h3⟩:∃d,isEmp x.a=d:=⟨_,rfl⟩;obtain⟨d4,h4⟩:∃d,isEmp x.m=d:=⟨_,rfl⟩;rw[h1,h2,h3,h4];rw[h3] at e1;rw[h4] at e2;clear hkid hc hq h3 h4 hv HB
 cases d1
 ·have g1:¬a<=x.n:=of_decide_eq_false h1
  go_enter Tryz.func101,Tryz.ntmps101
  go_wp2_with fail
  go_ret
  exact sE rfl (Up.refl _)
 ·have g1:a<=x.n:=of_decide_eq_true h1
  cases d2
  ·have g2:¬x.n<=b:=of_decide_eq_false h2
   go_enter Tryz.func101,Tryz.ntmps101
   go_wp2_with fail
   go_ret
   exact sE rfl (Up.refl _)
  ·have g2:x.n<=b:=of_decide_eq_true h2
   cases d3
   ·go_enter Tryz.func101,Tryz.ntmps101
    go_wp2_with fail
    go_ret
    exact sE rfl (Up.refl _)
   ·cases d4
    all_goals
     go_enter Tryz.func101,Tryz.ntmps101
     go_wp2_with fail
     go_ret
     exact sE rfl (Up.refl _)
theorem gM (w:World) (a:Addr):(binOp .eql 24 (.pointer (some a)) (.pointer none)).run Tryz.prog w = .ok (.bool false) w:=by
 have h:∀d:Nat,(Op.equalIn (d+1) 24 (.pointer (some a)) (.pointer none)).run Tryz.prog w = .ok false w:=fun d=>by simp[Op.equalIn,run_underlying Tryz.underlying24]
 simp only[binOp]
 simp[Op.equal,Op.maxDepth,h 9999]
section
variable (nk lg:ByteArray->Bool)
end
theorem gO {a b:Bool} {W w':World} (h:b=a) (u:Up W w'):BoP b W (.returned (.bool a)) w':=⟨by rw[h],u⟩
theorem Nx.up {W w:World} (h:B.Nx W) (u:Up W w):B.Nx w:=B.Nx.below h u
def emp5:ByteArray:=⟨#[]⟩
end Go.Proofs.YtgeghilbikljcaaGreatDoor
namespace Go.Proofs.YtgeghilbikljcaaGreatDoor
open Go.RowKit Go.Maps
def kyC (s:ByteArray):Lit:=.string s.data.toList
def kysC (l:List ByteArray):List Lit:=l.map kyC
theorem zSs (l:List ByteArray):∀x∈kysC l,WideAt.IsKeyLit x:=by
 intro x hx;obtain⟨y,_,rfl⟩:=List.mem_map.1 hx;exact trivial
def SxC (l:List ByteArray):DataW Unit:=Maps.setOf (.agg []) (kysC l)
theorem zOp {a b:ByteArray} (h:kyC a=kyC b):a=b:=by
 unfold kyC at h;injection h with h;exact B.fB h
theorem zW3 (l:List ByteArray) (y:ByteArray):Maps.has (SxC l) (kyC y)=true↔y∈l:=by
 unfold SxC;rw[Maps.has_setOf _ _ _ (zSs l),List.any_eq_true]
 constructor
 ·rintro⟨x,hx,hk⟩
  obtain⟨z,hz,rfl⟩:=List.mem_map.1 hx;rw[<- zOp (WideAt.sameKey_eq hk)];exact hz
 ·intro h
  exact⟨kyC y,List.mem_map.2 ⟨y,h,rfl⟩,WideAt.sameKey_self trivial⟩
theorem zSt (l:List ByteArray) (y:ByteArray):SxC (l++[y])=(SxC l).put (kyC y) (.agg []):=by
 unfold SxC kysC;rw[List.map_append,List.map_cons,List.map_nil,Maps.setOf_snoc]
theorem zW4:Keyed Tryz.prog 9:=string_keyed Tryz.underlying9
theorem zVl (w:World):(zeroValue 149).run Tryz.prog w = .ok (.agg #[]) w:=by kernel_rfl
theorem zSu {s:ByteArray} (h:s.size<=2000000000):keyOf Tryz.prog 9 (.string s)=some (kyC s):=Go.WideMaps.keyOf_string_mk Tryz.underlying9 (by unfold maxLen;omega)
def StC (w:World) (pb mb:Nat) (l:List ByteArray):Prop:=w.heap[pb]? = some (.cells #[.map (some mb)] 148 (0,0))/\pb≠mb/\w.ownsMap Tryz.prog 9 (unitElem (H:=Unit)) mb l.length (SxC l)
theorem tZ {w w':World} {b n:Nat} {D:DataW Unit} (h:w.ownsMap Tryz.prog 9 (unitElem (H:=Unit)) b n D) (hb:Below w.heap.size w w'):w'.ownsMap Tryz.prog 9 (unitElem (H:=Unit)) b n D:=by
 obtain⟨es,clock,h1,h2⟩:=h;exact⟨es,clock,zC h1 hb,h2⟩
theorem StC.below {w w':World} {pb mb:Nat} {l:List ByteArray} (h:StC w pb mb l) (hb:Below w.heap.size w w'):StC w' pb mb l:=⟨zC h.1 hb,h.2.1,tZ h.2.2 hb⟩
def hasC (l:List ByteArray) (s:ByteArray):Bool:=Maps.has (SxC l) (kyC s)
theorem lookC {w:World} {mb n:Nat} {l:List ByteArray} {s:ByteArray} (h:w.ownsMap Tryz.prog 9 (unitElem (H:=Unit)) mb n (SxC l)) (hs:s.size<=2000000000) :
  (Instr.lookup 148 (.map (some mb)) (.string s) true).run Tryz.prog w = .ok (.tuple #[.agg #[],.bool (hasC l s)]) w:=by
 obtain⟨v,ps,hrun,hv⟩:=h.look_ok zW4 Tryz.underlying148 (zVl w) unitElem_mk (zSu hs);obtain⟨rfl,_⟩:=unitElem_inv hv;exact hrun
theorem zYb {w:World} {mb:Nat} {l:List ByteArray} {s:ByteArray} (h:w.ownsMap Tryz.prog 9 (unitElem (H:=Unit)) mb l.length (SxC l)) (hs:s.size<=2000000000) (hl:l.length<=1000000) :
  ∃w',(Instr.mapUpdate 148 (.map (some mb)) (.string s) (.agg #[])).run Tryz.prog w = .ok () w'/\w'.ownsMap Tryz.prog 9 (unitElem (H:=Unit)) mb (l++[s]).length (SxC (l++[s]))/\w.grownBy w' (some mb):=by
 obtain⟨w',h1,h2,h3⟩:=h.store zW4 Tryz.underlying148 (by unfold maxLen;omega) (zSu hs) unitElem_mk;refine⟨w',h1,?_,h3.grown⟩;rw[zSt,List.length_append];exact h2
end Go.Proofs.YtgeghilbikljcaaGreatDoor
