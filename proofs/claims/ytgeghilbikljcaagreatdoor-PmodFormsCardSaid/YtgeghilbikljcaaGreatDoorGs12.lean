/-
  Layer 6, the program's atom: mu.
-/
import Derived.Test.YtgeghilbikljcaaGreatDoorGs11
import Derived.Deep.Onto
import Derived.KernelRfl
import Derived.Laws.AppendOwnNone
import Derived.Laws.CopyOwn
import Derived.Laws.OwnMore
import Derived.Lib.AppendZeros
import Derived.Maps.OwnSet
set_option maxHeartbeats 40000000
set_option maxRecDepth 100000
namespace Go.Proofs.YtgeghilbikljcaaGreatDoor
open Go.RowKit
def P2 (wb:World) (B2 Bm:Nat) (s:ByteArray) (RC:Rs Fr) (w:World):Prop:=Boxed w B2 24 (.pointer (some ⟨Bm,0,none⟩))/\∀f j,RC = .inl (f,j)->InT w (fun q=>NewS wb w q/\q≠B2) (.pointer (some ⟨Bm,0,none⟩)) (nd 7 s f)
theorem zNu (wb:World) (b:Nat) (v:Value) (B1 B2 Bm:Nat) (s:ByteArray) (RC:Rs Fr) (w:World) (h1:b≠B2) (h2:b≠Bm) (h3:B2≠Bm) (h4:B1≠b) (h5:wb.heap.size<=Bm) (h6:B1≠Bm)
  (c1:w.cell? ⟨B1,0,none⟩=some (.pointer (some ⟨b,0,none⟩))) (b2:Boxed w B2 24 (.pointer (some ⟨Bm,0,none⟩))) (nb:Nb w Bm ⟨7,0,s,nob⟩ (.slice none 0 0))
  (cC:∀w',Up w w'->Calls Tryz.prog 164 #[.agg #[.pointer (some ⟨b,0,none⟩)]] w' (RowP (On b) b v RC (fun _ _=>True) w')) :
  Calls Tryz.prog 211 #[.pointer (some ⟨B1,0,none⟩),.pointer (some ⟨B2,0,none⟩)] w (InL (Two b Bm) b v (rI RC) (rE RC) (P2 wb B2 Bm s RC) w):=by
 have HB:=Lib.hid b2;have HNB:=Lib.hid nb;have HC:=Lib.hid cC;have c2:=b2.cell;have hb2:=b2.lt;have hb1:=zQ c1;have hbm:=qC nb;clear b2 nb cC
 go_enter Tryz.func211,Tryz.ntmps211
 go_wp2_with fail
 go_region_held3 (fun w'=>w'.cell? ⟨B2,0,none⟩=some (.pointer (some ⟨Bm,0,none⟩))/\w'.cell? ⟨B1,0,none⟩=some (.pointer (some ⟨b,0,none⟩))) (first | go_keep | (refine⟨?_,?_⟩<;>(rw[yJ _ _ _ (by simp only;omega)];assumption)))
  ((go_at_call 164;refine(HC.out _ (by first | exact Below.refl _ _ | exact qE (Below.refl _ _) 1)).mono ?_;rintro e w2 ⟨vo,ps,rfl,⟨hoR,hpt⟩,hp0,hpl,g2,hR⟩;obtain⟨g,cp,rfl,hbg,hltg⟩:=hoR.form hp0;have g2:Gs (On b) w w2:=⟨g2.os,g2.tape,g2.output,g2.size,g2.block⟩;have nb2:Nb w2 Bm ⟨7,0,s,nob⟩ (.slice none 0 0):=g2.row HNB.out (fun e=>h2 e.symm);have c4:=nb2.cell.1;have f4:=nb2.cell.2;have b22:Boxed w2 B2 24 (.pointer (some ⟨Bm,0,none⟩)):=g2.row HB.out (fun e=>h1 e.symm);have k2:=b22.cell;have k1:=g2.cell c1 (fun e=>h4 e);have HOW:=Lib.hid hoR;have HR:=Lib.hid hR;have G2:=Lib.hid g2;have N2:=Lib.hid nb2;have B22:=Lib.hid b22;clear hoR hpt hR g2 nb2 b22))
 go_wp2_with fail;go_end0;obtain⟨WF,hWF⟩:∃WF,w2.setCell ⟨Bm,4,none⟩ (.slice (some ⟨g,0,none⟩) ps.length cp)=WF:=⟨_,rfl⟩;have nF:Nb WF Bm ⟨7,0,s,nob⟩ (.slice (some ⟨g,0,none⟩) ps.length cp):=by rw[<- hWF];exact N2.out.store _
 have hne:∀q,q≠Bm->WF.heap[q]? = w2.heap[q]?:=fun q hq=>by rw[<- hWF];exact Below.heap_setCell _ _ _ _ hq
 have hs:WF.heap.size=w2.heap.size:=by rw[<- hWF];simp[World.setCell]
 have hbg:w.heap.size<=g:=hbg;have oF:WF.ownsRow w.drew.heap.size 24 1 (.slice (some ⟨g,0,none⟩) ps.length cp) ps.length ps:=by rw[<- hWF];exact yF HOW.out _ _ fun g' e=>by injection e with e;subst e;simp only;omega
 have gF:Gs (Two b Bm) w WF:=by rw[<- hWF];exact G2.out.two.set _ _ (.inl (.inr rfl))
 have hz2:=G2.out.size;rw[hWF];refine⟨⟨_,rfl⟩,gF,?_,(hne _ h3).trans B22.out,fun f j hf=>?_⟩
 ·have h:=HR.out
  cases RC with
  | inl e=>exact(hne b h2).trans h.2.1
  | inr e=>exact(hne b h2).trans h
 ·have h:=HR.out
  rw[hf] at h;have hT:RwT w.drew w2 (.slice (some ⟨g,0,none⟩) ps.length cp) ps f:=h.1;have hl:=hT.len;rw[hl] at oF;have hd:w.drew.heap.size=w.heap.size:=rfl;refine OwnT.tree (x:=⟨7,0,s,nob⟩) ⟨ps,oF,PtF.keep (fun q hq=>?_) (fun q hq=>hne q ?_) hT⟩ (by rw[<- hl];exact nF) ⟨⟨h5,by omega⟩,fun e=>h3 e.symm⟩ fun g' e=>?_
  ·have h7:=hq.1.1
   have h8:=hq.1.2;exact⟨⟨by omega,by omega⟩,by omega⟩
  ·have h7:=hq.1.1
   omega
  ·injection e with e
   have e:g=g':=e;subst e;exact⟨⟨by omega,by omega⟩,by omega⟩
section
variable {nk lg:ByteArray->Bool}
def muE (l:List Tk) (o:Option ByteArray) (i:Nat):Nat×Int:=(neI (nmI o i 0) (tkB l (nmI o i 0) (nmE o 0) kLeft),neE (nmE o 0) (tkB l (nmI o i 0) (nmE o 0) kLeft))
def muR (l:List Tk) (s:ByteArray) (RC:Rs Fr):Rs Tr:=match RC with
 | .inr e=>.inr e
 | .inl (c,j)=>if key l j xO then .inl (nd 7 s c,j+1) else .inr (j,6)
theorem zNv {w w3:World} {b:Nat} {v:Value} {i:Nat} {e:Int} (k:Int) (s:ByteArray) (hb:b<w.heap.size) (g:Gs (On b) w w3) (h:Psr w3 b v i e) (r1:w3.heap[w.heap.size]? = some (.cells #[.pointer (some ⟨b,0,none⟩)] 129 (0,0))) (r:w3.heap[w.heap.size+1]? = some (.cells #[.pointer none] 24 (0,0)))
  (WF:World) (hWF:(w3.setCell ⟨w.heap.size+1,0,none⟩ (.pointer (some ⟨w3.heap.size,0,none⟩))).alloc (.cells #[.int .i64 k,.int .i64 0,.string s,.string ⟨#[]⟩,.slice none 0 0] 44)=WF) :
  WF.heap[w.heap.size]? = some (.cells #[.pointer (some ⟨b,0,none⟩)] 129 (0,0))/\Boxed WF (w.heap.size+1) 24 (.pointer (some ⟨w3.heap.size,0,none⟩))/\Gs (On b) w WF/\Psr WF b v i e/\Nb WF w3.heap.size ⟨k,0,s,nob⟩ (.slice none 0 0)/\Gs (Two b (w.heap.size+1)) w3 WF:=by
 obtain⟨Ws,hWs⟩:∃Ws,w3.setCell ⟨w.heap.size+1,0,none⟩ (.pointer (some ⟨w3.heap.size,0,none⟩))=Ws:=⟨_,rfl⟩;have zs:Ws.heap.size=w3.heap.size:=by rw[<- hWs];simp[World.setCell]
 have bs:Boxed Ws (w.heap.size+1) 24 (.pointer (some ⟨w3.heap.size,0,none⟩)):=by rw[<- hWs];exact Boxed.set _ r
 have gs:Gs (On b) w Ws:=by rw[<- hWs];exact g.set _ _ (.inr (by simp))
 have g3:Gs (Two b (w.heap.size+1)) w3 Ws:=by rw[<- hWs];exact(Gs.refl _ _).set _ _ (.inl (.inr rfl))
 have hs:Psr Ws b v i e:=by rw[<- hWs];exact(Below.heap_setCell _ _ _ _ (by simp only;omega)).trans h
 have h1:Ws.heap[w.heap.size]? = some (.cells #[.pointer (some ⟨b,0,none⟩)] 129 (0,0)):=by rw[<- hWs];exact(Below.heap_setCell _ _ _ _ (by simp only;omega)).trans r1
 rw[hWs] at hWF;have uf:Up Ws WF:=by rw[<- hWF];exact(Up.refl Ws).alloc _
 have nf:WF.heap[w3.heap.size]? = some (.cells #[.int .i64 k,.int .i64 0,.string s,.string ⟨#[]⟩,.slice none 0 0] 44 (0,0)):=by rw[<- hWF,<- zs];exact heap_alloc_new Ws _
 exact⟨uf.row h1,uf.row bs,gs.trans (Gs.of uf),hs.up uf,nf,g3.trans (Gs.of uf)⟩
theorem oL {V0:World} {l:List Tk} (b:Nat) (v:Value) (i:Nat) (RC:Rs Fr) (hR:LeOk l.length RC) (hl:l.length<=100000) (w:World) (T:Toks nk lg V0 v l) (h:Psr w b v i 0) (hu:Up V0 w) (hbW:V0.heap.size<=b) (hP:Pl w) (hi:i<=l.length) (hn:∀k,k<3->tkB l i 0 (plS k)=false) (hy:tkB l i 0 kOpen=false) (hm:tkB l i 0 kMu=true)
  (cC:∀w',Gs (On b) w w'->Psr w' b v (muE l (nam nk l (i+1)) (i+1)).1 (muE l (nam nk l (i+1)) (i+1)).2->Calls Tryz.prog 164 #[.agg #[.pointer (some ⟨b,0,none⟩)]] w' (RowP (On b) b v RC (fun _ _=>True) w')) :
  Calls Tryz.prog 181 #[.agg #[.pointer (some ⟨b,0,none⟩)]] w (PaT (On b) b v (muR l (nmS (nam nk l (i+1)) 0) RC) (fun _ _=>True) w):=by
 have HY:=Lib.hid hy;have HM:=Lib.hid hm;have HCC:=Lib.hid cC;have HLE:=Lib.hid hR;have hi:i<=100000:=by omega
 clear hy hm cC hR;obtain⟨tp,zp,hpl⟩:=hP;have hb:b<w.heap.size:=qC h;have hpw:4<w.heap.size:=qC hpl;have H:=Lib.hid h;have HPL:=Lib.hid hpl;have HU:=Lib.hid hu;have HT:=Lib.hid T;have HN:=Lib.hid hn;have hpl2:((w.alloc (.cells #[.pointer (some ⟨b,0,none⟩)] 129)).alloc (.cells #[.pointer none] 24)).heap[4]? = some (.cells plV tp zp):=(((Up.refl w).alloc _).alloc _).row hpl;clear h hpl hu T hn
 go_enter Tryz.func181,Tryz.ntmps181
 go_wp2_with (refine wpList_load_row rfl 201 (.global 4) rfl 4 rfl tp plV zp _ hpl2 Tryz.underlying201 rfl (by kernel_rfl) ?_)
 generalize hA:plV=AR
 have HAR:=Lib.hid hA;obtain⟨W0,hW0⟩:∃W0,(w.alloc (.cells #[.pointer (some ⟨b,0,none⟩)] 129)).alloc (.cells #[.pointer none] 24)=W0:=⟨_,rfl⟩;have z0:W0.heap.size=w.heap.size+2:=by rw[<- hW0];simp
 have b1:W0.heap[w.heap.size]? = some (.cells #[.pointer (some ⟨b,0,none⟩)] 129 (0,0)):=by rw[<- hW0];exact yZ _ (heap_alloc_new w _)
 have b2:W0.heap[w.heap.size+1]? = some (.cells #[.pointer none] 24 (0,0)):=by rw[<- hW0];exact kR _ _ (by simp)
 have u0:Up w W0:=by rw[<- hW0];exact((Up.refl w).alloc _).alloc _
 have B1:=Lib.hid b1;have B2:=Lib.hid b2;have UZ:=Lib.hid u0;rw[hW0];clear hA hpl2 hW0 b1 b2 u0
 go_loopw [6] (fun x wr=>∃k:Nat,k<=3/\x = .int .i64 (k:Int)/\Gs (On b) W0 wr/\Psr wr b v i 0) (fun x _=>4-(intOf x).toNat)
 case atStart=>exact⟨0,Nat.zero_le _,rfl,Gs.refl _ _,H.out.up UZ.out⟩
 case round=>
  obtain⟨k,hk,rfl,hg,ps⟩:=hrel;have hgs:=hg.size;have hur:Up V0 wr:=hg.up (HU.out.trans UZ.out) (fun q hq=>by rw[hq];exact hbW);have r1:wr.heap[w.heap.size]? = some (.cells #[.pointer (some ⟨b,0,none⟩)] 129 (0,0)):=hg.row B1.out (by unfold On;omega);have r2:wr.heap[w.heap.size+1]? = some (.cells #[.pointer none] 24 (0,0)):=hg.row B2.out (by unfold On;omega);have c1:wr.cell? ⟨w.heap.size,0,none⟩=some (.pointer (some ⟨b,0,none⟩)):=cell_of_row wr w.heap.size 0 _ _ _ r1;have hbw:w.heap.size<wr.heap.size:=by omega
  by_cases hlt:k<3
  ·have hix:∀W,(Instr.index 201 (.agg AR) (.int .i64 (k:Int))).run Tryz.prog W = .ok (.agg #[.string (plS k),.int .i64 ((k+1:Nat):Int)]) W:=fun W=>by rw[<- HAR.out];exact dI k (by omega) W
   have hw:IntKind.i64.wrap ((k:Int)+1)=((k+1:Nat):Int):=by rw[IntKind.wrap_i64];omega
   have hkz:(k:Int)<3:=by omega
   obtain⟨X,hX⟩:∃X,plS k=X:=⟨_,rfl⟩;obtain⟨ka,hka⟩:∃ka,((k+1:Nat):Int)=ka:=⟨_,rfl⟩;rw[hX,hka] at hix;have HX:=Lib.hid hX;have HKA:=Lib.hid hka;rw[hka] at hw;obtain⟨Wr,hWr⟩:∃Wr,wr.alloc (.cells #[.string X,.int .i64 ka] 200)=Wr:=⟨_,rfl⟩;have ur:Up wr Wr:=by rw[<- hWr];exact(Up.refl wr).alloc _
   have cT:Calls Tryz.prog 38 #[.pointer (some ⟨b,0,none⟩),.string X] Wr (TaP b v i 0 (tkB l i 0 X) Wr):=qU b v i 0 X Wr HT.out (ps.up ur) (hur.trans ur) (by omega);rw[<- hX] at cT;rw[HN.out k (by omega),hX] at cT;have HG:=Lib.hid hg;have WRD:=Lib.hid hWr;have UR:=Lib.hid ur;clear hX hka hWr ur hg ps hur r1 r2;go_wp2_with fail;rw[WRD.out];refine cT.mono ?_;rintro en w2 ⟨rfl,g2,h2⟩;go_wp2_with fail
   go_roundw
   case rel=>exact⟨k+1,by omega,yS (by have:=HKA.out;omega),(HG.out.trans (Gs.of UR.out)).trans g2,h2⟩
   case measure=>simp[intOf];have:=HKA.out;omega
  ·obtain rfl:k=3:=by omega
   have hSee:Calls Tryz.prog 63 #[.pointer (some ⟨b,0,none⟩),.string kOpen] wr (BoU false wr):=by have h:=kW b v i 0 kOpen wr HT.out ps hur;rw[HY.out] at h;exact h
   have HG:=Lib.hid hg;have HPS:=Lib.hid ps;have HR1:=Lib.hid r1;have HR2:=Lib.hid r2;have HUR:=Lib.hid hur;clear hg ps r1 r2 hur;go_wp2_with fail;refine hSee.mono ?_;rintro en w1 ⟨rfl,u1⟩;have hps1:=HPS.out.up u1;have hTak:Calls Tryz.prog 38 #[.pointer (some ⟨b,0,none⟩),.string kMu] w1 (TaP b v i 0 true w1):=by have h:=qU b v i 0 kMu w1 HT.out hps1 (HUR.out.trans u1) (by omega);rw[HM.out] at h;exact h
   have c1b:=(show Up wr w1 from u1).cell c1;have U1:=Lib.hid u1;clear u1 hps1 hSee;go_wp2_with fail;refine hTak.mono ?_;rintro en w2 ⟨rfl,g2,h2⟩;have c1c:w2.cell? ⟨w.heap.size,0,none⟩=some (.pointer (some ⟨b,0,none⟩)):=g2.cell c1b (by unfold On;simp only;omega);have u02:Up V0 w2:=g2.up (HUR.out.trans U1.out) (fun q hq=>by rw[hq];exact hbW);have cNm:=oK b v (i+1) 0 (nam nk l (i+1)) w2 (fun w' u=>HT.out.name (i+1) w' (u02.trans u)) h2 (by omega);obtain⟨o,ho⟩:∃o,nam nk l (i+1)=o:=⟨_,rfl⟩;have HO:=Lib.hid ho;rw[ho] at cNm;have G2:=Lib.hid g2;have U02:=Lib.hid u02;clear g2 h2 u02 hTak c1b c1 ho;go_wp2_with fail;refine cNm.mono ?_;rintro en w3 ⟨rfl,g3,h3⟩;have hgA:Gs (On b) w w3:=((((Gs.of UZ.out).trans HG.out).trans (Gs.of U1.out)).trans G2.out).trans g3;have r1b:w3.heap[w.heap.size]? = some (.cells #[.pointer (some ⟨b,0,none⟩)] 129 (0,0)):=((Gs.of U1.out:Gs (On b) wr w1).trans (G2.out.trans g3)).row HR1.out (by unfold On;omega);have r2b:w3.heap[w.heap.size+1]? = some (.cells #[.pointer none] 24 (0,0)):=((Gs.of U1.out:Gs (On b) wr w1).trans (G2.out.trans g3)).row HR2.out (by unfold On;omega);have c2:w3.cell? ⟨w.heap.size+1,0,none⟩=some (.pointer none):=cell_of_row w3 _ 0 _ _ _ r2b;have c1d:w3.cell? ⟨w.heap.size,0,none⟩=some (.pointer (some ⟨b,0,none⟩)):=cell_of_row w3 _ 0 _ _ _ r1b;have f2:=frozen_of_row w3 (w.heap.size+1) 0 _ _ r2b;have hb3:=qC r2b
   have HGA:=Lib.hid hgA;have H3:=Lib.hid h3;have R1B:=Lib.hid r1b;have R2B:=Lib.hid r2b;have U03:=Lib.hid (g3.up U02.out (fun q hq=>by rw[hq];exact hbW));clear hgA r1b r2b g3 h3 c1c;obtain⟨s,hs⟩:∃s,nmS o 0=s:=⟨_,rfl⟩;have HS:=Lib.hid hs;rw[hs];clear hs;obtain⟨WF,hWF⟩:∃WF,(w3.setCell ⟨w.heap.size+1,0,none⟩ (.pointer (some ⟨w3.heap.size,0,none⟩))).alloc (.cells #[.int .i64 7,.int .i64 0,.string s,.string ⟨#[]⟩,.slice none 0 0] 44)=WF:=⟨_,rfl⟩;obtain⟨r1F,bF,gF,pF,nF,g3F⟩:=zNv 7 s hb HGA.out H3.out R1B.out R2B.out WF hWF;have c1e:((w3.setCell ⟨w.heap.size+1,0,none⟩ (.pointer (some ⟨w3.heap.size,0,none⟩))).alloc (.cells #[.int .i64 7,.int .i64 0,.string s,.string ⟨#[]⟩,.slice none 0 0] 44)).cell? ⟨w.heap.size,0,none⟩=some (.pointer (some ⟨b,0,none⟩)):=by rw[hWF];exact cell_of_row WF _ 0 _ _ _ r1F
   have HRF:=Lib.hid r1F;have HBF:=Lib.hid bF;have HGF:=Lib.hid gF;have HNF:=Lib.hid nF;have hzF:=gF.size;have hzF3:=qC nF;have hEE:Hid (muE l (nam nk l (i+1)) (i+1)=(neI (nmI o (i+1) 0) (tkB l (nmI o (i+1) 0) (nmE o 0) kLeft),neE (nmE o 0) (tkB l (nmI o (i+1) 0) (nmE o 0) kLeft))):=Lib.hid (by rw[HO.out];rfl);have hio:nmI o (i+1) 0<=1000000:=by cases o<;>(simp only[nmI,if_pos];omega)
   have cB:=yB b v (nmI o (i+1) 0) (nmE o 0) kLeft xO 211 #[.pointer (some ⟨w.heap.size,0,none⟩),.pointer (some ⟨w.heap.size+1,0,none⟩)] (fun _ _=>by kernel_rfl) (Two b w3.heap.size) (fun q hq=>by have:=HU.out.size;have:=HGA.out.size;rcases hq with hq | hq<;>omega) hbW (rI RC) (rE RC) (P2 w (w.heap.size+1) w3.heap.size s RC) WF
    HT.out pF (gF.up HU.out (fun q hq=>by rw[hq];exact hbW)) hio (by have h:=HLE.out.1;cases RC<;>(simp only[rI];simp only[pl] at h;omega)) (fun w5 g5 h5=>by
     have h5':=h5;have hE:=hEE.out;refine zNu w b v w.heap.size (w.heap.size+1) w3.heap.size s RC w5 (by omega) (by omega) (by omega) (by omega) (by omega) (by omega) (cell_of_row w5 _ 0 _ _ _ (g5.row HRF.out (by unfold On;omega))) (g5.row HBF.out (by unfold On;omega)) (g5.row HNF.out (by unfold On;omega)) fun w' u'=>HCC.out w' ((HGF.out.trans g5).trans (Gs.of u')) ?_
     rw[hE];exact h5'.up u')
   have HWF:=Lib.hid hWF;clear r1F bF gF pF nF g3F c1d hWF;go_wp2_with fail;rw[HWF.out];refine cB.mono ?_;rintro en w4 ⟨⟨u,rfl⟩,w5,w6,g5,g6,⟨b6,hT⟩,g4,h4⟩;have b4:Boxed w4 (w.heap.size+1) 24 (.pointer (some ⟨w3.heap.size,0,none⟩)):=g4.row b6 (by unfold On;omega);have c4:=b4.cell;have f4:=b4.frozen;have hb4:=b4.lt;have hgF:Gs (On b) w w4:=((HGF.out.trans g5).out2 g6 (by omega)).trans g4;have HGF4:=Lib.hid hgF;have HTT:Hid (∀f j,RC = .inl (f,j)->InT w4 (fun q=>NewS w w4 q/\q≠w.heap.size+1) (.pointer (some ⟨w3.heap.size,0,none⟩)) (nd 7 s f)):=Lib.hid fun t j hR=>InT.keep (hT t j hR) (fun q hq=>⟨⟨hq.1.1,Nat.lt_of_lt_of_le hq.1.2 g4.size⟩,hq.2⟩) fun q hq=>g4.block q hq.1.2 (by have:=hq.1.1;unfold On;omega)
   have H4:=Lib.hid h4;have B4:=Lib.hid b4;clear cB b4 hgF h4 g5 g6 g4 b6 hT;go_wp2_with fail;obtain⟨WG,hWG⟩:∃WG,w4.setCell ⟨w.heap.size+1,0,none⟩ (.pointer (some ⟨w3.heap.size,0,none⟩))=WG:=⟨_,rfl⟩;have bG:Boxed WG (w.heap.size+1) 24 (.pointer (some ⟨w3.heap.size,0,none⟩)):=by rw[<- hWG];exact B4.out.set _
   have r0:=bG.cell;have hsG:WG.heap.size=w4.heap.size:=by rw[<- hWG];simp[World.setCell]
   have hne:∀q,q≠w.heap.size+1->WG.heap[q]? = w4.heap[q]?:=fun q hq=>by rw[<- hWG];exact Below.heap_setCell _ _ _ _ hq
   have gG:Gs (On b) w WG:=by rw[<- hWG];exact HGF4.out.set _ _ (.inr (by simp))
   have pG:Psr WG b v (neI (rI RC) (tkB l (rI RC) (rE RC) xO)) (neE (rE RC) (tkB l (rI RC) (rE RC) xO)):=(hne b (by omega)).trans H4.out;have hle:=HLE.out;rw[hWG];refine bodyPost_ret (v:=.pointer (some ⟨w3.heap.size,0,none⟩)) (by simp[results,Tryz.results181,go_sem,r0]) rfl ⟨_,rfl,gG,?_⟩;rw[HO.out,HS.out]
   cases RC with
   | inr e=>
    obtain⟨p,r⟩:=e;have hr:¬r=0:=hle.2 p r rfl;simp only[rI,rE] at pG;rw[zV hr,dJ hr] at pG;exact pG
   | inl e=>
    obtain⟨f,j⟩:=e;simp only[rI,rE] at pG;rw[qV] at pG;unfold muR;simp only
    cases hk:key l j xO with
    | false=>rw[hk] at pG;exact pG
    | true=>
     rw[hk] at pG;exact⟨InT.keep (HTT.out f j rfl) (fun q hq=>⟨hq.1.1,by rw[hsG];exact hq.1.2⟩) (fun q hq=>hne q hq.2),pG,trivial⟩
end
theorem zWh (s:ByteArray):(s.toList.isEmpty)=isEmp s:=by
 unfold isEmp;rw[Lib.toList_data,Lib.size_eq]
 cases s.data.toList<;>rfl
section
variable {nk lg:ByteArray->Bool}
def numB (x:Nod) (a b:Int):Bool:=decide (a<=x.n)&&decide (x.n<=b)&&isEmp x.a&&isEmp x.m
end
def TelB (b:Bool) (w:World) (e:Ending) (w':World):Prop:=e = .returned (.bool b)/\Up w w'
theorem qD {a b:Bool} {w w':World} (h:a=b) (u:Up w w'):TelB a w (.returned (.bool b)) w':=⟨by rw[h],u⟩
theorem jM (x:Nod) (f:Fr) (a b:Int) (w:World) (v:Value) (hv:HasT w v (some (x,f))) :
  Calls Tryz.prog 101 #[v,.int .i64 a,.int .i64 b] w (TelB (numB x a b) w):=by
 obtain⟨q,p,A,c,rfl,hq,c0,c1,c2,c3,c4,hc,hkid⟩:=InT.open hv;have e1:=zWh x.a;have e2:=zWh x.m;have HB:Hid (numB x a b=(decide (a<=x.n)&&decide (x.n<=b)&&isEmp x.a&&isEmp x.m)):=Lib.hid rfl;rw[HB.out];obtain⟨d1,h1⟩:∃d,decide (a<=x.n)=d:=⟨_,rfl⟩;obtain⟨d2,h2⟩:∃d,decide (x.n<=b)=d:=⟨_,rfl⟩;obtain⟨d3,h3⟩:∃d,isEmp x.a=d:=⟨_,rfl⟩;obtain⟨d4,h4⟩:∃d,isEmp x.m=d:=⟨_,rfl⟩;rw[h1,h2,h3,h4];rw[h3] at e1;rw[h4] at e2;clear hkid hc hq h3 h4 hv HB
 cases d1
 ·have g1:¬a<=x.n:=of_decide_eq_false h1
  go_enter Tryz.func101,Tryz.ntmps101
  go_wp2_with fail
  go_ret
  exact qD rfl (Up.refl _)
 ·have g1:a<=x.n:=of_decide_eq_true h1
  cases d2
  ·have g2:¬x.n<=b:=of_decide_eq_false h2
   go_enter Tryz.func101,Tryz.ntmps101
   go_wp2_with fail
   go_ret
   exact qD rfl (Up.refl _)
  ·have g2:x.n<=b:=of_decide_eq_true h2
   cases d3
   ·go_enter Tryz.func101,Tryz.ntmps101
    go_wp2_with fail
    go_ret
    exact qD rfl (Up.refl _)
   ·cases d4
    all_goals
     go_enter Tryz.func101,Tryz.ntmps101
     go_wp2_with fail
     go_ret
     exact qD rfl (Up.refl _)
theorem zZx (w:World) (a:Addr):(binOp .eql 24 (.pointer (some a)) (.pointer none)).run Tryz.prog w = .ok (.bool false) w:=by
 have h:∀d:Nat,(Op.equalIn (d+1) 24 (.pointer (some a)) (.pointer none)).run Tryz.prog w = .ok false w:=fun d=>by simp[Op.equalIn,run_underlying Tryz.underlying24]
 simp only[binOp]
 simp[Op.equal,Op.maxDepth,h 9999]
section
variable (nk lg:ByteArray->Bool)
end
theorem gP {a b:Bool} {W w':World} (h:b=a) (u:Up W w'):BoP b W (.returned (.bool a)) w':=⟨by rw[h],u⟩
theorem Nx.up {W w:World} (h:B.Nx W) (u:Up W w):B.Nx w:=B.Nx.below h u
def emp5:ByteArray:=⟨#[]⟩
end Go.Proofs.YtgeghilbikljcaaGreatDoor
namespace Go.Proofs.YtgeghilbikljcaaGreatDoor
open Go.RowKit Go.Maps
def kyC (s:ByteArray):Lit:=.string s.data.toList
def kysC (l:List ByteArray):List Lit:=l.map kyC
theorem zNw (l:List ByteArray):∀x∈kysC l,WideAt.IsKeyLit x:=by
 intro x hx;obtain⟨y,_,rfl⟩:=List.mem_map.1 hx;exact trivial
def SxC (l:List ByteArray):DataW Unit:=Maps.setOf (.agg []) (kysC l)
theorem zHh {a b:ByteArray} (h:kyC a=kyC b):a=b:=by
 unfold kyC at h;injection h with h;exact B.vP h
theorem nR (l:List ByteArray) (y:ByteArray):Maps.has (SxC l) (kyC y)=true↔y∈l:=by
 unfold SxC;rw[Maps.has_setOf _ _ _ (zNw l),List.any_eq_true]
 constructor
 ·rintro⟨x,hx,hk⟩
  obtain⟨z,hz,rfl⟩:=List.mem_map.1 hx;rw[<- zHh (WideAt.sameKey_eq hk)];exact hz
 ·intro h
  exact⟨kyC y,List.mem_map.2 ⟨y,h,rfl⟩,WideAt.sameKey_self trivial⟩
theorem zNx (l:List ByteArray) (y:ByteArray):SxC (l++[y])=(SxC l).put (kyC y) (.agg []):=by
 unfold SxC kysC;rw[List.map_append,List.map_cons,List.map_nil,Maps.setOf_snoc]
theorem zUu:Keyed Tryz.prog 9:=string_keyed Tryz.underlying9
theorem zR2 (w:World):(zeroValue 149).run Tryz.prog w = .ok (.agg #[]) w:=by kernel_rfl
theorem zNy {s:ByteArray} (h:s.size<=2000000000):keyOf Tryz.prog 9 (.string s)=some (kyC s):=Go.WideMaps.keyOf_string_mk Tryz.underlying9 (by unfold maxLen;omega)
def StC (w:World) (pb mb:Nat) (l:List ByteArray):Prop:=w.heap[pb]? = some (.cells #[.map (some mb)] 148 (0,0))/\pb≠mb/\w.ownsMap Tryz.prog 9 (unitElem (H:=Unit)) mb l.length (SxC l)
theorem xG {w w':World} {b n:Nat} {D:DataW Unit} (h:w.ownsMap Tryz.prog 9 (unitElem (H:=Unit)) b n D) (hb:Below w.heap.size w w'):w'.ownsMap Tryz.prog 9 (unitElem (H:=Unit)) b n D:=by
 obtain⟨es,clock,h1,h2⟩:=h;exact⟨es,clock,zH h1 hb,h2⟩
theorem StC.below {w w':World} {pb mb:Nat} {l:List ByteArray} (h:StC w pb mb l) (hb:Below w.heap.size w w'):StC w' pb mb l:=⟨zH h.1 hb,h.2.1,xG h.2.2 hb⟩
def hasC (l:List ByteArray) (s:ByteArray):Bool:=Maps.has (SxC l) (kyC s)
theorem lookC {w:World} {mb n:Nat} {l:List ByteArray} {s:ByteArray} (h:w.ownsMap Tryz.prog 9 (unitElem (H:=Unit)) mb n (SxC l)) (hs:s.size<=2000000000) :
  (Instr.lookup 148 (.map (some mb)) (.string s) true).run Tryz.prog w = .ok (.tuple #[.agg #[],.bool (hasC l s)]) w:=by
 obtain⟨v,ps,hrun,hv⟩:=h.look_ok zUu Tryz.underlying148 (zR2 w) unitElem_mk (zNy hs);obtain⟨rfl,_⟩:=unitElem_inv hv;exact hrun
theorem oM {w:World} {mb:Nat} {l:List ByteArray} {s:ByteArray} (h:w.ownsMap Tryz.prog 9 (unitElem (H:=Unit)) mb l.length (SxC l)) (hs:s.size<=2000000000) (hl:l.length<=1000000) :
  ∃w',(Instr.mapUpdate 148 (.map (some mb)) (.string s) (.agg #[])).run Tryz.prog w = .ok () w'/\w'.ownsMap Tryz.prog 9 (unitElem (H:=Unit)) mb (l++[s]).length (SxC (l++[s]))/\w.grownBy w' (some mb):=by
 obtain⟨w',h1,h2,h3⟩:=h.store zUu Tryz.underlying148 (by unfold maxLen;omega) (zNy hs) unitElem_mk;refine⟨w',h1,?_,h3.grown⟩;rw[zNx,List.length_append];exact h2
def kA:Fr->List ByteArray
 | .nil=>[]
 | .cons x _ r=>x.a::kA r
theorem dL:∀(f:Fr) (t:Tr),kA (f.app (fr1 t))=kA f++[t.1.a]
 | .nil,t=>rfl
 | .cons x k r,t=>by show x.a::kA (r.app (fr1 t))=x.a::(kA r++[t.1.a]);rw[dL r t]
theorem dM:∀(f:Fr),(kA f).length=f.len
 | .nil=>rfl
 | .cons x k r=>by show(kA r).length+1=r.len+1;rw[dM r]
theorem dN:∀(f:Fr) (s:ByteArray),hasN f s=true↔s∈kA f
 | .nil,s=>by constructor<;>(intro h;cases h)
 | .cons x k r,s=>by
  show(decide (x.a=s)||hasN r s)=true↔s∈x.a::kA r
  rw[Bool.or_eq_true,List.mem_cons,dN r s,decide_eq_true_iff]
  constructor
  ·rintro(h | h)
   ·exact .inl h.symm
   ·exact .inr h
  ·rintro(h | h)
   ·exact .inl h.symm
   ·exact .inr h
theorem zNz (f:Fr) (s:ByteArray):hasC (kA f) s=hasN f s:=by
 cases h:hasN f s with
 | true=>exact(nR _ _).2 ((dN f s).1 h)
 | false=>
  cases h2:hasC (kA f) s with
  | false=>rfl
  | true=>rw[(dN f s).2 ((nR _ _).1 h2)] at h;cases h
theorem StC.gs {S:Nat->Prop} {w w':World} {pb mb:Nat} {l:List ByteArray} (h:StC w pb mb l) (g:Gs S w w') (h1:¬S pb) (h2:¬S mb):StC w' pb mb l:=by
 obtain⟨a,b,es,clock,c,d⟩:=h;exact⟨g.row a h1,b,es,clock,g.row c h2,d⟩
def conR (s:ByteArray) (RA:Rs Tr):Rs Tr:=match RA with
 | .inr e=>.inr e
 | .inl (t,j)=>.inl (nd 8 s (fr1 t),j)
def coI (l:List Tk) (o:Option ByteArray) (i:Nat) (e:Int):Nat:=neI (nmI o i e) (tkB l (nmI o i e) (nmE o e) kOf)
def coE (l:List Tk) (o:Option ByteArray) (i:Nat) (e:Int):Int:=neE (nmE o e) (tkB l (nmI o i e) (nmE o e) kOf)
theorem dP {w w2:World} {g Bc:Nat} {s:ByteArray} {t:Tr} {A:Option Addr} (hs:w2.heap[Bc]? = some (.cells #[.int .i64 8,.int .i64 0,.string s,.string ⟨#[]⟩,.slice (some ⟨g,0,none⟩) 1 1] 44 (0,0))) (hg:w2.heap[g]? = some (.cells #[.pointer A] 24 (0,0)))
  (h1:w.heap.size<=Bc) (h2:w.heap.size<=g) (ht:NewT w w2 (.pointer A) t):NewT w w2 (.pointer (some ⟨Bc,0,none⟩)) (nd 8 s (fr1 t)):=by
 exact zR (x:=⟨8,0,s,nob⟩) (f:=fr1 t) hs rfl (Nat.le_refl _) ⟨h1,qC hs⟩ ⟨h2,qC hg⟩ ⟨⟨_,cell_of_row w2 g 0 _ _ _ hg,ht⟩,trivial⟩
theorem zWi (o:Option ByteArray) (i:Nat) (e:Int):nmI o i e<=i+1:=by
 unfold nmI
 split
 ·cases o<;>simp
 ·omega
section
variable {nk lg:ByteArray->Bool}
theorem zZy {V0:World} {l:List Tk} (b:Nat) (v:Value) (i:Nat) (e:Int) (B1 pb mb:Nat) (names:List ByteArray) (w:World) (T:Toks nk lg V0 v l) (h:Psr w b v i e) (hu:Up V0 w) (hbW:V0.heap.size<=b) (hmW:V0.heap.size<=mb) (hi:i<=500000) (hN:names.length<=200000)
  (hB1:w.heap[B1]? = some (.cells #[.pointer (some ⟨b,0,none⟩)] 129 (0,0))) (hst:StC w pb mb names) (n1:B1≠b) (n2:B1≠mb) (n3:pb≠b) (n4:mb≠b) (hL:Calls Tryz.prog 116 #[.pointer (some ⟨b,0,none⟩),.func (.func 75) #[] #[]] w (AnP (.string (nob)) false w)) (hN:∀w',Up V0 w'->Psr w' b v i e->Calls Tryz.prog 44 #[.pointer (some ⟨b,0,none⟩),.func (.func 75) #[] #[]] w' (NmP b v (nmS none e) (nmI none i e) (nmE none e) w')) (hos:(nob).size<=2000000000) (htw:True)
  (RA:Rs Tr) (cA:∀w',Gs (Two b mb) w w'->Psr w' b v (coI l none i e) (coE l none i e)->Calls Tryz.prog 124 #[.agg #[.pointer (some ⟨b,0,none⟩)]] w' (PaT (On b) b v RA (fun _ _=>True) w')) :
  Calls Tryz.prog 192 #[.pointer (some ⟨B1,0,none⟩),.pointer (some ⟨pb,0,none⟩)] w (PaT (Two b mb) b v (conR (nmS none e) RA) (fun _ w'=>StC w' pb mb (names++[nob])) w):=by
 obtain⟨d0,d1,d2,f1,f2⟩:=h.cells;have hb:b<w.heap.size:=qC h;have hb1w:=qC hB1;have hpbw:=qC hst.1;have hmbw:mb<w.heap.size:=by obtain⟨es,clock,c,d⟩:=hst.2.2;exact qC c
 have cB1:w.cell? ⟨B1,0,none⟩=some (.pointer (some ⟨b,0,none⟩)):=cell_of_row w B1 0 _ _ _ hB1;have H:=Lib.hid h;have HU:=Lib.hid hu;have HT:=Lib.hid T;have HST:=Lib.hid hst;have HB1:=Lib.hid hB1;have HCA:=Lib.hid cA;have HNN:=Lib.hid hN;have HTW:=Lib.hid htw;clear h hu T hst hB1 cA d0 d1 d2 f1 f2 hN htw
 go_enter Tryz.func192,Tryz.ntmps192
 go_wp2_with fail;refine hL.mono ?_;rintro en w9 ⟨rfl,u9⟩;have kp:w9.cell? ⟨pb,0,none⟩=some (.map (some mb)):=cell_of_row w9 pb 0 _ _ _ ((HST.out.below u9).1);obtain⟨tw,hteq⟩:∃tw,hasC names (nob)=tw:=⟨_,rfl⟩;have hl9:(Instr.lookup 148 (.map (some mb)) (.string (nob)) true).run Tryz.prog w9 = .ok (.tuple #[.agg #[],.bool tw]) w9:=by rw[<- hteq];exact lookC (HST.out.below u9).2.2 hos
 obtain⟨W2,hW2⟩:∃W2,w9.alloc (.cells #[] 149)=W2:=⟨_,rfl⟩;have u2:Up w W2:=by rw[<- hW2];exact u9.alloc _
 have U2:=Lib.hid u2;have HW2:=Lib.hid hW2;have HTE:=Lib.hid hteq;have hz9:=u9.size;have hpb9:pb<w9.heap.size:=by omega
 have hb19:B1<w9.heap.size:=by omega
 have k19:w9.cell? ⟨B1,0,none⟩=some (.pointer (some ⟨b,0,none⟩)):=cell_of_row w9 B1 0 _ _ _ (u9.row HB1.out);clear u9 cB1 hL hW2 u2 hteq;have g4:Gs (Two b mb) w W2:=Gs.of U2.out;have p4:Psr W2 b v i e:=H.out.up U2.out;have st4:StC W2 pb mb names:=HST.out.below U2.out;obtain⟨w4,hw4⟩:∃w4,W2=w4:=⟨_,rfl⟩;rw[hw4] at g4 p4 st4;have hz4:=g4.size;have r14:w4.heap[B1]? = some (.cells #[.pointer (some ⟨b,0,none⟩)] 129 (0,0)):=g4.row HB1.out (by rintro(h | h);exact n1 h;exact n2 h);obtain⟨w5,hup,hown,hg5⟩:=oM (w:=w4) (s:=nob) st4.2.2 hos (by omega);have st5:StC w5 pb mb (names++[nob]):=⟨yT hg5 st4.1 st4.2.1,st4.2.1,hown⟩;have g5:Gs (Two b mb) w w5:=g4.grown hg5 fun g e=>.inl (.inr (by injection e with e;exact e.symm))
 have p5:Psr w5 b v i e:=yT hg5 p4 (fun e=>n4 e.symm);have r15:=yT hg5 r14 n2;have kp4:w4.cell? ⟨pb,0,none⟩=some (.map (some mb)):=cell_of_row w4 pb 0 _ _ _ st4.1;have k15:w5.cell? ⟨B1,0,none⟩=some (.pointer (some ⟨b,0,none⟩)):=cell_of_row w5 B1 0 _ _ _ r15;have hsW:∀q,Two b mb q->V0.heap.size<=q:=fun q hq=>by rcases hq with hq | hq<;>omega
 have u5:Up V0 w5:=g5.up HU.out hsW;have cN:=HNN.out w5 u5 p5;have ST5:=Lib.hid st5;have G5:=Lib.hid g5;have R15:=Lib.hid r15;have HSW:=Lib.hid hsW;clear st4 g4 p4 r14 hown hg5 st5 g5 p5 r15 u5 hsW;rw[<- hw4,<- HW2.out] at hup kp4;go_wp2_with fail;refine cN.mono ?_;rintro en w6 ⟨rfl,g6,p6⟩;have g66:Gs (Two b mb) w w6:=G5.out.trans g6.two;have u6:Up V0 w6:=g66.up HU.out HSW.out;have r16:=g6.row R15.out (by intro h;exact n1 h);have st6:=ST5.out.gs g6 (by intro h;exact n3 h) (by intro h;exact n4 h);obtain⟨s,hs⟩:∃s,nmS none e=s:=⟨_,rfl⟩;have HS:=Lib.hid hs;rw[hs];obtain⟨W7,hW7⟩:∃W7,w6.alloc (.cells #[.int .i64 8,.int .i64 0,.string s,.string ⟨#[]⟩,.slice none 0 0] 44)=W7:=⟨_,rfl⟩;have u7:Up w6 W7:=by rw[<- hW7];exact(Up.refl w6).alloc _
 have nb7:W7.heap[w6.heap.size]? = some (.cells #[.int .i64 8,.int .i64 0,.string s,.string ⟨#[]⟩,.slice none 0 0] 44 (0,0)):=by rw[<- hW7];exact heap_alloc_new w6 _
 have k16:w6.cell? ⟨B1,0,none⟩=some (.pointer (some ⟨b,0,none⟩)):=cell_of_row w6 B1 0 _ _ _ r16;have hb16:=qC r16;have cF:=yG b v (nmI none i e) (nmE none e) kOf W7 HT.out (p6.up u7) (u6.trans u7) (by have:=zWi none i e;omega);have G7:=Lib.hid (g66.trans (Gs.of u7));have R17:=Lib.hid (u7.row r16);have ST7:=Lib.hid (st6.below u7);have NB7:=Lib.hid nb7;have HW7:=Lib.hid hW7;have hz6:=g66.size;clear hs g6 p6 g66 u6 r16 st6 u7 nb7 hW7 k15 cN;go_wp2_with fail;rw[HW7.out];refine cF.mono ?_;rintro en w8 ⟨⟨u,rfl⟩,g8,p8⟩;have g88:Gs (Two b mb) w w8:=G7.out.trans g8.two;have r18:=g8.row R17.out (by intro h;exact n1 h);have st8:=ST7.out.gs g8 (by intro h;exact n3 h) (by intro h;exact n4 h);have nb8:=g8.row NB7.out (by unfold On;omega);have k18:w8.cell? ⟨B1,0,none⟩=some (.pointer (some ⟨b,0,none⟩)):=cell_of_row w8 B1 0 _ _ _ r18;have cArr:=HCA.out w8 g88 p8;have hz8:=g88.size;have hc8:=qC nb8;have G8:=Lib.hid g88;have ST8:=Lib.hid st8;have NB8:=Lib.hid nb8;clear g8 g88 r18 st8 nb8 p8 cF k16;go_wp2_with fail;refine cArr.mono ?_;rintro en wA ⟨A,rfl,gA,hRA⟩;have gAA:Gs (Two b mb) w wA:=G8.out.trans gA.two;have nbA:=gA.row NB8.out (by unfold On;omega);have stA:=ST8.out.gs gA (by intro h;exact n3 h) (by intro h;exact n4 h);have c4:wA.cell? ⟨w6.heap.size,4,none⟩=some (.slice none 0 0):=cell_of_row wA _ 4 _ _ _ nbA;have f4:=frozen_of_row wA w6.heap.size 4 _ _ nbA
 have hcA:=qC nbA;have hzA:=gA.size;have GA:=Lib.hid gAA;have STA:=Lib.hid stA;have NBA:=Lib.hid nbA;have HRA:=Lib.hid hRA;clear gA gAA nbA stA hRA cArr;go_wp2_with fail
 go_ret
 rw[HS.out];have g10:Gs (On w6.heap.size) wA ((wA.setCell ⟨w6.heap.size,4,none⟩ (.slice (some ⟨wA.heap.size,0,none⟩) 1 1)).alloc (.cells #[.pointer A] 24)):=((Gs.refl (On w6.heap.size) wA).set ⟨w6.heap.size,4,none⟩ _ (.inl rfl)).alloc _;obtain⟨Ws,hWs⟩:∃Ws,wA.setCell ⟨w6.heap.size,4,none⟩ (.slice (some ⟨wA.heap.size,0,none⟩) 1 1)=Ws:=⟨_,rfl⟩;have zs:Ws.heap.size=wA.heap.size:=by rw[<- hWs];simp[World.setCell]
 have ns:Ws.heap[w6.heap.size]? = some (.cells #[.int .i64 8,.int .i64 0,.string s,.string ⟨#[]⟩,.slice (some ⟨wA.heap.size,0,none⟩) 1 1] 44 (0,0)):=by rw[<- hWs];exact Nb.store (x:=⟨8,0,s,nob⟩) NBA.out _
 rw[hWs] at g10 ⊢;obtain⟨WF,hWF⟩:∃WF,Ws.alloc (.cells #[.pointer A] 24)=WF:=⟨_,rfl⟩;have uF:Up Ws WF:=by rw[<- hWF];exact(Up.refl _).alloc _
 have gN:WF.heap[wA.heap.size]? = some (.cells #[.pointer A] 24 (0,0)):=by rw[<- hWF,<- zs];exact heap_alloc_new Ws _
 rw[hWF] at g10 ⊢;have gF:Gs (Two b mb) w WF:=⟨g10.os.trans GA.out.os,g10.tape.trans GA.out.tape,g10.output.trans GA.out.output,Nat.le_trans GA.out.size g10.size,fun k hk hn=>(g10.block k (Nat.lt_of_lt_of_le hk GA.out.size) (by unfold On;omega)).trans (GA.out.block k hk hn)⟩;have hra:=HRA.out;refine⟨_,rfl,gF,?_⟩
 cases RA with
 | inr e2=>
  obtain⟨p,r⟩:=e2;exact g10.row hra (by unfold On;omega)
 | inl e2=>
  obtain⟨t,j⟩:=e2;obtain⟨ht,hp,-⟩:=hra;refine⟨?_,g10.row hp (by unfold On;omega),STA.out.gs g10 (by unfold On;omega) (by unfold On;omega)⟩;refine dP (uF.row ns) gN hz6 (by omega) (InT.keep ht (fun q hq=>⟨?_,?_⟩) fun q hq=>?_)
  ·have:=hq.1;omega
  ·have:=hq.2;have:=g10.size;omega
  ·have h1:=hq.1
   exact g10.block q hq.2 (by unfold On;omega)
theorem zUv {V0:World} {l:List Tk} (b:Nat) (v:Value) (i:Nat) (e:Int) (B1 pb mb:Nat) (names:List ByteArray) (w:World) (T:Toks nk lg V0 v l) (h:Psr w b v i e) (hu:Up V0 w) (hbW:V0.heap.size<=b) (hmW:V0.heap.size<=mb) (hi:i<=500000) (hN:names.length<=200000)
  (hB1:w.heap[B1]? = some (.cells #[.pointer (some ⟨b,0,none⟩)] 129 (0,0))) (hst:StC w pb mb names) (n1:B1≠b) (n2:B1≠mb) (n3:pb≠b) (n4:mb≠b) (s0:ByteArray) (hL:Calls Tryz.prog 116 #[.pointer (some ⟨b,0,none⟩),.func (.func 75) #[] #[]] w (AnP (.string (s0)) true w)) (hN:∀w',Up V0 w'->Psr w' b v i e->Calls Tryz.prog 44 #[.pointer (some ⟨b,0,none⟩),.func (.func 75) #[] #[]] w' (NmP b v (nmS (some s0) e) (nmI (some s0) i e) (nmE (some s0) e) w')) (hos:(s0).size<=2000000000) (htw:hasC names s0=false)
  (RA:Rs Tr) (cA:∀w',Gs (Two b mb) w w'->Psr w' b v (coI l (some s0) i e) (coE l (some s0) i e)->Calls Tryz.prog 124 #[.agg #[.pointer (some ⟨b,0,none⟩)]] w' (PaT (On b) b v RA (fun _ _=>True) w')) :
  Calls Tryz.prog 192 #[.pointer (some ⟨B1,0,none⟩),.pointer (some ⟨pb,0,none⟩)] w (PaT (Two b mb) b v (conR (nmS (some s0) e) RA) (fun _ w'=>StC w' pb mb (names++[s0])) w):=by
 obtain⟨d0,d1,d2,f1,f2⟩:=h.cells;have hb:b<w.heap.size:=qC h;have hb1w:=qC hB1;have hpbw:=qC hst.1;have hmbw:mb<w.heap.size:=by obtain⟨es,clock,c,d⟩:=hst.2.2;exact qC c
 have cB1:w.cell? ⟨B1,0,none⟩=some (.pointer (some ⟨b,0,none⟩)):=cell_of_row w B1 0 _ _ _ hB1;have H:=Lib.hid h;have HU:=Lib.hid hu;have HT:=Lib.hid T;have HST:=Lib.hid hst;have HB1:=Lib.hid hB1;have HCA:=Lib.hid cA;have HNN:=Lib.hid hN;have HTW:=Lib.hid htw;clear h hu T hst hB1 cA d0 d1 d2 f1 f2 hN htw
 go_enter Tryz.func192,Tryz.ntmps192
 go_wp2_with fail;refine hL.mono ?_;rintro en w9 ⟨rfl,u9⟩;have kp:w9.cell? ⟨pb,0,none⟩=some (.map (some mb)):=cell_of_row w9 pb 0 _ _ _ ((HST.out.below u9).1);obtain⟨tw,hteq⟩:∃tw,hasC names (s0)=tw:=⟨_,rfl⟩;have hl9:(Instr.lookup 148 (.map (some mb)) (.string (s0)) true).run Tryz.prog w9 = .ok (.tuple #[.agg #[],.bool tw]) w9:=by rw[<- hteq];exact lookC (HST.out.below u9).2.2 hos
 obtain⟨W2,hW2⟩:∃W2,w9.alloc (.cells #[] 149)=W2:=⟨_,rfl⟩;have u2:Up w W2:=by rw[<- hW2];exact u9.alloc _
 have U2:=Lib.hid u2;have HW2:=Lib.hid hW2;have HTE:=Lib.hid hteq;have hz9:=u9.size;have hpb9:pb<w9.heap.size:=by omega
 have hb19:B1<w9.heap.size:=by omega
 have k19:w9.cell? ⟨B1,0,none⟩=some (.pointer (some ⟨b,0,none⟩)):=cell_of_row w9 B1 0 _ _ _ (u9.row HB1.out);clear u9 cB1 hL hW2 u2 hteq;have HTT:=HTE.out;rw[HTW.out] at HTT;subst HTT;have g4:Gs (Two b mb) w W2:=Gs.of U2.out;have p4:Psr W2 b v i e:=H.out.up U2.out;have st4:StC W2 pb mb names:=HST.out.below U2.out;obtain⟨w4,hw4⟩:∃w4,W2=w4:=⟨_,rfl⟩;rw[hw4] at g4 p4 st4;have hz4:=g4.size;have r14:w4.heap[B1]? = some (.cells #[.pointer (some ⟨b,0,none⟩)] 129 (0,0)):=g4.row HB1.out (by rintro(h | h);exact n1 h;exact n2 h);obtain⟨w5,hup,hown,hg5⟩:=oM (w:=w4) (s:=s0) st4.2.2 hos (by omega);have st5:StC w5 pb mb (names++[s0]):=⟨yT hg5 st4.1 st4.2.1,st4.2.1,hown⟩;have g5:Gs (Two b mb) w w5:=g4.grown hg5 fun g e=>.inl (.inr (by injection e with e;exact e.symm))
 have p5:Psr w5 b v i e:=yT hg5 p4 (fun e=>n4 e.symm);have r15:=yT hg5 r14 n2;have kp4:w4.cell? ⟨pb,0,none⟩=some (.map (some mb)):=cell_of_row w4 pb 0 _ _ _ st4.1;have k15:w5.cell? ⟨B1,0,none⟩=some (.pointer (some ⟨b,0,none⟩)):=cell_of_row w5 B1 0 _ _ _ r15;have hsW:∀q,Two b mb q->V0.heap.size<=q:=fun q hq=>by rcases hq with hq | hq<;>omega
 have u5:Up V0 w5:=g5.up HU.out hsW;have cN:=HNN.out w5 u5 p5;have ST5:=Lib.hid st5;have G5:=Lib.hid g5;have R15:=Lib.hid r15;have HSW:=Lib.hid hsW;clear st4 g4 p4 r14 hown hg5 st5 g5 p5 r15 u5 hsW;rw[<- hw4,<- HW2.out] at hup kp4;go_wp2_with fail;refine cN.mono ?_;rintro en w6 ⟨rfl,g6,p6⟩;have g66:Gs (Two b mb) w w6:=G5.out.trans g6.two;have u6:Up V0 w6:=g66.up HU.out HSW.out;have r16:=g6.row R15.out (by intro h;exact n1 h);have st6:=ST5.out.gs g6 (by intro h;exact n3 h) (by intro h;exact n4 h);obtain⟨s,hs⟩:∃s,nmS (some s0) e=s:=⟨_,rfl⟩;have HS:=Lib.hid hs;rw[hs];obtain⟨W7,hW7⟩:∃W7,w6.alloc (.cells #[.int .i64 8,.int .i64 0,.string s,.string ⟨#[]⟩,.slice none 0 0] 44)=W7:=⟨_,rfl⟩;have u7:Up w6 W7:=by rw[<- hW7];exact(Up.refl w6).alloc _
 have nb7:W7.heap[w6.heap.size]? = some (.cells #[.int .i64 8,.int .i64 0,.string s,.string ⟨#[]⟩,.slice none 0 0] 44 (0,0)):=by rw[<- hW7];exact heap_alloc_new w6 _
 have k16:w6.cell? ⟨B1,0,none⟩=some (.pointer (some ⟨b,0,none⟩)):=cell_of_row w6 B1 0 _ _ _ r16;have hb16:=qC r16;have cF:=yG b v (nmI (some s0) i e) (nmE (some s0) e) kOf W7 HT.out (p6.up u7) (u6.trans u7) (by have:=zWi (some s0) i e;omega);have G7:=Lib.hid (g66.trans (Gs.of u7));have R17:=Lib.hid (u7.row r16);have ST7:=Lib.hid (st6.below u7);have NB7:=Lib.hid nb7;have HW7:=Lib.hid hW7;have hz6:=g66.size;clear hs g6 p6 g66 u6 r16 st6 u7 nb7 hW7 k15 cN;go_wp2_with fail;rw[HW7.out];refine cF.mono ?_;rintro en w8 ⟨⟨u,rfl⟩,g8,p8⟩;have g88:Gs (Two b mb) w w8:=G7.out.trans g8.two;have r18:=g8.row R17.out (by intro h;exact n1 h);have st8:=ST7.out.gs g8 (by intro h;exact n3 h) (by intro h;exact n4 h);have nb8:=g8.row NB7.out (by unfold On;omega);have k18:w8.cell? ⟨B1,0,none⟩=some (.pointer (some ⟨b,0,none⟩)):=cell_of_row w8 B1 0 _ _ _ r18;have cArr:=HCA.out w8 g88 p8;have hz8:=g88.size;have hc8:=qC nb8;have G8:=Lib.hid g88;have ST8:=Lib.hid st8;have NB8:=Lib.hid nb8;clear g8 g88 r18 st8 nb8 p8 cF k16;go_wp2_with fail;refine cArr.mono ?_;rintro en wA ⟨A,rfl,gA,hRA⟩;have gAA:Gs (Two b mb) w wA:=G8.out.trans gA.two;have nbA:=gA.row NB8.out (by unfold On;omega);have stA:=ST8.out.gs gA (by intro h;exact n3 h) (by intro h;exact n4 h);have c4:wA.cell? ⟨w6.heap.size,4,none⟩=some (.slice none 0 0):=cell_of_row wA _ 4 _ _ _ nbA
 have f4:=frozen_of_row wA w6.heap.size 4 _ _ nbA;have hcA:=qC nbA;have hzA:=gA.size;have GA:=Lib.hid gAA;have STA:=Lib.hid stA;have NBA:=Lib.hid nbA;have HRA:=Lib.hid hRA;clear gA gAA nbA stA hRA cArr;go_wp2_with fail
 go_ret
 rw[HS.out];have g10:Gs (On w6.heap.size) wA ((wA.setCell ⟨w6.heap.size,4,none⟩ (.slice (some ⟨wA.heap.size,0,none⟩) 1 1)).alloc (.cells #[.pointer A] 24)):=((Gs.refl (On w6.heap.size) wA).set ⟨w6.heap.size,4,none⟩ _ (.inl rfl)).alloc _;obtain⟨Ws,hWs⟩:∃Ws,wA.setCell ⟨w6.heap.size,4,none⟩ (.slice (some ⟨wA.heap.size,0,none⟩) 1 1)=Ws:=⟨_,rfl⟩;have zs:Ws.heap.size=wA.heap.size:=by rw[<- hWs];simp[World.setCell]
 have ns:Ws.heap[w6.heap.size]? = some (.cells #[.int .i64 8,.int .i64 0,.string s,.string ⟨#[]⟩,.slice (some ⟨wA.heap.size,0,none⟩) 1 1] 44 (0,0)):=by rw[<- hWs];exact Nb.store (x:=⟨8,0,s,nob⟩) NBA.out _
 rw[hWs] at g10 ⊢;obtain⟨WF,hWF⟩:∃WF,Ws.alloc (.cells #[.pointer A] 24)=WF:=⟨_,rfl⟩;have uF:Up Ws WF:=by rw[<- hWF];exact(Up.refl _).alloc _
 have gN:WF.heap[wA.heap.size]? = some (.cells #[.pointer A] 24 (0,0)):=by rw[<- hWF,<- zs];exact heap_alloc_new Ws _
 rw[hWF] at g10 ⊢;have gF:Gs (Two b mb) w WF:=⟨g10.os.trans GA.out.os,g10.tape.trans GA.out.tape,g10.output.trans GA.out.output,Nat.le_trans GA.out.size g10.size,fun k hk hn=>(g10.block k (Nat.lt_of_lt_of_le hk GA.out.size) (by unfold On;omega)).trans (GA.out.block k hk hn)⟩;have hra:=HRA.out;refine⟨_,rfl,gF,?_⟩
 cases RA with
 | inr e2=>
  obtain⟨p,r⟩:=e2;exact g10.row hra (by unfold On;omega)
 | inl e2=>
  obtain⟨t,j⟩:=e2;obtain⟨ht,hp,-⟩:=hra;refine⟨?_,g10.row hp (by unfold On;omega),STA.out.gs g10 (by unfold On;omega) (by unfold On;omega)⟩;refine dP (uF.row ns) gN hz6 (by omega) (InT.keep ht (fun q hq=>⟨?_,?_⟩) fun q hq=>?_)
  ·have:=hq.1;omega
  ·have:=hq.2;have:=g10.size;omega
  ·have h1:=hq.1
   exact g10.block q hq.2 (by unfold On;omega)
theorem zHi {V0:World} {l:List Tk} (b:Nat) (v:Value) (i:Nat) (e:Int) (B1 pb mb:Nat) (names:List ByteArray) (w:World) (T:Toks nk lg V0 v l) (h:Psr w b v i e) (hu:Up V0 w) (hbW:V0.heap.size<=b) (hmW:V0.heap.size<=mb) (hi:i<=500000) (hN:names.length<=200000)
  (hB1:w.heap[B1]? = some (.cells #[.pointer (some ⟨b,0,none⟩)] 129 (0,0))) (hst:StC w pb mb names) (n1:B1≠b) (n2:B1≠mb) (n3:pb≠b) (n4:mb≠b) (s0:ByteArray) (e1:Int) (he1:(if e=0 then 9 else e)=e1) (hL:Calls Tryz.prog 116 #[.pointer (some ⟨b,0,none⟩),.func (.func 75) #[] #[]] w (AnP (.string (s0)) true w)) (hN:∀w',Up V0 w'->Psr w' b v i e1->Calls Tryz.prog 44 #[.pointer (some ⟨b,0,none⟩),.func (.func 75) #[] #[]] w' (NmP b v (nmS (some s0) e1) (nmI (some s0) i e1) (nmE (some s0) e1) w')) (hos:(s0).size<=2000000000) (htw:hasC names s0=true)
  (RA:Rs Tr) (cA:∀w',Gs (Two b mb) w w'->Psr w' b v (coI l (some s0) i e1) (coE l (some s0) i e1)->Calls Tryz.prog 124 #[.agg #[.pointer (some ⟨b,0,none⟩)]] w' (PaT (On b) b v RA (fun _ _=>True) w')) :
  Calls Tryz.prog 192 #[.pointer (some ⟨B1,0,none⟩),.pointer (some ⟨pb,0,none⟩)] w (PaT (Two b mb) b v (conR (nmS (some s0) e1) RA) (fun _ w'=>StC w' pb mb (names++[s0])) w):=by
 obtain⟨d0,d1,d2,f1,f2⟩:=h.cells;have hb:b<w.heap.size:=qC h;have hb1w:=qC hB1;have hpbw:=qC hst.1;have hmbw:mb<w.heap.size:=by obtain⟨es,clock,c,d⟩:=hst.2.2;exact qC c
 have cB1:w.cell? ⟨B1,0,none⟩=some (.pointer (some ⟨b,0,none⟩)):=cell_of_row w B1 0 _ _ _ hB1;have H:=Lib.hid h;have HU:=Lib.hid hu;have HT:=Lib.hid T;have HST:=Lib.hid hst;have HB1:=Lib.hid hB1;have HCA:=Lib.hid cA;have HNN:=Lib.hid hN;have HTW:=Lib.hid htw;clear h hu T hst hB1 cA d0 d1 d2 f1 f2 hN htw
 go_enter Tryz.func192,Tryz.ntmps192
 go_wp2_with fail;refine hL.mono ?_;rintro en w9 ⟨rfl,u9⟩;have kp:w9.cell? ⟨pb,0,none⟩=some (.map (some mb)):=cell_of_row w9 pb 0 _ _ _ ((HST.out.below u9).1);obtain⟨tw,hteq⟩:∃tw,hasC names (s0)=tw:=⟨_,rfl⟩;have hl9:(Instr.lookup 148 (.map (some mb)) (.string (s0)) true).run Tryz.prog w9 = .ok (.tuple #[.agg #[],.bool tw]) w9:=by rw[<- hteq];exact lookC (HST.out.below u9).2.2 hos
 obtain⟨W2,hW2⟩:∃W2,w9.alloc (.cells #[] 149)=W2:=⟨_,rfl⟩;have u2:Up w W2:=by rw[<- hW2];exact u9.alloc _
 have U2:=Lib.hid u2;have HW2:=Lib.hid hW2;have HTE:=Lib.hid hteq;have hz9:=u9.size;have hpb9:pb<w9.heap.size:=by omega
 have hb19:B1<w9.heap.size:=by omega
 have k19:w9.cell? ⟨B1,0,none⟩=some (.pointer (some ⟨b,0,none⟩)):=cell_of_row w9 B1 0 _ _ _ (u9.row HB1.out);clear u9 cB1 hL hW2 u2 hteq;have HTT:=HTE.out;rw[HTW.out] at HTT;subst HTT;have p2:Psr W2 b v i e:=H.out.up U2.out;have k12:(w9.alloc (.cells #[] 149)).cell? ⟨B1,0,none⟩=some (.pointer (some ⟨b,0,none⟩)):=by rw[HW2.out];exact cell_of_row W2 B1 0 _ _ _ (U2.out.row HB1.out)
 have cFl:=fQ b v i e 9 W2 p2;rw[he1] at cFl;clear p2 he1;go_wp2_with fail;rw[HW2.out];refine cFl.mono ?_;rintro en w4 ⟨⟨u,rfl⟩,g42,p4⟩;have g4:Gs (Two b mb) w w4:=(Gs.of U2.out).trans g42.two;have st4:StC w4 pb mb names:=(HST.out.below U2.out).gs g42 (by intro h;exact n3 h) (by intro h;exact n4 h);clear g42 cFl hl9 kp k19 k12;have hz4:=g4.size;have r14:w4.heap[B1]? = some (.cells #[.pointer (some ⟨b,0,none⟩)] 129 (0,0)):=g4.row HB1.out (by rintro(h | h);exact n1 h;exact n2 h);obtain⟨w5,hup,hown,hg5⟩:=oM (w:=w4) (s:=s0) st4.2.2 hos (by omega);have st5:StC w5 pb mb (names++[s0]):=⟨yT hg5 st4.1 st4.2.1,st4.2.1,hown⟩;have g5:Gs (Two b mb) w w5:=g4.grown hg5 fun g e=>.inl (.inr (by injection e with e;exact e.symm))
 have p5:Psr w5 b v i e1:=yT hg5 p4 (fun e=>n4 e.symm);have r15:=yT hg5 r14 n2;have kp4:w4.cell? ⟨pb,0,none⟩=some (.map (some mb)):=cell_of_row w4 pb 0 _ _ _ st4.1;have k15:w5.cell? ⟨B1,0,none⟩=some (.pointer (some ⟨b,0,none⟩)):=cell_of_row w5 B1 0 _ _ _ r15;have hsW:∀q,Two b mb q->V0.heap.size<=q:=fun q hq=>by rcases hq with hq | hq<;>omega
 have u5:Up V0 w5:=g5.up HU.out hsW;have cN:=HNN.out w5 u5 p5;have ST5:=Lib.hid st5;have G5:=Lib.hid g5;have R15:=Lib.hid r15;have HSW:=Lib.hid hsW;clear st4 g4 p4 r14 hown hg5 st5 g5 p5 r15 u5 hsW;go_wp2_with fail;refine cN.mono ?_;rintro en w6 ⟨rfl,g6,p6⟩;have g66:Gs (Two b mb) w w6:=G5.out.trans g6.two;have u6:Up V0 w6:=g66.up HU.out HSW.out;have r16:=g6.row R15.out (by intro h;exact n1 h);have st6:=ST5.out.gs g6 (by intro h;exact n3 h) (by intro h;exact n4 h);obtain⟨s,hs⟩:∃s,nmS (some s0) e1=s:=⟨_,rfl⟩;have HS:=Lib.hid hs;rw[hs];obtain⟨W7,hW7⟩:∃W7,w6.alloc (.cells #[.int .i64 8,.int .i64 0,.string s,.string ⟨#[]⟩,.slice none 0 0] 44)=W7:=⟨_,rfl⟩;have u7:Up w6 W7:=by rw[<- hW7];exact(Up.refl w6).alloc _
 have nb7:W7.heap[w6.heap.size]? = some (.cells #[.int .i64 8,.int .i64 0,.string s,.string ⟨#[]⟩,.slice none 0 0] 44 (0,0)):=by rw[<- hW7];exact heap_alloc_new w6 _
 have k16:w6.cell? ⟨B1,0,none⟩=some (.pointer (some ⟨b,0,none⟩)):=cell_of_row w6 B1 0 _ _ _ r16;have hb16:=qC r16;have cF:=yG b v (nmI (some s0) i e1) (nmE (some s0) e1) kOf W7 HT.out (p6.up u7) (u6.trans u7) (by have:=zWi (some s0) i e1;omega);have G7:=Lib.hid (g66.trans (Gs.of u7));have R17:=Lib.hid (u7.row r16);have ST7:=Lib.hid (st6.below u7);have NB7:=Lib.hid nb7;have HW7:=Lib.hid hW7;have hz6:=g66.size;clear hs g6 p6 g66 u6 r16 st6 u7 nb7 hW7 k15 cN;go_wp2_with fail;rw[HW7.out];refine cF.mono ?_;rintro en w8 ⟨⟨u,rfl⟩,g8,p8⟩;have g88:Gs (Two b mb) w w8:=G7.out.trans g8.two;have r18:=g8.row R17.out (by intro h;exact n1 h);have st8:=ST7.out.gs g8 (by intro h;exact n3 h) (by intro h;exact n4 h);have nb8:=g8.row NB7.out (by unfold On;omega);have k18:w8.cell? ⟨B1,0,none⟩=some (.pointer (some ⟨b,0,none⟩)):=cell_of_row w8 B1 0 _ _ _ r18;have cArr:=HCA.out w8 g88 p8;have hz8:=g88.size;have hc8:=qC nb8;have G8:=Lib.hid g88;have ST8:=Lib.hid st8;have NB8:=Lib.hid nb8;clear g8 g88 r18 st8 nb8 p8 cF k16;go_wp2_with fail;refine cArr.mono ?_;rintro en wA ⟨A,rfl,gA,hRA⟩;have gAA:Gs (Two b mb) w wA:=G8.out.trans gA.two;have nbA:=gA.row NB8.out (by unfold On;omega);have stA:=ST8.out.gs gA (by intro h;exact n3 h) (by intro h;exact n4 h);have c4:wA.cell? ⟨w6.heap.size,4,none⟩=some (.slice none 0 0):=cell_of_row wA _ 4 _ _ _ nbA
 have f4:=frozen_of_row wA w6.heap.size 4 _ _ nbA;have hcA:=qC nbA;have hzA:=gA.size;have GA:=Lib.hid gAA;have STA:=Lib.hid stA;have NBA:=Lib.hid nbA;have HRA:=Lib.hid hRA;clear gA gAA nbA stA hRA cArr;go_wp2_with fail
 go_ret
 rw[HS.out];have g10:Gs (On w6.heap.size) wA ((wA.setCell ⟨w6.heap.size,4,none⟩ (.slice (some ⟨wA.heap.size,0,none⟩) 1 1)).alloc (.cells #[.pointer A] 24)):=((Gs.refl (On w6.heap.size) wA).set ⟨w6.heap.size,4,none⟩ _ (.inl rfl)).alloc _;obtain⟨Ws,hWs⟩:∃Ws,wA.setCell ⟨w6.heap.size,4,none⟩ (.slice (some ⟨wA.heap.size,0,none⟩) 1 1)=Ws:=⟨_,rfl⟩;have zs:Ws.heap.size=wA.heap.size:=by rw[<- hWs];simp[World.setCell]
 have ns:Ws.heap[w6.heap.size]? = some (.cells #[.int .i64 8,.int .i64 0,.string s,.string ⟨#[]⟩,.slice (some ⟨wA.heap.size,0,none⟩) 1 1] 44 (0,0)):=by rw[<- hWs];exact Nb.store (x:=⟨8,0,s,nob⟩) NBA.out _
 rw[hWs] at g10 ⊢;obtain⟨WF,hWF⟩:∃WF,Ws.alloc (.cells #[.pointer A] 24)=WF:=⟨_,rfl⟩;have uF:Up Ws WF:=by rw[<- hWF];exact(Up.refl _).alloc _
 have gN:WF.heap[wA.heap.size]? = some (.cells #[.pointer A] 24 (0,0)):=by rw[<- hWF,<- zs];exact heap_alloc_new Ws _
 rw[hWF] at g10 ⊢;have gF:Gs (Two b mb) w WF:=⟨g10.os.trans GA.out.os,g10.tape.trans GA.out.tape,g10.output.trans GA.out.output,Nat.le_trans GA.out.size g10.size,fun k hk hn=>(g10.block k (Nat.lt_of_lt_of_le hk GA.out.size) (by unfold On;omega)).trans (GA.out.block k hk hn)⟩;have hra:=HRA.out;refine⟨_,rfl,gF,?_⟩
 cases RA with
 | inr e2=>
  obtain⟨p,r⟩:=e2;exact g10.row hra (by unfold On;omega)
 | inl e2=>
  obtain⟨t,j⟩:=e2;obtain⟨ht,hp,-⟩:=hra;refine⟨?_,g10.row hp (by unfold On;omega),STA.out.gs g10 (by unfold On;omega) (by unfold On;omega)⟩;refine dP (uF.row ns) gN hz6 (by omega) (InT.keep ht (fun q hq=>⟨?_,?_⟩) fun q hq=>?_)
  ·have:=hq.1;omega
  ·have:=hq.2;have:=g10.size;omega
  ·have h1:=hq.1
   exact g10.block q hq.2 (by unfold On;omega)
end
end Go.Proofs.YtgeghilbikljcaaGreatDoor
