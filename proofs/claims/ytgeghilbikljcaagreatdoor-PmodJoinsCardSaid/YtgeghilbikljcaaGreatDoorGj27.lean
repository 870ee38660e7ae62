/-
  Layer 8, the program: the literals of prim and body; the names that are applied (written by gmj.py).
-/
import Derived.Test.YtgeghilbikljcaaGreatDoorGj26
set_option maxHeartbeats 40000000
set_option maxRecDepth 100000
namespace Go.Proofs.YtgeghilbikljcaaGreatDoor
open Go.RowKit
theorem zKz (b:Nat) (v:Value) (i:Nat) (e:Int) (x:Value) (d:Bool) (w:World) (cS:∀w',Up w w'->Calls Tryz.prog 68 #[v,.int .i64 (i:Int)] w' (AnP x d w')) (h:Psr w b v i e) :
  Calls Tryz.prog 116 #[.pointer (some ⟨b,0,none⟩),.func (.func 68) #[] #[]] w (AnP (if e=0 then x else .string nob) (decide (e=0)&&d) w):=by
 obtain⟨c0,c1,c2,f1,f2⟩:=h.cells;have hb:b<w.heap.size:=qC h;clear h f1 f2
 by_cases he:e=0
 ·subst he
  have c0u:∀u:Upw w,u.w.cell? ⟨b,0,none⟩=some v:=Upw.cell c0;have c1u:∀u:Upw w,u.w.cell? ⟨b,1,none⟩=some (.int .i64 (i:Int)):=Upw.cell c1;have CK:∀u:Upw w,Calls Tryz.prog 68 #[v,.int .i64 (i:Int)] u.w fun e w'=>e = .returned (.tuple #[x,.bool d])/\Up w w':=fun u=>(cS u.w u.h).mono fun e w' ⟨h1,h2⟩=>⟨h1,u.h.trans h2⟩
  have HK:=Lib.hid CK;have U0:=Lib.hid (Up.refl w);have HD:Hid ((decide ((0:Int)=0)&&d)=d):=Lib.hid (by rw[decide_eq_true rfl,Bool.true_and]);rw[if_pos rfl,HD.out];clear CK cS c0 c1
  go_enter Tryz.func116,Tryz.ntmps116
  go_wp2_with fail;refine zT (W:=w) U0.out (by kernel_rfl) (by kernel_rfl) ?_
  repeat (go_big_quiet_step (first
   | (go_at_call 68;exact Calls.upw (HK.out _))))
  refine wpQuiet_nil ?_;rintro _ ⟨⟨w9,u9⟩,rfl⟩;go_wp2_with fail
  go_ret2
  exact⟨rfl,u9⟩
 ·have HD:Hid ((decide (e=0)&&d)=false):=Lib.hid (by rw[decide_eq_false he,Bool.false_and])
  rw[if_neg he,HD.out];clear cS c0 c1
  go_enter Tryz.func116,Tryz.ntmps116
  go_wp2_with fail
  go_ret2
  exact⟨rfl,Up.refl _⟩
def PD (b:Nat) (W0:World) (Bm:Nat) (k:Int) (RF:Rs Fr) (w':World):Prop:=Gs (On b) W0 w'/\∀f j,RF = .inl (f,j)->NewT W0 w' (.pointer (some ⟨Bm,0,none⟩)) (nd k nob f)
theorem zQh {b Bm:Nat} {v:Value} {W0 w w2:World} {k:Int} {RF:Rs Fr} {A:Option Addr} {n c:Nat} (hWm:W0.heap.size<=Bm) (hmb:Bm≠b) (hmw:Bm<w.heap.size) (gW:Gs (On b) W0 w) (g:Gs (On b) w w2) (p:Psr w2 b v (rI RF) (rE RF)) (nb:Nb w2 Bm ⟨k,0,nob,nob⟩ (.slice none 0 0)) (hk:∀f j,RF = .inl (f,j)->KidsP w w2 (.slice A n c) f) :
  Gs (Two b Bm) w (w2.setCell ⟨Bm,4,none⟩ (.slice A n c))/\Psr (w2.setCell ⟨Bm,4,none⟩ (.slice A n c)) b v (rI RF) (rE RF)/\PD b W0 Bm k RF (w2.setCell ⟨Bm,4,none⟩ (.slice A n c)):=by
 have nF:=nb.store (.slice A n c);have gF:Gs (On Bm) w2 (w2.setCell ⟨Bm,4,none⟩ (.slice A n c)):=(Gs.refl _ _).set _ _ (.inl rfl);have gz:=gF.size;have gWz:=gW.size;refine⟨g.two.set _ _ (.inl (.inr rfl)),gF.row p (by unfold On;omega),(gW.trans g).set _ _ (.inr hWm),fun f j hf=>?_⟩;obtain⟨A',c',hv,hc,hk0⟩:=hk f j hf;injection hv with h1 h2 h3;subst h1 h2 h3;refine⟨Bm,0,A,c,rfl,⟨hWm,qC nF⟩,⟨_,_,nF⟩,cell_of_row _ _ 0 _ _ _ nF,cell_of_row _ _ 1 _ _ _ nF,cell_of_row _ _ 2 _ _ _ nF,cell_of_row _ _ 3 _ _ _ nF,cell_of_row _ _ 4 _ _ _ nF,hc,fun h0=>?_⟩;obtain⟨q,rfl,hq,hfq⟩:=hk0 h0;exact⟨q,0,rfl,⟨by have:=hq.1;omega,by have:=hq.2;omega⟩,InF.keep (fun q hq=>⟨by have:=hq.1;omega,by have:=hq.2;omega⟩) (fun q hq=>gF.block q hq.2 (by have:=hq.1;unfold On;omega)) hq hfq⟩
theorem zUa {b:Nat} (v:Value) (W0:World) (B1 B2 Bm:Nat) (RF:Rs Fr) (w:World) (h1:b≠B2) (h2:b≠Bm) (_h3:B2≠Bm) (h4:B1≠b) (_h6:B1≠Bm) (h5:W0.heap.size<=Bm)
  (c1:w.cell? ⟨B1,0,none⟩=some (.pointer (some ⟨b,0,none⟩))) (c2:w.cell? ⟨B2,0,none⟩=some (.pointer (some ⟨Bm,0,none⟩))) (nb:Nb w Bm ⟨40,0,nob,nob⟩ (.slice none 0 0)) (gW:Gs (On b) W0 w)
  (cC:∀w',Up w w'->Calls Tryz.prog 28 #[.agg #[.pointer (some ⟨b,0,none⟩)],.bool false] w' (ManP b v RF w')) :
  Calls Tryz.prog 65 #[.pointer (some ⟨B1,0,none⟩),.pointer (some ⟨B2,0,none⟩)] w (InL (Two b Bm) b v (rI RF) (rE RF) (PD b W0 Bm 40 RF) w):=by
 have HNB:=Lib.hid nb;have HC:=Lib.hid cC;have HGW:=Lib.hid gW;have hb2:=zZ c2;have hb1:=zZ c1;have hbm:=qC nb;clear nb cC gW
 go_enter Tryz.func65,Tryz.ntmps65
 go_wp2_with fail
 go_region_held3 (fun w'=>w'.cell? ⟨B2,0,none⟩=some (.pointer (some ⟨Bm,0,none⟩))/\w'.cell? ⟨B1,0,none⟩=some (.pointer (some ⟨b,0,none⟩))) (first | go_keep | (refine⟨?_,?_⟩<;>(rw[zS _ _ _ (by simp only;omega)];assumption)))
  ((go_at_call 28;refine(HC.out _ (by first | exact Below.refl _ _ | exact qE (Below.refl _ _) 1)).mono ?_;rintro e w2 ⟨A,n,c,rfl,g2,p2,k2⟩;have g2:Gs (On b) w w2:=⟨g2.os,g2.tape,g2.output,g2.size,g2.block⟩;have k2:∀f j,RF = .inl (f,j)->KidsP w w2 (.slice A n c) f:=k2;have nb2:Nb w2 Bm ⟨40,0,nob,nob⟩ (.slice none 0 0):=g2.row HNB.out (fun e=>h2 e.symm);have c4:=nb2.cell.1;have f4:=nb2.cell.2;have q2:=g2.cell c2 (fun e=>h1 e.symm);have q1:=g2.cell c1 (fun e=>h4 e);have hz2:=g2.size;have G2:=Lib.hid g2;have P2:=Lib.hid p2;have K2:=Lib.hid k2;have N2:=Lib.hid nb2;clear g2 p2 k2 nb2))
 go_wp2_with fail;go_end0;obtain⟨r1,r2,r3⟩:=zQh (W0:=W0) (RF:=RF) (c:=c) h5 (fun e=>h2 e.symm) hbm HGW.out G2.out P2.out N2.out K2.out;exact⟨⟨_,rfl⟩,r1,r2,r3⟩
theorem zUb {b:Nat} (v:Value) (W0:World) (B1 B2 Bm:Nat) (RF:Rs Fr) (w:World) (h1:b≠B2) (h2:b≠Bm) (_h3:B2≠Bm) (h4:B1≠b) (_h6:B1≠Bm) (h5:W0.heap.size<=Bm)
  (c1:w.cell? ⟨B1,0,none⟩=some (.pointer (some ⟨b,0,none⟩))) (c2:w.cell? ⟨B2,0,none⟩=some (.pointer (some ⟨Bm,0,none⟩))) (nb:Nb w Bm ⟨50,0,nob,nob⟩ (.slice none 0 0)) (gW:Gs (On b) W0 w)
  (cC:∀w',Up w w'->Calls Tryz.prog 51 #[.func (.func 74) #[.agg #[.pointer (some ⟨b,0,none⟩)]] #[]] w' (ManP b v RF w')) :
  Calls Tryz.prog 73 #[.pointer (some ⟨B1,0,none⟩),.pointer (some ⟨B2,0,none⟩)] w (InL (Two b Bm) b v (rI RF) (rE RF) (PD b W0 Bm 50 RF) w):=by
 have HNB:=Lib.hid nb;have HC:=Lib.hid cC;have HGW:=Lib.hid gW;have hb2:=zZ c2;have hb1:=zZ c1;have hbm:=qC nb;clear nb cC gW
 go_enter Tryz.func73,Tryz.ntmps73
 go_wp2_with fail
 go_region_held3 (fun w'=>w'.cell? ⟨B2,0,none⟩=some (.pointer (some ⟨Bm,0,none⟩))/\w'.cell? ⟨B1,0,none⟩=some (.pointer (some ⟨b,0,none⟩))) (first | go_keep | (refine⟨?_,?_⟩<;>(rw[zS _ _ _ (by simp only;omega)];assumption)))
  ((go_at_call 51;refine(HC.out _ (by first | exact Below.refl _ _ | exact qE (Below.refl _ _) 1)).mono ?_;rintro e w2 ⟨A,n,c,rfl,g2,p2,k2⟩;have g2:Gs (On b) w w2:=⟨g2.os,g2.tape,g2.output,g2.size,g2.block⟩;have k2:∀f j,RF = .inl (f,j)->KidsP w w2 (.slice A n c) f:=k2;have nb2:Nb w2 Bm ⟨50,0,nob,nob⟩ (.slice none 0 0):=g2.row HNB.out (fun e=>h2 e.symm);have c4:=nb2.cell.1;have f4:=nb2.cell.2;have q2:=g2.cell c2 (fun e=>h1 e.symm);have q1:=g2.cell c1 (fun e=>h4 e);have hz2:=g2.size;have G2:=Lib.hid g2;have P2:=Lib.hid p2;have K2:=Lib.hid k2;have N2:=Lib.hid nb2;clear g2 p2 k2 nb2))
 go_wp2_with fail;go_end0;obtain⟨r1,r2,r3⟩:=zQh (W0:=W0) (RF:=RF) (c:=c) h5 (fun e=>h2 e.symm) hbm HGW.out G2.out P2.out N2.out K2.out;exact⟨⟨_,rfl⟩,r1,r2,r3⟩
section
variable {V0:World} {v:Value} {l:List Te} {b:Nat}
def appO (l:List Te) (i:Nat):Option ByteArray:=if key (tks l) (i+1) kOpen=true then nam B.nck (tks l) i else none
theorem zQi (P:Px9 V0 v l b) (i:Nat) (e:Int) (hi:i<=l.length) (w:World) (hu:Up V0 w) (h:Psr w b v i e) :
  Calls Tryz.prog 67 #[.pointer (some ⟨b,0,none⟩),.func (.func 68) #[] #[]] w (PkPs b v (if e=0 then .string ((appO l i).getD nob) else .string nob) (decide (e=0)&&(appO l i).isSome) i e w):=by
 have hl:=P.Q.hl;refine mV b v _ i e _ _ w (zKz b v i e _ _ w (fun w' u=>?_) h) h (by omega);exact zZ1 v i (nam B.nck (tks l) i) (key (tks l) (i+1) kOpen) w' (by omega) (fun w2 u2=>P.Q.T.name i w2 ((hu.trans u).trans u2)) (fun w2 u2=>by
  have c:=zRs (tks l) ((i:Int)+1) kOpen w2 v (P.K.tkm.up ((hu.trans u).trans u2));have e:keyZ (tks l) ((i:Int)+1) kOpen=key (tks l) (i+1) kOpen:=by
   unfold keyZ;rw[decide_eq_true (by omega),Bool.true_and]
   rfl
  rw[e] at c;exact c)
end
theorem zUc:EntF 65:=fun _ _=>by kernel_rfl
theorem zUd:EntF 73:=fun _ _=>by kernel_rfl
section
variable {V0:World} {v:Value} {l:List Te} {b:Nat}
theorem zWo {M:Nat->Rs Tr} (hM:kB l M):kB l (parM l M):=fun j hj=>(yB [kOpen] j hj).bnd fun _ m _ _ hm=>(hM m hm).bnd fun _ _ _ _ hq=>(yB [kShut] _ hq).bnd fun _ _ _ _ hr=>qR (Nat.le_refl _) hr
theorem zMe {i:Nat} {e:Int} {x:ByteArray} (h:tkB (tks l) i e x=true):kS (tks l) x (i,e)=(i+1,0):=by
 have h0:=vN h;subst h0;unfold kS;simp only;rw[h]
 rfl
theorem bV (k:Int) {D:Nat->Rs Fr} (hD:kB l D) (d:Fr) {s:SS} (hs:s.1<=l.length):at0 (kU l D k) s=at0 (fun m=>.inl (nd k nob (valD d (at0 D s)),m)) (kS (tks l) kEnd (stO (at0 D s))):=by
 unfold kU;rw[yA (R:=D) (d:=d) fun _=>hD.ne hs,jB]
theorem zQj {D:Nat->Rs Fr} {i:Nat} {e:Int}:at0 (bodyS B.nck l D) (i,e)=if tkB (tks l) i e kSigW=true then at0 (kU l D 50) (i+1,e) else at0 (fun i=>thn (nameQ B.nck (tks l) i []) fun s j=>.inl (nd 51 s .nil,j)) (i,e):=zQ9 _ _
theorem zWp (P:Px9 V0 v l b) (D:Nat->Rs Fr) (hD:kB l D) (i:Nat) (e:Int) (hi:i<=l.length)
  (cD:tkB (tks l) i e kSigW=true->∀w',Up V0 w'->Psr w' b v (i+1) e->Calls Tryz.prog 51 #[.func (.func 74) #[.agg #[.pointer (some ⟨b,0,none⟩)]] #[]] w' (ManP b v (at0 D (i+1,e)) w')) :
  FnAt V0 v b 42 #[.agg #[.pointer (some ⟨b,0,none⟩)]] (bodyS B.nck l D) (i,e):=fun w hu h=>by
 have hb:b<w.heap.size:=qC h;have hbV:=P.Q.hb;have hll:=P.Q.hl;obtain⟨W0,hW0⟩:∃W0,w.alloc (.cells #[.pointer (some ⟨b,0,none⟩)] 51)=W0:=⟨_,rfl⟩;have u0:Up w W0:=by rw[<- hW0];exact(Up.refl w).alloc _
 have b1:W0.heap[w.heap.size]? = some (.cells #[.pointer (some ⟨b,0,none⟩)] 51 (0,0)):=by rw[<- hW0];exact heap_alloc_new w _
 have hgU:∀w',Gs (On b) W0 w'->Up V0 w':=fun w' g=>g.up (hu.trans u0) fun q hq=>by rw[hq];exact hbV
 have hgB:∀w',Gs (On b) W0 w'->w'.cell? ⟨w.heap.size,0,none⟩=some (.pointer (some ⟨b,0,none⟩)):=fun w' g=>cell_of_row w' w.heap.size 0 _ _ _ (g.row b1 (by unfold On;omega))
 have hzW0:W0.heap.size=w.heap.size+1:=by rw[<- hW0];simp
 have k0:=hgB W0 (Gs.refl _ _);have p0:=h.up u0;have cS:=yW b v i e kSigW W0 P.Q.T p0 (hgU W0 (Gs.refl _ _));obtain⟨G,hG⟩:∃G,at0 (bodyS B.nck l D) (i,e)=G:=⟨_,rfl⟩;have hG1:=hG.symm;rw[zQj] at hG1;rw[hG];have HG:=Lib.hid hG1;have HCD:=Lib.hid cD;obtain⟨dK,hdK⟩:∃d,tkB (tks l) i e kSigW=d:=⟨_,rfl⟩;rw[hdK] at cS;have HK:=Lib.hid hdK;have HPX:=Lib.hid P;have HGU:=Lib.hid hgU;have HGB:=Lib.hid hgB;have HW0:=Lib.hid hW0;have U0:=Lib.hid u0;have B1:=Lib.hid b1;have P0:=Lib.hid p0;clear hW0 u0 b1 h hu P hgU hgB p0;clear hG hG1 cD hdK
 go_enter Tryz.func42,Tryz.ntmps42
 go_wp2_with fail;rw[HW0.out];refine cS.mono ?_;rintro en w1 ⟨rfl,u1⟩;have u1:Up W0 w1:=u1;have k1:=HGB.out w1 (Gs.of u1);have U1:=Lib.hid u1;have P1:=Lib.hid (P0.out.up u1);clear u1 cS
 cases dK with
 | true=>
  have hiT:=yK hi HK.out;have est:=fun d=>bV (l:=l) 50 hD d (s:=(i+1,e)) hiT
  have hlx:=rK hD (s:=(i+1,e)) hiT;have h00:=xX hD (s:=(i+1,e)) hiT;have cD:=HCD.out HK.out;obtain⟨X,hX⟩:∃X,at0 D (i+1,e)=X:=⟨_,rfl⟩;rw[hX] at cD est hlx h00;have n2:=yP (l:=tks l) (x:=kEnd) (s:=stO X);obtain⟨s2,hs2⟩:∃s,kS (tks l) kEnd (stO X)=s:=⟨_,rfl⟩;have e4:neI (stO X).1 (tkB (tks l) (stO X).1 (stO X).2 kEnd)=s2.1:=congrArg Prod.fst hs2;have e5:neE (stO X).2 (tkB (tks l) (stO X).1 (stO X).2 kEnd)=s2.2:=congrArg Prod.snd hs2;rw[hs2] at n2 est;have hG:=HG.out;rw[HK.out,if_pos rfl,est .nil] at hG;have HG:=Lib.hid hG;have N2:=Lib.hid n2;have H00:=Lib.hid h00;have z1:=U1.out.size;have z0:=U0.out.size;obtain⟨w2,hw2⟩:∃x,w1.alloc (.cells #[.int .i64 50,.int .i64 0,.string ⟨#[]⟩,.string ⟨#[]⟩,.slice none 0 0] 44)=x:=⟨_,rfl⟩;have u2:Up w1 w2:=by rw[<- hw2];exact(Up.refl _).alloc _
  have nb2:Nb w2 w1.heap.size ⟨50,0,nob,nob⟩ (.slice none 0 0):=by rw[<- hw2];exact heap_alloc_new w1 _
  have z2:w2.heap.size=w1.heap.size+1:=by rw[<- hw2];simp
  obtain⟨w3,hw3⟩:∃x,w2.alloc (.cells #[.pointer (some ⟨w1.heap.size,0,none⟩)] 24)=x:=⟨_,rfl⟩;have u3:Up w2 w3:=by rw[<- hw3];exact(Up.refl _).alloc _
  have z3:w3.heap.size=w1.heap.size+2:=by rw[<- hw3];simp;omega
  have g3:Gs (On b) W0 w3:=Gs.of ((U1.out.trans u2).trans u3);have k3:(w2.alloc (.cells #[.pointer (some ⟨w1.heap.size,0,none⟩)] 24)).cell? ⟨w.heap.size,0,none⟩=some (.pointer (some ⟨b,0,none⟩)):=by rw[hw3];exact HGB.out w3 g3
  have b3:w3.heap[w1.heap.size+1]? = some (.cells #[.pointer (some ⟨w1.heap.size,0,none⟩)] 24 (0,0)):=by rw[<- hw3];exact yU w2 _ z2
  have p3:=(P1.out.up u2).up u3;have nb3:=u3.row nb2;have hV0:=(HGU.out W0 (Gs.refl _ _)).size;have cBt:=zJ (W0:=V0) (l:=tks l) b v i e kSigW kEnd 73 #[.pointer (some ⟨w.heap.size,0,none⟩),.pointer (some ⟨w1.heap.size+1,0,none⟩)] zUd (Two b w1.heap.size) (fun q hq=>by rcases hq with hq | hq<;>omega) hbV (stO X).1 (stO X).2 (PD b W0 w1.heap.size 50 X) w3
   HPX.out.Q.T p3 (HGU.out w3 g3) (by omega) (by omega) (fun w5 g5 p5=>by
    rw[HK.out] at p5;have z5:=g5.size;exact zUb v W0 w.heap.size (w1.heap.size+1) w1.heap.size X w5 (by omega) (by omega) (by omega) (by omega) (by omega) (by omega) (cell_of_row w5 _ 0 _ _ _ ((g3.trans g5).row B1.out (by unfold On;omega))) (cell_of_row w5 _ 0 _ _ _ (g5.row b3 (by unfold On;omega))) (g5.row nb3 (by unfold On;omega)) (g3.trans g5) fun w' u'=>cD w' ((HGU.out w5 (g3.trans g5)).trans u') (p5.up u'))
  rw[e4,e5] at cBt;have B3:=Lib.hid b3;have HW3:=Lib.hid hw3;clear hG hs2 hX est n2 h00 HCD hw3 p3 nb3 nb2 u2 u3 b3 cD e4 e5 g3;go_wp2_with fail;rw[HW3.out];refine cBt.mono ?_;rintro en w4 ⟨⟨u,rfl⟩,w5,w6,g5,g6,⟨gW6,nT⟩,g7,p4⟩;have b4:=g7.row (g6.row (g5.row B3.out (by unfold On;omega)) (by unfold Two;omega)) (by unfold On;omega);have c4:w4.cell? ⟨w1.heap.size+1,0,none⟩=some (.pointer (some ⟨w1.heap.size,0,none⟩)):=cell_of_row w4 _ 0 _ _ _ b4;have G4:=Lib.hid (gW6.trans g7);have P4:=Lib.hid p4;have N4:Hid (∀f j,X = .inl (f,j)->NewT W0 w4 (.pointer (some ⟨w1.heap.size,0,none⟩)) (nd 50 nob f)):=Lib.hid fun f j hf=>(nT f j hf).gs g7 (fun k hk=>by unfold On at hk;omega)
  clear b4 g5 g6 g7 gW6 nT p4 cBt;go_wp2_with fail
  go_ret
  rw[HG.out];have ez:=qY (nd 50 nob (valD .nil X)) s2;refine PaT.mk ((Gs.of U0.out).trans G4.out) (by rw[show rI _=_ from congrArg Prod.fst ez,show rE _=_ from congrArg Prod.snd ez];exact P4.out) fun t j ht=>?_
  obtain⟨h0,rfl⟩:=yY _ _ ht;obtain⟨-,-,a,ha⟩:=H00.out (N2.out h0).1;rw[yD _ ha];exact(N4.out a _ ha).base U0.out.size
 | false=>
  have cX:=zWm HPX.out (i,e) hi w1 (HGU.out w1 (Gs.of U1.out)) P1.out;have hG:=HG.out;rw[HK.out,if_neg Bool.false_ne_true,yJ] at hG;obtain⟨sX,hsX⟩:∃s,nS B.nck (tks l) (i,e)=s:=⟨_,rfl⟩;obtain⟨nm,hnm⟩:∃n,nmS (nam B.nck (tks l) (i,e).1) (i,e).2=n:=⟨_,rfl⟩;rw[hsX,hnm] at cX hG;have HG:=Lib.hid hG;clear hsX hnm hG HCD;go_wp2_with fail;refine cX.mono ?_;rintro en wX ⟨rfl,gX,pX⟩;have gX:=(Gs.of (S:=On b) U1.out).trans gX;have kX:=HGB.out wX gX;have GX:=Lib.hid gX;have PX:=Lib.hid pX;clear gX pX cX;go_wp2_with fail;refine(jH 51 nm none 0 0 wX).mono ?_;rintro en wY ⟨rfl,hwY⟩;have uY:Up wX wY:=by rw[hwY];exact(Up.refl _).alloc _
  have nbY:Nb wY wX.heap.size ⟨51,0,nm,nob⟩ (.slice none 0 0):=by rw[hwY];exact heap_alloc_new wX _
  have UY:=Lib.hid uY;have NY:=Lib.hid nbY;clear uY nbY hwY;go_wp2_with fail
  go_ret
  rw[HG.out];have ez:=qY (nd 51 nm .nil) sX;have z2:=GX.out.size;have z0:=U0.out.size;refine PaT.mk (((Gs.of U0.out).trans GX.out).trans (Gs.of UY.out)) (by rw[show rI _=_ from congrArg Prod.fst ez,show rE _=_ from congrArg Prod.snd ez];exact PX.out.up UY.out) fun t j ht=>?_
  obtain⟨h0,rfl⟩:=yY _ _ ht;exact kR (x:=⟨51,0,nm,nob⟩) NY.out ⟨by omega,qC NY.out⟩
theorem zZ4 (i:Nat) (x:ByteArray):keysL (tks l) i [x]=if key (tks l) i x=true then .inl ((),i+1) else .inr (i,6):=by
 unfold keysL
 split<;>rfl
theorem zQk {M:Nat->Rs Tr} {D:Nat->Rs Fr} {i:Nat} {e:Int}:at0 (primS B.nck B.long l M D) (i,e)=if tkB (tks l) i e jZ=true then at0 (kU l D 40) (i+1,e) else if tkB (tks l) i e kOpen=true then at0 (parM l M) (i,e)
  else if (decide (e=0)&&(appO l i).isSome)=true then at0 (fun j=>thn (parM l M j) fun t m=>.inl (nd 42 ((appO l i).getD nob) (fr1 t),m)) (i+1,e) else at0 (fun i=>thn (nameQ B.long (tks l) i []) fun s j=>.inl (nd 41 s .nil,j)) (i,e):=by
 by_cases he:e=0
 ·subst he
  simp only[qQ,qG,decide_true,Bool.true_and];unfold primS
  cases key (tks l) i jZ with
  | true=>rfl
  | false=>
   rw[if_neg Bool.false_ne_true,if_neg Bool.false_ne_true]
   cases ho:key (tks l) i kOpen with
   | true=>
    rw[zN7 B.nck ho,if_pos rfl];unfold parM;rw[zZ4,ho]
    rfl
   | false=>
    rw[if_neg Bool.false_ne_true];unfold appO
    cases hk:key (tks l) (i+1) kOpen with
    | false=>
     rw[if_neg Bool.false_ne_true]
     cases nam B.nck (tks l) i<;>rfl
    | true=>
     rw[if_pos rfl]
     cases nam B.nck (tks l) i with
     | none=>rfl
     | some s=>
      unfold parM;rw[zZ4 (i+1),hk]
      rfl
 ·simp only[zE he,decide_eq_false he,Bool.false_and,Bool.false_eq_true,if_false]
  rw[qM _ (show ¬(i,e).2=0 from he),qM _ (show ¬(i,e).2=0 from he)]
theorem zWq (P:Px9 V0 v l b) (M:Nat->Rs Tr) (D:Nat->Rs Fr) (hM:kB l M) (hD:kB l D) (i:Nat) (e:Int) (hi:i<=l.length)
  (cD:tkB (tks l) i e jZ=true->∀w',Up V0 w'->Psr w' b v (i+1) e->Calls Tryz.prog 28 #[.agg #[.pointer (some ⟨b,0,none⟩)],.bool false] w' (ManP b v (at0 D (i+1,e)) w'))
  (cM:∀j,j<=l.length->e=0->i<j->FnAt V0 v b 21 #[.agg #[.pointer (some ⟨b,0,none⟩)]] M (j,0)) :
  FnAt V0 v b 37 #[.agg #[.pointer (some ⟨b,0,none⟩)]] (primS B.nck B.long l M D) (i,e):=fun w hu h=>by
 have hb:b<w.heap.size:=qC h;have hbV:=P.Q.hb;have hll:=P.Q.hl;obtain⟨W0,hW0⟩:∃W0,w.alloc (.cells #[.pointer (some ⟨b,0,none⟩)] 51)=W0:=⟨_,rfl⟩;have u0:Up w W0:=by rw[<- hW0];exact(Up.refl w).alloc _
 have b1:W0.heap[w.heap.size]? = some (.cells #[.pointer (some ⟨b,0,none⟩)] 51 (0,0)):=by rw[<- hW0];exact heap_alloc_new w _
 have hgU:∀w',Gs (On b) W0 w'->Up V0 w':=fun w' g=>g.up (hu.trans u0) fun q hq=>by rw[hq];exact hbV
 have hgB:∀w',Gs (On b) W0 w'->w'.cell? ⟨w.heap.size,0,none⟩=some (.pointer (some ⟨b,0,none⟩)):=fun w' g=>cell_of_row w' w.heap.size 0 _ _ _ (g.row b1 (by unfold On;omega))
 have hzW0:W0.heap.size=w.heap.size+1:=by rw[<- hW0];simp
 have k0:=hgB W0 (Gs.refl _ _);have p0:=h.up u0;have cS:=yW b v i e jZ W0 P.Q.T p0 (hgU W0 (Gs.refl _ _));have HCO:Hid (∀w',Up V0 w'->Psr w' b v i e->Calls Tryz.prog 63 #[.pointer (some ⟨b,0,none⟩),.string kOpen] w' (BoU (tkB (tks l) i e kOpen) w')):=Lib.hid fun w' u p=>yW b v i e kOpen w' P.Q.T p u
 obtain⟨G,hG⟩:∃G,at0 (primS B.nck B.long l M D) (i,e)=G:=⟨_,rfl⟩;have hG1:=hG.symm;rw[zQk] at hG1;rw[hG];have HG:=Lib.hid hG1;have HCD:=Lib.hid cD;have HCM:=Lib.hid cM;obtain⟨dK,hdK⟩:∃d,tkB (tks l) i e jZ=d:=⟨_,rfl⟩;rw[hdK] at cS;have HK:=Lib.hid hdK;have HPX:=Lib.hid P;have HGU:=Lib.hid hgU;have HGB:=Lib.hid hgB;have HW0:=Lib.hid hW0;have U0:=Lib.hid u0;have B1:=Lib.hid b1;have P0:=Lib.hid p0;clear hW0 u0 b1 h hu P hgU hgB p0;clear hG hG1 cD cM hdK
 go_enter Tryz.func37,Tryz.ntmps37
 go_wp2_with fail;rw[HW0.out];refine cS.mono ?_;rintro en w1 ⟨rfl,u1⟩;have u1:Up W0 w1:=u1;have k1:=HGB.out w1 (Gs.of u1);have U1:=Lib.hid u1;have P1:=Lib.hid (P0.out.up u1);clear u1 cS
 cases dK with
 | true=>
  have hiT:=yK hi HK.out;have est:=fun d=>bV (l:=l) 40 hD d (s:=(i+1,e)) hiT
  have hlx:=rK hD (s:=(i+1,e)) hiT;have h00:=xX hD (s:=(i+1,e)) hiT;have cD:=HCD.out HK.out;obtain⟨X,hX⟩:∃X,at0 D (i+1,e)=X:=⟨_,rfl⟩;rw[hX] at cD est hlx h00;have n2:=yP (l:=tks l) (x:=kEnd) (s:=stO X);obtain⟨s2,hs2⟩:∃s,kS (tks l) kEnd (stO X)=s:=⟨_,rfl⟩;have e4:neI (stO X).1 (tkB (tks l) (stO X).1 (stO X).2 kEnd)=s2.1:=congrArg Prod.fst hs2;have e5:neE (stO X).2 (tkB (tks l) (stO X).1 (stO X).2 kEnd)=s2.2:=congrArg Prod.snd hs2;rw[hs2] at n2 est;have hG:=HG.out;rw[HK.out,if_pos rfl,est .nil] at hG;have HG:=Lib.hid hG;have N2:=Lib.hid n2;have H00:=Lib.hid h00;have z1:=U1.out.size;have z0:=U0.out.size;obtain⟨w2,hw2⟩:∃x,w1.alloc (.cells #[.int .i64 40,.int .i64 0,.string ⟨#[]⟩,.string ⟨#[]⟩,.slice none 0 0] 44)=x:=⟨_,rfl⟩;have u2:Up w1 w2:=by rw[<- hw2];exact(Up.refl _).alloc _
  have nb2:Nb w2 w1.heap.size ⟨40,0,nob,nob⟩ (.slice none 0 0):=by rw[<- hw2];exact heap_alloc_new w1 _
  have z2:w2.heap.size=w1.heap.size+1:=by rw[<- hw2];simp
  obtain⟨w3,hw3⟩:∃x,w2.alloc (.cells #[.pointer (some ⟨w1.heap.size,0,none⟩)] 24)=x:=⟨_,rfl⟩;have u3:Up w2 w3:=by rw[<- hw3];exact(Up.refl _).alloc _
  have z3:w3.heap.size=w1.heap.size+2:=by rw[<- hw3];simp;omega
  have g3:Gs (On b) W0 w3:=Gs.of ((U1.out.trans u2).trans u3);have k3:(w2.alloc (.cells #[.pointer (some ⟨w1.heap.size,0,none⟩)] 24)).cell? ⟨w.heap.size,0,none⟩=some (.pointer (some ⟨b,0,none⟩)):=by rw[hw3];exact HGB.out w3 g3
  have b3:w3.heap[w1.heap.size+1]? = some (.cells #[.pointer (some ⟨w1.heap.size,0,none⟩)] 24 (0,0)):=by rw[<- hw3];exact yU w2 _ z2
  have p3:=(P1.out.up u2).up u3;have nb3:=u3.row nb2;have hV0:=(HGU.out W0 (Gs.refl _ _)).size;have cBt:=zJ (W0:=V0) (l:=tks l) b v i e jZ kEnd 65 #[.pointer (some ⟨w.heap.size,0,none⟩),.pointer (some ⟨w1.heap.size+1,0,none⟩)] zUc (Two b w1.heap.size) (fun q hq=>by rcases hq with hq | hq<;>omega) hbV (stO X).1 (stO X).2 (PD b W0 w1.heap.size 40 X) w3
   HPX.out.Q.T p3 (HGU.out w3 g3) (by omega) (by omega) (fun w5 g5 p5=>by
    rw[HK.out] at p5;have z5:=g5.size;exact zUa v W0 w.heap.size (w1.heap.size+1) w1.heap.size X w5 (by omega) (by omega) (by omega) (by omega) (by omega) (by omega) (cell_of_row w5 _ 0 _ _ _ ((g3.trans g5).row B1.out (by unfold On;omega))) (cell_of_row w5 _ 0 _ _ _ (g5.row b3 (by unfold On;omega))) (g5.row nb3 (by unfold On;omega)) (g3.trans g5) fun w' u'=>cD w' ((HGU.out w5 (g3.trans g5)).trans u') (p5.up u'))
  rw[e4,e5] at cBt;have B3:=Lib.hid b3;have HW3:=Lib.hid hw3;clear hG hs2 hX est n2 h00 HCD hw3 p3 nb3 nb2 u2 u3 b3 cD e4 e5 g3;go_wp2_with fail;rw[HW3.out];refine cBt.mono ?_;rintro en w4 ⟨⟨u,rfl⟩,w5,w6,g5,g6,⟨gW6,nT⟩,g7,p4⟩;have b4:=g7.row (g6.row (g5.row B3.out (by unfold On;omega)) (by unfold Two;omega)) (by unfold On;omega);have c4:w4.cell? ⟨w1.heap.size+1,0,none⟩=some (.pointer (some ⟨w1.heap.size,0,none⟩)):=cell_of_row w4 _ 0 _ _ _ b4;have G4:=Lib.hid (gW6.trans g7);have P4:=Lib.hid p4;have N4:Hid (∀f j,X = .inl (f,j)->NewT W0 w4 (.pointer (some ⟨w1.heap.size,0,none⟩)) (nd 40 nob f)):=Lib.hid fun f j hf=>(nT f j hf).gs g7 (fun k hk=>by unfold On at hk;omega)
  clear b4 g5 g6 g7 gW6 nT p4 cBt;go_wp2_with fail
  go_ret
  rw[HG.out];have ez:=qY (nd 40 nob (valD .nil X)) s2;refine PaT.mk ((Gs.of U0.out).trans G4.out) (by rw[show rI _=_ from congrArg Prod.fst ez,show rE _=_ from congrArg Prod.snd ez];exact P4.out) fun t j ht=>?_
  obtain⟨h0,rfl⟩:=yY _ _ ht;obtain⟨-,-,a,ha⟩:=H00.out (N2.out h0).1;rw[yD _ ha];exact(N4.out a _ ha).base U0.out.size
 | false=>
  have hG:=HG.out;rw[HK.out,if_neg Bool.false_ne_true] at hG;have HG:=Lib.hid hG;have cO:=HCO.out w1 (HGU.out w1 (Gs.of U1.out)) P1.out;obtain⟨dO,hdO⟩:∃d,tkB (tks l) i e kOpen=d:=⟨_,rfl⟩;rw[hdO] at cO;have HO:=Lib.hid hdO;clear hG hdO HCD HCO HK;go_wp2_with fail;refine cO.mono ?_;rintro en w2 ⟨rfl,u2⟩;have u2:Up w1 w2:=u2;have k2:=HGB.out w2 (Gs.of (U1.out.trans u2));have U2:=Lib.hid (U1.out.trans u2);have P2:=Lib.hid (P1.out.up u2);clear u2 cO U1 P1 k1
  cases dO with
  | true=>
   have cX:=pE HPX.out M hM i e hi (by rw[zMe HO.out];exact HCM.out (i+1) (yK hi HO.out) (vN HO.out) (Nat.lt_succ_self i)) w2 (HGU.out w2 (Gs.of U2.out)) P2.out;have hG:=HG.out;rw[HO.out,if_pos rfl] at hG;rw[<- hG] at cX;clear HCM hG;go_wp2_with fail;refine cX.mono ?_;rintro en wX hP;obtain⟨A,rfl,gX,pX,nX⟩:=hP.psr;have GX:=Lib.hid gX;have PX:=Lib.hid pX;have NX:=Lib.hid nX;clear gX pX nX hP;go_wp2_with fail
   go_ret
   exact PaT.mk ((Gs.of (U0.out.trans U2.out)).trans GX.out) PX.out fun t j ht=>(NX.out t j ht).base (by have:=U0.out.size;have:=U2.out.size;omega)
  | false=>
   have hG:=HG.out;rw[HO.out,if_neg Bool.false_ne_true] at hG;have cP:=zQi HPX.out i e hi w2 (HGU.out w2 (Gs.of U2.out)) P2.out;obtain⟨nm,hnm⟩:∃nm,(if e=0 then (appO l i).getD nob else nob)=nm:=⟨_,rfl⟩;have hx:(if e=0 then Value.string ((appO l i).getD nob) else .string nob) = .string nm:=by rw[<- hnm];split<;>rfl
   obtain⟨dA,hdA⟩:∃d,(decide (e=0)&&(appO l i).isSome)=d:=⟨_,rfl⟩;rw[hx,hdA] at cP;rw[hdA] at hG;have HG:=Lib.hid hG;have HN:=Lib.hid hnm;have HA:=Lib.hid hdA;clear hG hnm hdA hx HO;go_wp2_with fail;refine cP.mono ?_;rintro en w3 ⟨rfl,g3,p3⟩;have g3:=(Gs.of (S:=On b) U2.out).trans g3;have k3:=HGB.out w3 g3;have G3:=Lib.hid g3;have P3:=Lib.hid p3;clear g3 p3 cP U2 P2 k2
   cases dA with
   | true=>
    have ha:=HA.out;rw[Bool.and_eq_true] at ha;have he:=of_decide_eq_true ha.1;obtain⟨s,hs⟩:=Option.isSome_iff_exists.1 ha.2;have hi1:i+1<=l.length:=by
     unfold appO at hs
     split at hs
     ·rename_i hk
      have:=zY hk;rw[qK] at this;omega
     ·cases hs
    have hk1:tkB (tks l) (i+1) e kOpen=true:=by
     rw[he,qQ];unfold appO at hs
     split at hs
     ·assumption
     ·cases hs
    have P3:Hid (Psr w3 b v (i+1) e):=P3;have hat:=fun(d:Tr) (f:Tr->Nat->Rs Tr)=>yA (R:=parM l M) (f:=f) (d:=d) (s:=(i+1,e)) fun _=>NeO.of_in0 (zWo hM (i+1) hi1)
    have h00:=xX (zWo hM) (s:=(i+1,e)) hi1;have cX:=pE HPX.out M hM (i+1) e hi1 (by rw[zMe hk1];exact HCM.out (i+1+1) (yK hi1 hk1) he (by omega)) w3 (HGU.out w3 G3.out) P3.out;have hG:=HG.out;rw[if_pos rfl,hat (nd 0 nob .nil)] at hG;rw[show(appO l i).getD nob=nm from by rw[<- HN.out,if_pos he]] at hG;obtain⟨X,hX⟩:∃X,at0 (parM l M) (i+1,e)=X:=⟨_,rfl⟩;rw[hX] at hG cX h00;clear HG;have HGX:=Lib.hid hG;have H00:=Lib.hid h00;clear HCM hG hX hat ha hs h00 hi1 hk1;go_wp2_with fail;refine cX.mono ?_;rintro en wX hP;obtain⟨A,rfl,gX,pX,nX⟩:=hP.psr;have GX:=Lib.hid gX;have PX:=Lib.hid pX;have NX:=Lib.hid nX;clear gX pX nX hP;go_wp2_with fail;refine(jH 42 nm _ 1 1 _).mono ?_;rintro en wY ⟨rfl,rfl⟩;go_wp2_with fail
    go_ret
    have z1:=G3.out.size;have z2:=GX.out.size;have z0:=U0.out.size;have u3:Up wX ((wX.alloc (.cells #[.pointer A] 24)).alloc (.cells #[.int .i64 42,.int .i64 0,.string nm,.string ⟨#[]⟩,.slice (some ⟨wX.heap.size,0,none⟩) 1 1] 44)):=((Up.refl wX).alloc _).alloc _;rw[HGX.out];have est:=qY (nd 42 nm (fr1 (valD (nd 0 nob .nil) X))) (stO X);refine PaT.mk (((Gs.of U0.out).trans (G3.out.trans GX.out)).trans (Gs.of u3)) (by rw[show rI _=_ from congrArg Prod.fst est,show rE _=_ from congrArg Prod.snd est];exact PX.out.up u3) fun t j ht=>?_
    obtain⟨h0,rfl⟩:=yY _ _ ht;obtain⟨-,-,a,ha⟩:=H00.out h0;have n3:NewT w wX (.pointer A) a:=(NX.out a _ ha).base (by omega);rw[yD _ ha];exact iG ⟨42,0,nm,nob⟩ (by omega) n3
   | false=>
    have P3:Hid (Psr w3 b v i e):=P3;have cX:=wV HPX.out (i,e) hi w3 (HGU.out w3 G3.out) P3.out;have hG:=HG.out;rw[if_neg Bool.false_ne_true,yJ] at hG;obtain⟨sX,hsX⟩:∃s,nS B.long (tks l) (i,e)=s:=⟨_,rfl⟩;obtain⟨nm2,hnm⟩:∃n,nmS (nam B.long (tks l) (i,e).1) (i,e).2=n:=⟨_,rfl⟩;rw[hsX,hnm] at cX hG;have HG:=Lib.hid hG;clear hsX hnm hG HCM HN;go_wp2_with fail;refine cX.mono ?_;rintro en wX ⟨rfl,gX,pX⟩;have gX:=G3.out.trans gX;have kX:=HGB.out wX gX;have GX:=Lib.hid gX;have PX:=Lib.hid pX;clear gX pX cX;go_wp2_with fail;refine(jH 41 nm2 none 0 0 wX).mono ?_;rintro en wY ⟨rfl,hwY⟩;have uY:Up wX wY:=by rw[hwY];exact(Up.refl _).alloc _
    have nbY:Nb wY wX.heap.size ⟨41,0,nm2,nob⟩ (.slice none 0 0):=by rw[hwY];exact heap_alloc_new wX _
    have UY:=Lib.hid uY;have NY:=Lib.hid nbY;clear uY nbY hwY;go_wp2_with fail
    go_ret
    rw[HG.out];have ez:=qY (nd 41 nm2 .nil) sX;have z2:=GX.out.size;have z0:=U0.out.size;refine PaT.mk (((Gs.of U0.out).trans GX.out).trans (Gs.of UY.out)) (by rw[show rI _=_ from congrArg Prod.fst ez,show rE _=_ from congrArg Prod.snd ez];exact PX.out.up UY.out) fun t j ht=>?_
    obtain⟨h0,rfl⟩:=yY _ _ ht;exact kR (x:=⟨41,0,nm2,nob⟩) NY.out ⟨by omega,qC NY.out⟩
end
end Go.Proofs.YtgeghilbikljcaaGreatDoor
