/-
  Layer 7, the program's expr: behind let.
-/
import Derived.Test.YtbpijnalmakfaaaGreatDoorGw28
set_option maxHeartbeats 40000000
set_option maxRecDepth 100000
namespace Go.Proofs.YtbpijnalmakfaaaGreatDoor
open Go.RowKit
section
variable {V0:World} {v:Value} {l:List Te} {b:Nat}
theorem yVm (P:Px9 V0 v l b) (E:Nat→Rs Tr) (hE:∀j,j≤l.length→In l.length j (E j)) (i:Nat) (e:Int) (hi:i≤l.length) (hi1:i+1≤l.length) (h1:tkB (tks l) i e kFn=false) (h2:tkB (tks l) i e kLet=true)
  (cE:∀(j:Nat) (e':Int),j≤l.length→(e'=0→e=0∧i<j)→RuAt V0 v b 26 E j e') (w:World) (hu:Up V0 w) (h:Psr w b v i e) :
  Calls Tryz.prog 26 #[.agg #[.pointer (some ⟨b,0,none⟩)]] w (PaT (On b) b v (at0 (letS B.nck l E) (i+1,e)) (fun _ _=>True) w):=by
 have hb:b<w.heap.size:=qC h;have hll:=P.Q.hl;have hbV:=P.Q.hb;obtain⟨s1,hs1⟩:∃s,nS B.nck (tks l) (i+1,e)=s:=⟨_,rfl⟩;obtain⟨sA,hsA⟩:∃s,kS (tks l) kEq s1=s:=⟨_,rfl⟩;obtain⟨XA,hXA⟩:∃X,at0 E sA=X:=⟨_,rfl⟩;obtain⟨sB,hsB⟩:∃s,kS (tks l) kIn (stO XA)=s:=⟨_,rfl⟩;obtain⟨XB,hXB⟩:∃X,at0 E sB=X:=⟨_,rfl⟩;obtain⟨nm,hnm⟩:∃n,nmS (nam B.nck (tks l) (i+1)) e=n:=⟨_,rfl⟩;have rA:rS E sA=stO XA:=by unfold rS;rw[hXA]
 have rB:rS E sB=stO XB:=by unfold rS;rw[hXB]
 have l1:s1.1≤l.length:=by rw[←hs1];exact zTe l _ hi1
 have lA:sA.1≤l.length:=by rw[←hsA];exact mQ l _ l1
 have mA:(stO XA).1≤l.length:=by rw[←rA];exact bT hE lA
 have lB:sB.1≤l.length:=by rw[←hsB];exact mQ l _ mA
 have mB:(stO XB).1≤l.length:=by rw[←rB];exact bT hE lB
 have hA0:sA.2=0→e=0∧i<sA.1:=fun h0=>by
  rw[←hsA] at h0;obtain⟨a1,b1⟩:=mR h0;rw[hsA] at b1;rw[←hs1] at a1;obtain⟨a2,b2⟩:=zOv a1;rw[hs1] at b2;exact⟨a2,by have b2:i+1<s1.1:=b2;omega⟩
 have hB0:sB.2=0→e=0∧i<sB.1:=fun h0=>by
  rw[←hsB] at h0;obtain⟨a1,b1⟩:=mR h0;rw[hsB] at b1;rw[←rA] at a1 b1;obtain⟨a2,b2⟩:=uH hE lA a1;obtain⟨a3,b3⟩:=hA0 a2;exact⟨a3,by omega⟩
 have hst:stO (at0 (letS B.nck l E) (i+1,e))=kS (tks l) kEnd (stO XB):=by
  rw[←rB,←hsB,←rA,←hsA,←hs1];exact dX (G:=letG B.nck l E) ((jC _ _).comp ((xC _).comp ((jC _ _).comp ((xC _).comp ((jC _ _).comp (zRz _ _)))))) fun _=>yV6 hE hi1
 have hval:∀u j,at0 (letS B.nck l E) (i+1,e) = .inl (u,j)→∃t b' j3 j4,XA = .inl (t,j3)∧XB = .inl (b',j4)∧u=(⟨29,0,nm,nob⟩,fr2 t b'):=fun u j hu=>by
  by_cases he:e=0
  ·subst he
   rw[qR] at hu;obtain⟨s,t,b',j1,j2,j3,j4,a1,a2,a3,a4,a5,rfl⟩:=zA8 hE hi1 hu;have q1:sA=(j1,0):=by rw[←hsA,←hs1];exact a2
   have qA:XA = .inl (t,j2):=by rw[←hXA,q1,qR];exact a3
   have qB:sB=(j3,0):=by rw[←hsB,qA];exact a4
   have hn:=hnm;rw[a1] at hn;have hn:s=nm:=hn;exact⟨t,b',j2,j4,qA,by rw[←hXB,qB,qR];exact a5,by rw[hn];rfl⟩
  ·rw[kP _ (show ¬(i+1,e).2=0 from he)] at hu
   cases hu
 obtain⟨W0,hW0⟩:∃W0,w.alloc (.cells #[.pointer (some ⟨b,0,none⟩)] 62)=W0:=⟨_,rfl⟩;have u0:Up w W0:=by rw[←hW0];exact(Up.refl w).alloc _
 have b1:W0.heap[w.heap.size]? = some (.cells #[.pointer (some ⟨b,0,none⟩)] 62 (0,0)):=by rw[←hW0];exact heap_alloc_new w _
 have hgU:∀w',Gs (On b) W0 w'→Up V0 w':=fun w' g=>g.up (hu.trans u0) fun q hq=>by rw[hq];exact hbV
 have hgB:∀w',Gs (On b) W0 w'→w'.cell? ⟨w.heap.size,0,none⟩=some (.pointer (some ⟨b,0,none⟩)):=fun w' g=>cell_of_row w' w.heap.size 0 _ _ _ (g.row b1 (by unfold On;omega))
 have c1:=kQ P.Q hi kFn h1 W0 (hu.trans u0) (h.up u0);have hz0:W0.heap.size=w.heap.size+1:=by rw[←hW0];simp
 have HPX:=Lib.hid P;have HCE:=Lib.hid cE;have HGU:=Lib.hid hgU;have HGB:=Lib.hid hgB;have HW0:=Lib.hid hW0;have U0:=Lib.hid u0;have H2:=Lib.hid h2;have HST:=Lib.hid hst;have HVAL:=Lib.hid hval;have HS1:=Lib.hid hs1;have HSA:=Lib.hid hsA;have HSB:=Lib.hid hsB;have HXA:=Lib.hid hXA;have HXB:=Lib.hid hXB;have HNM:=Lib.hid hnm;have HA0:=Lib.hid hA0;have HB0:=Lib.hid hB0;clear hW0 u0 b1 h hu cE P hgU hgB h1 h2 hst hval hs1 hsA hsB hXA hXB hnm hA0 hB0 rA rB hE
 go_enter Tryz.func26,Tryz.ntmps26
 go_wp2_with fail;rw[HW0.out];refine c1.mono ?_;rintro en w1 ⟨rfl,g1,p1⟩;have c2:=gK HPX.out.Q hi kLet H2.out w1 (HGU.out w1 g1) p1;have k1:=HGB.out w1 g1;have G1:=Lib.hid g1;clear g1 p1 c1;go_wp2_with fail;refine c2.mono ?_;rintro en w2 ⟨rfl,g2,p2⟩;have g2:=G1.out.trans g2;have c3:=zWk HPX.out (i+1) e hi1 w2 p2 (HGU.out w2 g2);rw[HS1.out,HNM.out] at c3;have k2:=HGB.out w2 g2;have G2:=Lib.hid g2;clear g2 p2 c2;go_wp2_with fail;refine c3.mono ?_;rintro en w3 ⟨rfl,g3,p3⟩;have g3:=G2.out.trans g3;have z3:=g3.size;obtain⟨w4,hw4⟩:∃w4,w3.alloc (.cells #[.int .i64 29,.int .i64 0,.string nm,.string ⟨#[]⟩,.slice none 0 0] 57)=w4:=⟨_,rfl⟩;have u4:Up w3 w4:=by rw[←hw4];exact(Up.refl w3).alloc _
 have nb4:Nb w4 w3.heap.size ⟨29,0,nm,nob⟩ (.slice none 0 0):=by rw[←hw4];exact heap_alloc_new w3 _
 have g4:Gs (On b) W0 w4:=g3.trans (Gs.of u4);have p4:=p3.up u4;have z4:w4.heap.size=w3.heap.size+1:=by rw[←hw4];simp
 have k3:=HGB.out w3 g3;have k4:=HGB.out w4 g4;have cA:=fun w' (u:Up w4 w')=>wI HPX.out E kEq s1.1 s1.2 l1 w' (p4.up u) ((HGU.out w4 g4).trans u) (by rw[show kS (tks l) kEq (s1.1,s1.2)=sA from HSA.out];exact HCE.out _ _ lA HA0.out)
 rw[show at0 E (kS (tks l) kEq (s1.1,s1.2))=XA from by rw[show kS (tks l) kEq (s1.1,s1.2)=sA from HSA.out];exact HXA.out] at cA;have CA:=Lib.hid cA;have HW4:=Lib.hid hw4;have NB4:=Lib.hid nb4;have G4:=Lib.hid g4;have hwl:w.heap.size<w4.heap.size:=by omega
 have hml:w3.heap.size<w4.heap.size:=by omega
 have hwm:w.heap.size≠w3.heap.size:=by omega
 clear g3 p3 c3 hw4 u4 nb4 g4 p4 cA;go_wp2_with fail;rw[HW4.out]
 go_region_held3 (fun w'=>w'.cell? ⟨w.heap.size,0,none⟩=some (.pointer (some ⟨b,0,none⟩))) (first | go_keep | assumption | exact((Up.refl _).alloc _).cell (by rw[xM _ _ _ (by simp only;omega)];assumption)) (first
  | (go_at_call 51;refine(CA.out _ (by first | exact Below.refl _ _ | exact qD (Below.refl _ _) 1)).mono ?_;rintro e6 w6 hP;obtain⟨A6,rfl,g6,p6,n6⟩:=hP.psr;have g6:Gs (On b) w4 w6:=⟨g6.os,g6.tape,g6.output,g6.size,g6.block⟩;have n6:∀t j,XA = .inl (t,j)→NewT w4 w6 (.pointer A6) t:=n6;have z6:=g6.size;have hwl6:w.heap.size<w6.heap.size:=(by omega);have k6:=HGB.out w6 (G4.out.trans g6);have G6:=Lib.hid g6;have P6:=Lib.hid p6;have N6:=Lib.hid n6;clear g6 p6 n6 hP CA)
  | (go_at_call 51;refine(wI HPX.out E kIn (rI XA) (rE XA) mA _ (by first | exact P6.out | exact P6.out.up (qD (Below.refl _ _) 1)) (by first | exact HGU.out w6 (G4.out.trans G6.out) | exact(HGU.out w6 (G4.out.trans G6.out)).trans (qD (Below.refl _ _) 1)) (by rw[show kS (tks l) kIn (rI XA,rE XA)=sB from HSB.out];exact HCE.out _ _ lB HB0.out)).mono ?_;rintro e7 w7 hP;rw[show at0 E (kS (tks l) kIn (rI XA,rE XA))=XB from by rw[show kS (tks l) kIn (rI XA,rE XA)=sB from HSB.out];exact HXB.out] at hP;obtain⟨A7,rfl,g7,p7,n7⟩:=hP.psr;have g7:Gs (On b) w6 w7:=⟨g7.os,g7.tape,g7.output,g7.size,g7.block⟩;have n7:∀t j,XB = .inl (t,j)→NewT w6 w7 (.pointer A7) t:=n7;have z7:=g7.size;have nb7:=g7.row (G6.out.row NB4.out (by unfold On;omega)) (by unfold On;omega);have c74:w7.cell? ⟨w3.heap.size,4,none⟩=some (.slice none 0 0):=cell_of_row w7 _ 4 _ _ _ nb7;have f74:w7.frozen? ⟨w3.heap.size,4,none⟩=false:=frozen_of_row w7 _ 4 _ _ nb7;have hb7:w3.heap.size<w7.heap.size:=qC nb7;have k7:=HGB.out w7 ((G4.out.trans G6.out).trans g7);have G7:=Lib.hid g7;have P7:=Lib.hid p7;have N7:=Lib.hid n7;have NB7:=Lib.hid nb7;clear g7 p7 n7 nb7 hP))
 clear ‹(World.alloc _ _).cell? _=_›;obtain⟨WF,hWF⟩:∃WF,(w7.setCell ⟨w3.heap.size,4,none⟩ (.slice (some ⟨w7.heap.size,0,none⟩) 2 2)).alloc (.cells #[.pointer A6,.pointer A7] 24)=WF:=⟨_,rfl⟩;obtain⟨gF,hF⟩:=fill2 (W:=w) (w4:=w4) (x:=⟨29,0,nm,nob⟩) (A:=A6) (C:=A7) NB7.out (by omega) (by omega) (by omega) WF hWF;have gA:Gs (On b) W0 w7:=(G4.out.trans G6.out).trans G7.out;have gW:Gs (On b) W0 WF:=⟨gF.os.trans gA.os,gF.tape.trans gA.tape,gF.output.trans gA.output,Nat.le_trans gA.size gF.size,fun q hq hn=>(gF.block q (by have:=gA.size;omega) (by unfold On;omega)).trans (gA.block q hq hn)⟩;have pF:Psr WF b v (rI XB) (rE XB):=gF.row P7.out (by unfold On;omega);have zF:=gF.size;have cZ:=xF b v (rI XB) (rE XB) kEnd WF HPX.out.Q.T pF (HGU.out WF gW) (by have:rI XB≤l.length:=mB;omega);have kF:=HGB.out WF gW;have GW:=Lib.hid gW;have HF:=Lib.hid hF;rw[hWF];clear hWF gF hF gA gW pF;go_wp2_with fail;refine cZ.mono ?_;rintro en w8 ⟨⟨u8,rfl⟩,g8,p8⟩;have k8:=HGB.out w8 (GW.out.trans g8);have G8:=Lib.hid g8;have P8:=Lib.hid p8;clear g8 p8 cZ;go_wp2_with fail
 go_ret
 have p8:Psr w8 b v (kS (tks l) kEnd (stO XB)).1 (kS (tks l) kEnd (stO XB)).2:=P8.out;have e1:rI (at0 (letS B.nck l E) (i+1,e))=(kS (tks l) kEnd (stO XB)).1:=congrArg Prod.fst HST.out;have e2:rE (at0 (letS B.nck l E) (i+1,e))=(kS (tks l) kEnd (stO XB)).2:=congrArg Prod.snd HST.out;refine PaT.mk ((Gs.of U0.out).trans (GW.out.trans G8.out)) (by rw[e1,e2];exact p8) fun t j ht=>?_
 obtain⟨t,b',j3,j4,hA,hB,rfl⟩:=HVAL.out t j ht;have hn:NewT w WF (.pointer (some ⟨w3.heap.size,0,none⟩)) (⟨29,0,nm,nob⟩,fr2 t b'):=HF.out t b' ((N6.out t j3 hA).gs G7.out fun q hq=>by rw[hq];omega) ((N7.out b' j4 hB).base (by omega));exact hn.gs G8.out fun q hq=>by rw[hq];omega
end
theorem zLq {W w:World} {va vb vc:Value} {a b c:Tr} {k:Int} (hW:W.heap.size≤w.heap.size) (ha:NewT W w va a) (hb:NewT W w vb b) (hc:NewT W w vc c) :
  NewT W ((w.alloc (.cells #[va,vb,vc] 24)).alloc (.cells #[.int .i64 k,.int .i64 0,.string nob,.string ⟨#[]⟩,.slice (some ⟨w.heap.size,0,none⟩) 3 3] 57)) (.pointer (some ⟨w.heap.size+1,0,none⟩)) (nd k nob (fr3 a b c)):=by
 have e1:(w.alloc (.cells #[va,vb,vc] 24)).heap.size=w.heap.size+1:=by simp
 rw[←e1];obtain⟨W1,hW1⟩:∃W1,w.alloc (.cells #[va,vb,vc] 24)=W1:=⟨_,rfl⟩;have s1:W1.heap[w.heap.size]? = some (.cells #[va,vb,vc] 24 (0,0)):=by rw[←hW1];exact heap_alloc_new w _
 have u1:Up w W1:=by rw[←hW1];exact(Up.refl w).alloc _
 have z1:=u1.size;rw[hW1];obtain⟨W2,hW2⟩:∃W2,W1.alloc (.cells #[.int .i64 k,.int .i64 0,.string nob,.string ⟨#[]⟩,.slice (some ⟨w.heap.size,0,none⟩) 3 3] 57)=W2:=⟨_,rfl⟩;have s2:W2.heap[W1.heap.size]? = some (.cells #[.int .i64 k,.int .i64 0,.string nob,.string ⟨#[]⟩,.slice (some ⟨w.heap.size,0,none⟩) 3 3] 57 (0,0)):=by rw[←hW2];exact heap_alloc_new W1 _
 have u2:Up W1 W2:=by rw[←hW2];exact(Up.refl W1).alloc _
 have s3:W2.heap[w.heap.size]? = some (.cells #[va,vb,vc] 24 (0,0)):=u2.row s1;rw[hW2];exact yU (x:=⟨k,0,nob,nob⟩) (f:=fr3 a b c) s2 rfl (Nat.le_refl _) ⟨by omega,qC s2⟩ ⟨hW,qC s3⟩ ⟨⟨_,cell_of_row W2 w.heap.size 0 _ _ _ s3,ha.up (u1.trans u2)⟩,⟨_,cell_of_row W2 w.heap.size 1 _ _ _ s3,hb.up (u1.trans u2)⟩,⟨_,cell_of_row W2 w.heap.size 2 _ _ _ s3,hc.up (u1.trans u2)⟩,trivial⟩
section
variable {V0:World} {v:Value} {l:List Te} {b:Nat}
theorem ex_if (P:Px9 V0 v l b) (E:Nat→Rs Tr) (hE:∀j,j≤l.length→In l.length j (E j)) (i:Nat) (e:Int) (hi:i≤l.length) (hi1:i+1≤l.length) (h1:tkB (tks l) i e kFn=false) (h2:tkB (tks l) i e kLet=false) (h3:tkB (tks l) i e kIf=true)
  (cE:∀(j:Nat) (e':Int),j≤l.length→(e'=0→e=0∧i<j)→RuAt V0 v b 26 E j e') (w:World) (hu:Up V0 w) (h:Psr w b v i e) :
  Calls Tryz.prog 26 #[.agg #[.pointer (some ⟨b,0,none⟩)]] w (PaT (On b) b v (at0 (ifS l E) (i+1,e)) (fun _ _=>True) w):=by
 have hb:b<w.heap.size:=qC h;have hll:=P.Q.hl;have hbV:=P.Q.hb;obtain⟨X1,hX1⟩:∃X,at0 E (i+1,e)=X:=⟨_,rfl⟩;obtain⟨s1,hs1⟩:∃s,kS (tks l) kThen (stO X1)=s:=⟨_,rfl⟩;obtain⟨X2,hX2⟩:∃X,at0 E s1=X:=⟨_,rfl⟩;obtain⟨s2,hs2⟩:∃s,kS (tks l) kElse (stO X2)=s:=⟨_,rfl⟩;obtain⟨X3,hX3⟩:∃X,at0 E s2=X:=⟨_,rfl⟩;have r1:rS E (i+1,e)=stO X1:=by unfold rS;rw[hX1]
 have r2:rS E s1=stO X2:=by unfold rS;rw[hX2]
 have r3:rS E s2=stO X3:=by unfold rS;rw[hX3]
 have m1:(stO X1).1≤l.length:=by rw[←r1];exact bT hE hi1
 have l1:s1.1≤l.length:=by rw[←hs1];exact mQ l _ m1
 have m2:(stO X2).1≤l.length:=by rw[←r2];exact bT hE l1
 have l2:s2.1≤l.length:=by rw[←hs2];exact mQ l _ m2
 have h10:s1.2=0→e=0∧i<s1.1:=fun h0=>by
  rw[←hs1] at h0;obtain⟨a1,b1⟩:=mR h0;rw[hs1] at b1;rw[←r1] at a1 b1;obtain⟨a2,b2⟩:=uH hE hi1 a1;exact⟨a2,by have b2:i+1<(rS E (i+1,e)).1:=b2;omega⟩
 have h20:s2.2=0→e=0∧i<s2.1:=fun h0=>by
  rw[←hs2] at h0;obtain⟨a1,b1⟩:=mR h0;rw[hs2] at b1;rw[←r2] at a1 b1;obtain⟨a2,b2⟩:=uH hE l1 a1;obtain⟨a3,b3⟩:=h10 a2;exact⟨a3,by omega⟩
 have hst:stO (at0 (ifS l E) (i+1,e))=stO X3:=by
  rw[←r3,←hs2,←r2,←hs1,←r1];exact dX (G:=ifG l E) ((xC _).comp ((jC _ _).comp ((xC _).comp ((jC _ _).comp (xC _))))) fun _=>if_st hE hi1
 have hval:∀u j,at0 (ifS l E) (i+1,e) = .inl (u,j)→∃a b' c j1 j2 j3,X1 = .inl (a,j1)∧X2 = .inl (b',j2)∧X3 = .inl (c,j3)∧u=nd 30 nob (fr3 a b' c):=fun u j hu=>by
  by_cases he:e=0
  ·subst he
   rw[qR] at hu;obtain⟨a,b',c,j1,j2,j3,j4,a1,a2,a3,a4,a5,rfl⟩:=yV7 hE hi1 hu;have q1:X1 = .inl (a,j1):=by rw[←hX1,qR];exact a1
   have q2:s1=(j2,0):=by rw[←hs1,q1];exact a2
   have q3:X2 = .inl (b',j3):=by rw[←hX2,q2,qR];exact a3
   have q4:s2=(j4,0):=by rw[←hs2,q3];exact a4
   exact⟨a,b',c,j1,j3,_,q1,q3,by rw[←hX3,q4,qR];exact a5,rfl⟩
  ·rw[kP _ (show ¬(i+1,e).2=0 from he)] at hu
   cases hu
 obtain⟨W0,hW0⟩:∃W0,w.alloc (.cells #[.pointer (some ⟨b,0,none⟩)] 62)=W0:=⟨_,rfl⟩;have u0:Up w W0:=by rw[←hW0];exact(Up.refl w).alloc _
 have b1:W0.heap[w.heap.size]? = some (.cells #[.pointer (some ⟨b,0,none⟩)] 62 (0,0)):=by rw[←hW0];exact heap_alloc_new w _
 have hgU:∀w',Gs (On b) W0 w'→Up V0 w':=fun w' g=>g.up (hu.trans u0) fun q hq=>by rw[hq];exact hbV
 have hgB:∀w',Gs (On b) W0 w'→w'.cell? ⟨w.heap.size,0,none⟩=some (.pointer (some ⟨b,0,none⟩)):=fun w' g=>cell_of_row w' w.heap.size 0 _ _ _ (g.row b1 (by unfold On;omega))
 have c1:=kQ P.Q hi kFn h1 W0 (hu.trans u0) (h.up u0);have hz0:W0.heap.size=w.heap.size+1:=by rw[←hW0];simp
 have HPX:=Lib.hid P;have HCE:=Lib.hid cE;have HGU:=Lib.hid hgU;have HGB:=Lib.hid hgB;have HW0:=Lib.hid hW0;have U0:=Lib.hid u0;have H2:=Lib.hid h2;have H3:=Lib.hid h3;have HST:=Lib.hid hst;have HVAL:=Lib.hid hval;have HS1:=Lib.hid hs1;have HS2:=Lib.hid hs2;have HX1:=Lib.hid hX1;have HX2:=Lib.hid hX2;have HX3:=Lib.hid hX3;have H10:=Lib.hid h10;have H20:=Lib.hid h20;clear hW0 u0 b1 h hu cE P hgU hgB h1 h2 h3 hst hval hs1 hs2 hX1 hX2 hX3 h10 h20 r1 r2 r3 hE
 go_enter Tryz.func26,Tryz.ntmps26
 go_wp2_with fail;rw[HW0.out];refine c1.mono ?_;rintro en w1 ⟨rfl,g1,p1⟩;have c2:=kQ HPX.out.Q hi kLet H2.out w1 (HGU.out w1 g1) p1;have k1:=HGB.out w1 g1;have G1:=Lib.hid g1;clear g1 p1 c1;go_wp2_with fail;refine c2.mono ?_;rintro en w2 ⟨rfl,g2,p2⟩;have g2:=G1.out.trans g2;have c3:=gK HPX.out.Q hi kIf H3.out w2 (HGU.out w2 g2) p2;have k2:=HGB.out w2 g2;have G2:=Lib.hid g2;clear g2 p2 c2;go_wp2_with fail;refine c3.mono ?_;rintro en w3 ⟨rfl,g3,p3⟩;have g3:=G2.out.trans g3;have z3:=g3.size;have cA:=fun w' (u:Up w3 w')=>HCE.out (i+1) e hi1 (fun h0=>⟨h0,Nat.lt_succ_self i⟩) w' ((HGU.out w3 g3).trans u) (p3.up u)
 rw[HX1.out] at cA;have CA:=Lib.hid cA;have k3:=HGB.out w3 g3;have G3:=Lib.hid g3;have hwl:w.heap.size<w3.heap.size:=by omega
 clear g3 p3 c3 cA;go_wp2_with fail
 go_region_held3 (fun w'=>w'.cell? ⟨w.heap.size,0,none⟩=some (.pointer (some ⟨b,0,none⟩))) (first | go_keep | assumption | exact((Up.refl _).alloc _).cell (by assumption)) (first
  | (go_at_call 26;refine(CA.out _ (by first | exact Below.refl _ _ | exact qD (Below.refl _ _) 1)).mono ?_;rintro e6 w6 hP;obtain⟨A6,rfl,g6,p6,n6⟩:=hP.psr;have g6:Gs (On b) w3 w6:=⟨g6.os,g6.tape,g6.output,g6.size,g6.block⟩;have n6:∀t j,X1 = .inl (t,j)→NewT w3 w6 (.pointer A6) t:=n6;have z6:=g6.size;have hwl6:w.heap.size<w6.heap.size:=(by omega);have k6:=HGB.out w6 (G3.out.trans g6);have G6:=Lib.hid (G3.out.trans g6);have P6:=Lib.hid p6;have N6:=Lib.hid n6;clear g6 p6 n6 hP CA)
  | (go_at_call 51;have q6:=P6.out;refine(wI HPX.out E kThen (rI X1) (rE X1) m1 _ (by first | exact P6.out | exact P6.out.up (qD (Below.refl _ _) 1)) (by first | exact HGU.out w6 G6.out | exact(HGU.out w6 G6.out).trans (qD (Below.refl _ _) 1)) (by rw[show kS (tks l) kThen (rI X1,rE X1)=s1 from HS1.out];exact HCE.out _ _ l1 H10.out)).mono ?_;rintro e7 w7 hP;rw[show at0 E (kS (tks l) kThen (rI X1,rE X1))=X2 from by rw[show kS (tks l) kThen (rI X1,rE X1)=s1 from HS1.out];exact HX2.out] at hP;obtain⟨A7,rfl,g7,p7,n7⟩:=hP.psr;have g7:Gs (On b) w6 w7:=⟨g7.os,g7.tape,g7.output,g7.size,g7.block⟩;have n7:∀t j,X2 = .inl (t,j)→NewT w6 w7 (.pointer A7) t:=n7;have z7:=g7.size;have hwl7:w.heap.size<w7.heap.size:=(by omega);have k7:=HGB.out w7 (G6.out.trans g7);have G7:=Lib.hid g7;have P7:=Lib.hid p7;have N7:=Lib.hid n7;clear g7 p7 n7 hP P6 q6)
  | (go_at_call 51;have q7:=P7.out;refine(wI HPX.out E kElse (rI X2) (rE X2) m2 _ (by first | exact P7.out | exact P7.out.up (qD (Below.refl _ _) 1)) (by first | exact HGU.out w7 (G6.out.trans G7.out) | exact(HGU.out w7 (G6.out.trans G7.out)).trans (qD (Below.refl _ _) 1)) (by rw[show kS (tks l) kElse (rI X2,rE X2)=s2 from HS2.out];exact HCE.out _ _ l2 H20.out)).mono ?_;rintro e8 w8 hP;rw[show at0 E (kS (tks l) kElse (rI X2,rE X2))=X3 from by rw[show kS (tks l) kElse (rI X2,rE X2)=s2 from HS2.out];exact HX3.out] at hP;obtain⟨A8,rfl,g8,p8,n8⟩:=hP.psr;have g8:Gs (On b) w7 w8:=⟨g8.os,g8.tape,g8.output,g8.size,g8.block⟩;have n8:∀t j,X3 = .inl (t,j)→NewT w7 w8 (.pointer A8) t:=n8;have z8:=g8.size;have hwl8:w.heap.size<w8.heap.size:=(by omega);have k8:=HGB.out w8 ((G6.out.trans G7.out).trans g8);have G8:=Lib.hid g8;have P8:=Lib.hid p8;have N8:=Lib.hid n8;clear g8 p8 n8 hP P7 q7)
  | (go_at_call 53;refine(xA _ _ _ _ _).mono ?_;rintro e9 w9 ⟨rfl,h9⟩;have k9:w9.cell? ⟨w.heap.size,0,none⟩=some (.pointer (some ⟨b,0,none⟩)):=(by rw[h9];exact(((Up.refl w8).alloc _).alloc _).cell k8);have H9:=Lib.hid h9;clear h9))
 all_goals go_wp2_with fail
 go_ret
 have u9:Up w8 w9:=by rw[H9.out];exact((Up.refl w8).alloc _).alloc _
 have e1:rI (at0 (ifS l E) (i+1,e))=rI X3:=congrArg Prod.fst HST.out;have e2:rE (at0 (ifS l E) (i+1,e))=rE X3:=congrArg Prod.snd HST.out;refine PaT.mk ((Gs.of U0.out).trans (((G6.out.trans G7.out).trans G8.out).trans (Gs.of u9))) (by rw[e1,e2];exact P8.out.up u9) fun t j ht=>?_
 obtain⟨a,b',c,j1,j2,j3,hA,hB,hC,rfl⟩:=HVAL.out t j ht;rw[H9.out];exact zLq (by omega) (((N6.out a j1 hA).gsb G7.out (by omega)).gsb G8.out (by omega) |>.base (by omega)) (((N7.out b' j2 hB).gsb G8.out (by omega)).base (by omega)) ((N8.out c j3 hC).base (by omega))
end
section
variable {nk:ByteArray→Bool} {l:List Te} {X:Nat→Nat→Rs Tr}
def partA (nk:ByteArray→Bool) (l:List Te) (X:Nat→Nat→Rs Tr) (n:Nat) (acc:Fr) (i:Nat):Rs Tr:=if i≤l.length then (match n-acc.len with
 | 0=>.inr (i,6)
 | k+1=>sT nk l (X k) i) else .inr (i,6)
theorem zTg (hX:∀n j,j≤l.length→In l.length j (X n j)) (n:Nat) (acc:Fr) {i:Nat} (hi:i≤l.length):In l.length i (partA nk l X n acc i):=by
 unfold partA;rw[if_pos hi]
 split
 ·exact⟨Nat.le_refl _,hi,.inl rfl⟩
 ·exact zGp (hX _) hi
theorem zTh (hX:∀n j,j≤l.length→In l.length j (X n j)) (n:Nat) (acc:Fr) (i:Nat):Ahead i (partA nk l X n acc i):=by
 by_cases hi:i≤l.length
 ·have h:=zTg (nk:=nk) hX n acc hi
  cases hR:partA nk l X n acc i with
  | inl r=>rw[hR] at h;exact h.1
  | inr r=>rw[hR] at h;exact h.1
 ·unfold partA
  rw[if_neg hi];exact Nat.le_refl _
theorem In.leok7 {α:Type} {N i:Nat} {R:Rs α} (h:In N i R):LeOk N R:=by
 refine⟨?_,fun _ _ he=>h.ne he⟩
 cases R with
 | inl r=>exact h.2
 | inr r=>exact h.2.1
theorem zLr (n:Nat) (acc:Fr) (i:Nat) (hi:i≤l.length):rowA nk l X (n-acc.len) i acc=rowS (tks l) kBar (partA nk l X n acc i) acc fun a j=>rowA nk l X (n-a.len) j a:=by
 unfold partA;rw[if_pos hi]
 cases hk:n-acc.len with
 | zero=>rfl
 | succ k=>
  rw[show rowA nk l X (k+1) i acc=thn (sT nk l (X k) i) fun a j=>if key (tks l) j kBar then rowA nk l X k (j+1) (acc.app (fr1 a)) else .inl (acc.app (fr1 a),j) from rfl];simp only
  cases hR:sT nk l (X k) i with
  | inr r=>rfl
  | inl r=>
   obtain⟨t,j⟩:=r
   show(if key (tks l) j kBar=true then rowA nk l X k (j+1) (acc.app (fr1 t)) else _)=(if key (tks l) j kBar=true then rowA nk l X (n-(acc.app (fr1 t)).len) (j+1) (acc.app (fr1 t)) else _)
   rw[show n-(acc.app (fr1 t)).len=k from by rw[Fr.len_app];show n-(acc.len+1)=k;omega]
end
section
variable {V0:World} {v:Value} {l:List Te} {b:Nat}
theorem zAl (P:Px9 V0 v l b) (X:Nat→Nat→Rs Tr) (hX:∀n j,j≤l.length→In l.length j (X n j)) (n i:Nat) (e:Int) (hi:i≤l.length) (hn:e=0→l.length+1≤n+i) (cX:∀(k j:Nat) (e':Int),j≤l.length→(e'=0→e=0∧∃a,k+a+1=n∧i+a<j)→RuAt V0 v b 26 (X k) j e') (w:World) (h:Psr w b v i e) (hu:Up V0 w) :
  Calls Tryz.prog 118 #[.pointer (some ⟨b,0,none⟩),.string kBar,.func (.func 119) #[.agg #[.pointer (some ⟨b,0,none⟩)]] #[]] w (RowP (On b) b v (at0 (fun i=>rowA B.nck l X n i .nil) (i,e)) (fun _ _=>True) w):=by
 have hb:=qC h
 by_cases he:e=0
 ·subst he
  rw[qR];exact eE (W0:=V0) (l:=tks l) b v (On b) (fun k hk=>by rw[hk];exact hb) rfl (fun k hk=>by rw[hk];exact P.Q.hb) kBar (partA B.nck l X n) (fun acc i=>zTh hX n acc i) (fun acc i hi=>by rw[yV] at hi ⊢;exact(zTg hX n acc hi).leok7) 119 #[.agg #[.pointer (some ⟨b,0,none⟩)]] #[] (fun _ _=>by kernel_rfl)
   (fun _ _=>True) (fun _ _ _ _ _=>trivial) (fun a j=>rowA B.nck l X (n-a.len) j a) (fun acc j hj=>by rw[yV] at hj;exact zLr n acc j hj) i (by rw[yV];exact hi)
   (fun acc j w' h1 h2 h3 g _ p=>by
    rw[yV] at h2;have hn:=hn rfl;obtain⟨k,hk⟩:∃k,n-acc.len=k+1:=⟨n-acc.len-1,by omega⟩;have c:=zF5 P (X k) (hX k) j 0 h2 (fun j' e' hj' h'=>cX k j' e' hj' fun h0=>⟨rfl,acc.len,by omega,by have:=(h' h0).2;omega⟩) w' (g.up hu fun q hq=>by rw[hq];exact P.Q.hb) p;rw[qR] at c;have e:partA B.nck l X n acc j=sT B.nck l (X k) j:=by unfold partA;rw[if_pos h2,hk]
    rw[e];exact c) P.Q.T hu (by rw[yV];exact P.Q.hl) h trivial
 ·rw[kP _ (show ¬(i,e).2=0 from he)]
  have c:=zF5 P (X 0) (hX 0) i e hi (fun j' e' hj' h'=>cX 0 j' e' hj' fun h0=>absurd (h' h0).1 he) w hu h;exact eF (W0:=V0) (l:=tks l) b v (On b) (fun k hk=>by rw[hk];exact hb) rfl (fun k hk=>by rw[hk];exact P.Q.hb) kBar 119 #[.agg #[.pointer (some ⟨b,0,none⟩)]] #[] (fun _ _=>by kernel_rfl) i e he _ (kP _ (show ¬(i,e).2=0 from he)) (fun _ _=>True) c (fun _ _=>True) P.Q.T hu (by have:=P.Q.hl;omega)
end
def Thr (a b c:Nat) (q:Nat):Prop:=q=a∨q=b∨q=c
theorem PtF.both {w:World} {S:Nat→Prop}:∀{us vs:List Value} {f g:Fr},PtF w S us f→PtF w S vs g→PtF w S (us++vs) (f.app g)
 | [],_,.nil,_,_,k=>k
 | [],_,.cons _ _ _,_,h,_=>h.elim
 | _::_,_,.nil,_,h,_=>h.elim
 | _::us,_,.cons _ _ fs,_,h,k=>⟨h.1,PtF.both (us:=us) (f:=fs) h.2 k⟩
def PA (B0 Bn:Nat) (x:Nod) (C:Rs Fr) (T0:Fr→Prop) (w':World):Prop:=∃g cp ps,w'.ownsRow B0 24 1 (.slice (some ⟨g,0,none⟩) ps.length cp) ps.length ps∧Nb w' Bn x (.slice (some ⟨g,0,none⟩) ps.length cp)∧g≠Bn∧∀f0 f j,T0 f0→C = .inl (f,j)→PtF w' (fun q=>B0≤q∧q<w'.heap.size∧q≠Bn∧q≠g) ps (f0.app f)
theorem zF9 {w w6 w7:World} {b Bn K B0 g6 cp6 g7 cap7 k0:Nat} {v vk u:Value} {x:Nod} {ps0 ps6:List Value} {C:Rs Fr} (_hb:b<w.heap.size) (hbn:b≠Bn) (hbK:b≠K) (hB0:b<B0) (hBn:Bn<w.heap.size) (hKn:K≠Bn) (hK:K<w.heap.size) (hBK:B0≤K) (_hB0w:B0≤w.heap.size)
  (hob:vk.ownBlock=some K) (hl0:ps0.length=k0) (G6:Gs (On b) w w6) (_hg6:w.heap.size≤g6) (hR:match C with
  | .inl (f,j)=>RwT w w6 (.slice (some ⟨g6,0,none⟩) ps6.length cp6) ps6 f∧Psr w6 b v j 0∧True
  | .inr (p,r)=>Psr w6 b v p r) (NB7:Nb w7 Bn x vk) (OW7:w7.ownsRow B0 24 1 (.slice (some ⟨g7,0,none⟩) (k0+ps6.length) cap7) (k0+ps6.length) (ps0++ps6)) (GR7:w6.grownBy w7 vk.ownBlock) (AT7:vk.ownBlock=some g7∨g7=w6.heap.size) :
  InL (Thr b Bn K) b v (rI C) (rE C) (PA B0 Bn x C fun f0=>PtF w (fun q=>B0≤q∧q<w.heap.size∧q≠Bn∧q≠K) ps0 f0) w (.returned u) (w7.setCell ⟨Bn,4,none⟩ (.slice (some ⟨g7,0,none⟩) (k0+ps6.length) cap7)):=by
 have z6:=G6.size;have z7:=GR7.size;have hgK:g7=K∨g7=w6.heap.size:=by
  rcases AT7 with h | h
  ·rw[hob] at h;injection h with h;exact .inl h.symm
  ·exact .inr h
 have h67:∀q,q<w6.heap.size→q≠K→w7.heap[q]? = w6.heap[q]?:=fun q hq hn=>GR7.block q hq fun e=>by rw[hob] at e;injection e with e;exact hn e
 obtain⟨WF,hWF⟩:∃WF,w7.setCell ⟨Bn,4,none⟩ (.slice (some ⟨g7,0,none⟩) (k0+ps6.length) cap7)=WF:=⟨_,rfl⟩;have gF:Gs (Thr b Bn K) w WF:=by
  rw[←hWF];exact((G6.wide (S':=Thr b Bn K) fun k _ hq=>.inl hq).grown GR7 fun g hg=>by rw[hob] at hg;injection hg with hg;exact .inl (.inr (.inr hg.symm))).set _ _ (.inl (.inr (.inl rfl)))
 have nF:Nb WF Bn x (.slice (some ⟨g7,0,none⟩) (k0+ps6.length) cap7):=by rw[←hWF];exact NB7.store _
 have hne:∀q,q≠Bn→WF.heap[q]? = w7.heap[q]?:=fun q hq=>by rw[←hWF];exact Below.heap_setCell _ _ _ _ hq
 have zF:WF.heap.size=w7.heap.size:=by rw[←hWF];simp[World.setCell]
 have oF:WF.ownsRow B0 24 1 (.slice (some ⟨g7,0,none⟩) (k0+ps6.length) cap7) (k0+ps6.length) (ps0++ps6):=by
  rw[←hWF];exact zC OW7 _ _ fun g' e=>by injection e with e;subst e;simp only;omega
 rw[hWF];have hlen:(ps0++ps6).length=k0+ps6.length:=by rw[List.length_append,hl0]
 rw[←hlen] at oF nF;have pr:∀{p:Nat} {r:Int},Psr w6 b v p r→Psr WF b v p r:=fun h=>((hne b hbn).trans (h67 b (by omega) hbK)).trans h
 refine⟨⟨_,rfl⟩,gF,?_,g7,cap7,_,oF,nF,by omega,fun f0 f j h0 hC=>?_⟩
 ·cases C with
  | inl r=>exact pr hR.2.1
  | inr r=>exact pr hR
 ·subst hC
  have hT:RwT w w6 (.slice (some ⟨g6,0,none⟩) ps6.length cp6) ps6 f:=hR.1;refine PtF.both (PtF.keep (fun q hq=>⟨hq.1,by have:=hq.2.1;omega,hq.2.2.1,by have:=hq.2.1;have:=hq.2.2.2;omega⟩) (fun q hq=>?_) h0) (PtF.keep (fun q hq=>by have h1:=hq.1.1;have h2:=hq.1.2;exact⟨by omega,by omega,by omega,by omega⟩) (fun q hq=>by have h1:=hq.1.1;have h2:=hq.1.2;exact(hne q (by omega)).trans (h67 q h2 (by omega))) hT);exact((hne q hq.2.2.1).trans (h67 q (by have:=hq.2.1;omega) hq.2.2.2)).trans (G6.block q hq.2.1 (by have:=hq.1;unfold On;omega))
section
variable {V0:World} {v:Value} {l:List Te} {b:Nat}
theorem zFa (_P:Px9 V0 v l b) (C:Rs Fr) (B1 B2 Bn K B0 k0:Nat) (x:Nod) (vk:Value) (ps0:List Value) (w:World) (hbn:b≠Bn) (hbK:b≠K) (hB0:b<B0) (hKn:K≠Bn) (hBK:B0≤K) (hB0w:B0≤w.heap.size) (h1b:B1≠b) (h2b:B2≠b) (h1n:B1≠Bn) (h1K:B1≠K) (h2K:B2≠K) (hob:vk.ownBlock=some K) (hk2:k0≤2) (hl0:ps0.length=k0)
  (c1:w.heap[B1]? = some (.cells #[.pointer (some ⟨Bn,0,none⟩)] 24 (0,0))) (c2:w.heap[B2]? = some (.cells #[.pointer (some ⟨b,0,none⟩)] 62 (0,0))) (nb:Nb w Bn x vk) (ow:w.ownsRow B0 24 1 vk k0 ps0) (hb:b<w.heap.size)
  (cR:∀w',Up w w'→Calls Tryz.prog 118 #[.pointer (some ⟨b,0,none⟩),.string kBar,.func (.func 119) #[.agg #[.pointer (some ⟨b,0,none⟩)]] #[]] w' (RowP (On b) b v C (fun _ _=>True) w')) :
  Calls Tryz.prog 117 #[.pointer (some ⟨B1,0,none⟩),.pointer (some ⟨B2,0,none⟩)] w (InL (Thr b Bn K) b v (rI C) (rE C) (PA B0 Bn x C fun f0=>PtF w (fun q=>B0≤q∧q<w.heap.size∧q≠Bn∧q≠K) ps0 f0) w):=by
 have k1:w.cell? ⟨B1,0,none⟩=some (.pointer (some ⟨Bn,0,none⟩)):=cell_of_row w B1 0 _ _ _ c1;have k2:w.cell? ⟨B2,0,none⟩=some (.pointer (some ⟨b,0,none⟩)):=cell_of_row w B2 0 _ _ _ c2;have c4:w.cell? ⟨Bn,4,none⟩=some vk:=nb.cell.1;have f4:w.frozen? ⟨Bn,4,none⟩=false:=nb.cell.2;have hb1:=qC c1;have hb2:=qC c2;have hbnw:=qC nb;have hKw:K<w.heap.size:=(ow.lt K hob).2;have h2n:B2≠Bn:=fun e=>by
  subst e;have h:=c2.symm.trans nb;injection h with h;injection h with h;exact absurd (show(1:Nat)=5 from congrArg Array.size h) (by decide)
 have HC1:=Lib.hid c1;have HC2:=Lib.hid c2;have HNB:=Lib.hid nb;have HOW:=Lib.hid ow;have HOB:=Lib.hid hob;have CR:=Lib.hid cR;have e1:some Bn≠vk.ownBlock:=fun e=>by rw[hob] at e;injection e with e;omega
 have e2:some B1≠vk.ownBlock:=fun e=>by rw[hob] at e;injection e with e;omega
 have e3:some B2≠vk.ownBlock:=fun e=>by rw[hob] at e;injection e with e;omega
 clear c1 c2 nb ow hob cR;obtain⟨i0,hi0,hz0,hz1,hz2⟩:=info_parts zUm
 go_enter Tryz.func117,Tryz.ntmps117
 go_wp2_with fail;refine wp_region_held_drew (S:=fun w'=>w'.cell? ⟨B1,0,none⟩=some (.pointer (some ⟨Bn,0,none⟩))∧w'.cell? ⟨B2,0,none⟩=some (.pointer (some ⟨b,0,none⟩))) (by kernel_rfl) (by go_keep) (fun hHeld=>?_);refine wpAnyH_take (i:=0) (oi:={dst:=some 2,op:=.load 24 (.tmp 0),type:=24,pos:= "parse.go:63",after:=#[],guard:=none}) (v:=?_) rfl (by kernel_rfl) (by kernel_rfl) (by kernel_rfl) (fun _ _ _ h=>h) (Or.inl ⟨by rfl,?_⟩) (by assumption) ?_
 rotate_left
 ·(intro w' hSw;(try dsimp only at hSw);go_simp;with_reducible rfl)
 (try simp only[Act.put,List.setIfInBounds_toArray,List.set_cons_zero,List.set_cons_succ])
 refine wpAnyH_take (i:=1) (oi:={dst:=some 3,op:=.load 24 (.tmp 0),type:=24,pos:= "parse.go:63",after:=#[],guard:=none}) (v:=?_) rfl (by kernel_rfl) (by kernel_rfl) (by kernel_rfl) (fun _ _ _ h=>h) (Or.inl ⟨by rfl,?_⟩) (by assumption) ?_
 rotate_left
 ·(intro w' hSw;(try dsimp only at hSw);go_simp;with_reducible rfl)
 (try simp only[Act.put,List.setIfInBounds_toArray,List.set_cons_zero,List.set_cons_succ])
 refine wpAnyH_take (i:=2) (oi:={dst:=some 4,op:=.nilCheck (.tmp 3),type:=0,pos:= "parse.go:63",after:=#[{on:=1,ground:=.data}],guard:=none}) (v:=?_) rfl (by kernel_rfl) (by kernel_rfl) (by kernel_rfl) (fun _ _ _ h=>h) (Or.inl ⟨by rfl,?_⟩) (by assumption) ?_
 rotate_left
 ·(intro w' hSw;(try dsimp only at hSw);go_simp;with_reducible rfl)
 (try simp only[Act.put,List.setIfInBounds_toArray,List.set_cons_zero,List.set_cons_succ])
 refine wpAnyH_take (i:=3) (oi:={dst:=some 5,op:=.fieldAddr 57 (.tmp 4) 4,type:=0,pos:= "parse.go:63",after:=#[{on:=2,ground:=.data}],guard:=none}) (v:=?_) rfl (by kernel_rfl) (by kernel_rfl) (by kernel_rfl) (fun _ _ _ h=>h) (Or.inl ⟨by rfl,?_⟩) (by assumption) ?_
 rotate_left
 ·(intro w' hSw;(try dsimp only at hSw);go_simp;with_reducible rfl)
 (try simp only[Act.put,List.setIfInBounds_toArray,List.set_cons_zero,List.set_cons_succ])
 refine wpAnyH_take (i:=5) (oi:={dst:=some 7,op:=.fieldAddr 62 (.tmp 1) 0,type:=0,pos:= "parse.go:63",after:=#[],guard:=none}) (v:=?_) rfl (by kernel_rfl) (by kernel_rfl) (by kernel_rfl) (fun _ _ _ h=>h) (Or.inl ⟨by rfl,?_⟩) (by assumption) ?_
 rotate_left
 ·(intro w' hSw;(try dsimp only at hSw);go_simp;with_reducible rfl)
 (try simp only[Act.put,List.setIfInBounds_toArray,List.set_cons_zero,List.set_cons_succ])
 refine wpAnyH_take (i:=6) (oi:={dst:=some 8,op:=.load 60 (.tmp 7),type:=60,pos:= "parse.go:63",after:=#[{on:=5,ground:=.data}],guard:=none}) (v:=?_) rfl (by kernel_rfl) (by kernel_rfl) (by kernel_rfl) (fun _ _ _ h=>h) (Or.inl ⟨by rfl,?_⟩) (by assumption) ?_
 rotate_left
 ·(intro w' hSw;(try dsimp only at hSw);go_simp;with_reducible rfl)
 (try simp only[Act.put,List.setIfInBounds_toArray,List.set_cons_zero,List.set_cons_succ])
 refine wpAnyH_take (i:=7) (oi:={dst:=some 9,op:=.load 62 (.tmp 1),type:=62,pos:= "parse.go:63",after:=#[],guard:=none}) (v:=?_) rfl (by kernel_rfl) (by kernel_rfl) (by kernel_rfl) (fun _ _ _ h=>h) (Or.inl ⟨by rfl,?_⟩) (by assumption) ?_
 rotate_left
 ·(intro w' hSw;(try dsimp only at hSw);go_simp;with_reducible rfl)
 (try simp only[Act.put,List.setIfInBounds_toArray,List.set_cons_zero,List.set_cons_succ])
 refine wpAnyH_take (i:=8) (oi:={dst:=some 10,op:=.makeFunc (.func 119) #[.tmp 9] #[],type:=63,pos:= "parse.go:63",after:=#[{on:=7,ground:=.data}],guard:=none}) (v:=?_) rfl (by kernel_rfl) (by kernel_rfl) (by kernel_rfl) (fun _ _ _ h=>h) (Or.inl ⟨by rfl,?_⟩) (by assumption) ?_
 rotate_left
 ·(intro w' hSw;(try dsimp only at hSw);go_simp;with_reducible rfl)
 (try simp only[Act.put,List.setIfInBounds_toArray,List.set_cons_zero,List.set_cons_succ])
 refine wpAnyH_ready (rs:=[4,9]) (by kernel_rfl) (by simp) (AllReadyH.cons (o:={dst:=some 6,op:=.load 55 (.tmp 5),type:=55,pos:= "parse.go:63",after:=#[{on:=3,ground:=.data}],guard:=none}) rfl (fun K hK=>?_) (AllReadyH.cons (o:={dst:=some 11,op:=.call {callee:=.value (.func 118),args:=#[.tmp 8,.const (.string ⟨#[124]⟩),.tmp 10],argTypes:=#[60,9,63]},type:=55,pos:= "parse.go:63",after:=#[{on:=6,ground:=.data},{on:=8,ground:=.data}],guard:=none}) rfl (fun K hK=>?_) AllReadyH.nil))
 rotate_left
 go_simp
 go_at_call 118
 refine(CR.out _ (by first | exact Below.refl _ _ | exact qD (Below.refl _ _) 1)).mono ?_
 rintro e9 w6 ⟨vo6,ps6,rfl,⟨ho6,hpt6⟩,hp06,hpl6,g6,hR6⟩;have g6:Gs (On b) w w6:=⟨g6.os,g6.tape,g6.output,g6.size,g6.block⟩;obtain⟨n6,cp6,rfl,hbg6,hltg6⟩:=ho6.form hp06;have hbg6:w.heap.size≤n6:=hbg6;have hs6:=g6.size;have CL6:=Lib.hid (ho6.cells rfl);have NB6:=Lib.hid (show Nb w6 Bn x vk from g6.row HNB.out (by unfold On;omega));have T16:=Lib.hid (g6.row HC1.out (by unfold On;omega));have T26:=Lib.hid (g6.row HC2.out (by unfold On;omega));have n61:w6.cell? ⟨B1,0,none⟩=some (.pointer (some ⟨Bn,0,none⟩)):=cell_of_row w6 _ 0 _ _ _ T16.out;have n62:w6.cell? ⟨B2,0,none⟩=some (.pointer (some ⟨b,0,none⟩)):=cell_of_row w6 _ 0 _ _ _ T26.out;have n64:w6.cell? ⟨Bn,4,none⟩=some vk:=NB6.out.cell.1;have OW6:=Lib.hid (vC HOW.out g6 fun k hk=>by rw[hk];exact hB0);have HR6:=Lib.hid hR6;have G6:=Lib.hid g6;have PT6:=Lib.hid hpt6;clear g6 hR6 ho6 hpt6;go_wp2_with fail;refine hK.out _ _ ⟨n61,n62⟩ (fun hHeld=>?_);clear hK K
 (try simp only[Act.put,List.setIfInBounds_toArray,List.set_cons_zero,List.set_cons_succ])
 refine wpAnyH_ready (rs:=[4]) (by kernel_rfl) (by simp) (AllReadyH.cons (o:={dst:=some 6,op:=.load 55 (.tmp 5),type:=55,pos:= "parse.go:63",after:=#[{on:=3,ground:=.data}],guard:=none}) rfl (fun K hK=>?_) AllReadyH.nil)
 go_simp
 refine hK.out _ _ (by assumption) (fun hHeld=>?_);clear hK K
 (try simp only[Act.put,List.setIfInBounds_toArray,List.set_cons_zero,List.set_cons_succ])
 rotate_left
 go_simp
 refine hK.out _ _ (by assumption) (fun hHeld=>?_);clear hK K
 (try simp only[Act.put,List.setIfInBounds_toArray,List.set_cons_zero,List.set_cons_succ])
 refine wpAnyH_ready (rs:=[9]) (by kernel_rfl) (by simp) (AllReadyH.cons (o:={dst:=some 11,op:=.call {callee:=.value (.func 118),args:=#[.tmp 8,.const (.string ⟨#[124]⟩),.tmp 10],argTypes:=#[60,9,63]},type:=55,pos:= "parse.go:63",after:=#[{on:=6,ground:=.data},{on:=8,ground:=.data}],guard:=none}) rfl (fun K hK=>?_) AllReadyH.nil)
 go_simp
 go_at_call 118
 refine(CR.out _ (by first | exact Below.refl _ _ | exact qD (Below.refl _ _) 1)).mono ?_
 rintro e9 w6 ⟨vo6,ps6,rfl,⟨ho6,hpt6⟩,hp06,hpl6,g6,hR6⟩;have g6:Gs (On b) w w6:=⟨g6.os,g6.tape,g6.output,g6.size,g6.block⟩;obtain⟨n6,cp6,rfl,hbg6,hltg6⟩:=ho6.form hp06;have hbg6:w.heap.size≤n6:=hbg6;have hs6:=g6.size;have CL6:=Lib.hid (ho6.cells rfl);have NB6:=Lib.hid (show Nb w6 Bn x vk from g6.row HNB.out (by unfold On;omega));have T16:=Lib.hid (g6.row HC1.out (by unfold On;omega));have T26:=Lib.hid (g6.row HC2.out (by unfold On;omega));have n61:w6.cell? ⟨B1,0,none⟩=some (.pointer (some ⟨Bn,0,none⟩)):=cell_of_row w6 _ 0 _ _ _ T16.out;have n62:w6.cell? ⟨B2,0,none⟩=some (.pointer (some ⟨b,0,none⟩)):=cell_of_row w6 _ 0 _ _ _ T26.out;have n64:w6.cell? ⟨Bn,4,none⟩=some vk:=NB6.out.cell.1;have OW6:=Lib.hid (vC HOW.out g6 fun k hk=>by rw[hk];exact hB0);have HR6:=Lib.hid hR6;have G6:=Lib.hid g6;have PT6:=Lib.hid hpt6;clear g6 hR6 ho6 hpt6;go_wp2_with fail;refine hK.out _ _ ⟨n61,n62⟩ (fun hHeld=>?_);clear hK K
 (try simp only[Act.put,List.setIfInBounds_toArray,List.set_cons_zero,List.set_cons_succ])
 all_goals refine wpAnyH_ready (rs:=[10]) (by kernel_rfl) (by simp) (AllReadyH.cons (o:={dst:=some 12,op:=.call {callee:=.builtin .append,args:=#[.tmp 6,.tmp 11],argTypes:=#[55,55]},type:=55,pos:= "parse.go:63",after:=#[{on:=4,ground:=.data},{on:=9,ground:=.data},{on:=9,ground:=.chain}],guard:=none}) rfl (fun K hK=>?_) AllReadyH.nil)
 all_goals refine step_append_lies _ (by rfl) _ _ _ (by rfl) B0 24 i0 _ 1 8 Tryz.underlying55 hi0 hz0 hz1 hz2 rfl (by omega) vk k0 ps0 (by rfl) OW6.out ⟨n6,0,none⟩ ps6.length cp6 ps6 (by rfl) (by omega) CL6.out (fun x hx=>by obtain⟨A,rfl⟩:=PT6.out x hx;rfl) hp06 (by unfold maxLen;omega) (by omega) (by omega) w6.heap.size rfl ?_
 all_goals intro g7 cap7 w7 hown7 hgrow7 hat7 hlt7
 all_goals have OW7:=Lib.hid hown7
 all_goals have GR7:=Lib.hid hgrow7
 all_goals have AT7:=Lib.hid hat7
 all_goals have nb7:Nb w7 Bn x vk:=(hgrow7.block Bn (by omega) e1).trans NB6.out
 all_goals have hc7:w7.cell? ⟨Bn,4,none⟩=some vk:=nb7.cell.1
 all_goals have hf7:w7.frozen? ⟨Bn,4,none⟩=false:=nb7.cell.2
 all_goals have r7:=(hgrow7.block B1 (by omega) e2).trans T16.out
 all_goals have hc8:w7.cell? ⟨B1,0,none⟩=some (.pointer (some ⟨Bn,0,none⟩)):=cell_of_row w7 _ 0 _ _ _ r7
 all_goals have r8:=(hgrow7.block B2 (by omega) e3).trans T26.out
 all_goals have hc9:w7.cell? ⟨B2,0,none⟩=some (.pointer (some ⟨b,0,none⟩)):=cell_of_row w7 _ 0 _ _ _ r8
 all_goals have NB7:=Lib.hid nb7
 all_goals clear hown7 hgrow7 hat7 nb7 r7 r8
 all_goals refine hK.out _ _ ⟨hc8,hc9⟩ (fun hHeld=>?_)
 all_goals clear hK K
 all_goals (simp only[Act.put,List.setIfInBounds_toArray,List.set_cons_zero,List.set_cons_succ])
 all_goals refine wpAnyH_take (i:=11) (oi:={dst:=some 13,op:=.nilCheck (.tmp 2),type:=0,pos:= "parse.go:63",after:=#[{on:=0,ground:=.data},{on:=0,ground:=.phase},{on:=1,ground:=.phase},{on:=2,ground:=.phase},{on:=3,ground:=.phase},{on:=4,ground:=.phase},{on:=5,ground:=.phase},{on:=6,ground:=.phase},{on:=7,ground:=.phase},{on:=8,ground:=.phase},{on:=9,ground:=.phase},{on:=10,ground:=.phase}],guard:=none}) (v:=.pointer (some ⟨Bn,0,none⟩)) rfl (by kernel_rfl) (by kernel_rfl) (by kernel_rfl) (fun _ _ _ h=>h) (Or.inl ⟨by rfl,fun w' hSw=>by go_simp⟩) (by assumption) ?_
 all_goals (try simp only[Act.put,List.setIfInBounds_toArray,List.set_cons_zero,List.set_cons_succ])
 all_goals refine wpAnyH_take (i:=12) (oi:={dst:=some 14,op:=.fieldAddr 57 (.tmp 13) 4,type:=0,pos:= "parse.go:63",after:=#[{on:=11,ground:=.data},{on:=0,ground:=.phase},{on:=1,ground:=.phase},{on:=2,ground:=.phase},{on:=3,ground:=.phase},{on:=4,ground:=.phase},{on:=5,ground:=.phase},{on:=6,ground:=.phase},{on:=7,ground:=.phase},{on:=8,ground:=.phase},{on:=9,ground:=.phase},{on:=10,ground:=.phase}],guard:=none}) (v:=.pointer (some ⟨Bn,4,none⟩)) rfl (by kernel_rfl) (by kernel_rfl) (by kernel_rfl) (fun _ _ _ h=>h) (Or.inl ⟨by rfl,fun w' hSw=>by go_simp⟩) (by assumption) ?_
 all_goals (try simp only[Act.put,List.setIfInBounds_toArray,List.set_cons_zero,List.set_cons_succ])
 all_goals refine wpAnyH_ready (rs:=[13]) (by kernel_rfl) (by simp) (AllReadyH.cons (o:={dst:=none,op:=.store 55 (.tmp 14) (.tmp 12),type:=0,pos:= "parse.go:63",after:=#[{on:=12,ground:=.data},{on:=10,ground:=.data},{on:=10,ground:=.chain},{on:=0,ground:=.phase},{on:=1,ground:=.phase},{on:=2,ground:=.phase},{on:=3,ground:=.phase},{on:=4,ground:=.phase},{on:=5,ground:=.phase},{on:=6,ground:=.phase},{on:=7,ground:=.phase},{on:=8,ground:=.phase},{on:=9,ground:=.phase},{on:=10,ground:=.phase}],guard:=none}) rfl (fun K hK=>?_) AllReadyH.nil)
 all_goals go_simp
 all_goals refine hK.out _ _ ⟨(World.cell?_setCell_far _ _ _ _ (fun e=>h1n e.symm)).trans hc8,(World.cell?_setCell_far _ _ _ _ (fun e=>h2n e.symm)).trans hc9⟩ (fun hHeld=>?_)
 all_goals clear hK K
 all_goals refine wpAnyH_done (by kernel_rfl) ?_ _
 all_goals go_wp2_with fail
 all_goals go_end0
 all_goals exact zF9 hb hbn hbK hB0 hbnw hKn hKw hBK hB0w HOB.out hl0 G6.out hbg6 HR6.out NB7.out OW7.out GR7.out AT7.out
end
theorem PA.mono {B0 Bn:Nat} {x:Nod} {C:Rs Fr} {T T':Fr→Prop} {w:World} (h:PA B0 Bn x C T w) (hT:∀f,T' f→T f):PA B0 Bn x C T' w:=by
 obtain⟨g,cp,ps,h1,h2,h3,h4⟩:=h;exact⟨g,cp,ps,h1,h2,h3,fun f0 f j h0=>h4 f0 f j (hT f0 h0)⟩
section
variable {V0:World} {v:Value} {l:List Te} {b:Nat}
theorem bU (P:Px9 V0 v l b) (X:Nat→Nat→Rs Tr) (hX:∀n j,j≤l.length→In l.length j (X n j)) (n:Nat) (s so:SS) (hs:s.1≤l.length) (hso:kS (tks l) kOf s=so) (hn:so.2=0→l.length+1≤n+so.1) (cX:∀(k j:Nat) (e':Int),j≤l.length→(e'=0→so.2=0∧∃a,k+a+1=n∧so.1+a<j)→RuAt V0 v b 26 (X k) j e')
  (C:Rs Fr) (hC:at0 (fun i=>rowA B.nck l X n i .nil) so=C) (Bn K B0 k0:Nat) (x:Nod) (vk:Value) (ps0:List Value) (w:World) (h:Psr w b v s.1 s.2) (hu:Up V0 w) (hbn:b≠Bn) (hB0:b<B0) (hKn:K≠Bn) (hBK:B0≤K) (hBn:B0≤Bn) (_hB0w:B0≤w.heap.size) (hob:vk.ownBlock=some K) (hk2:k0≤2) (hl0:ps0.length=k0) (nb:Nb w Bn x vk) (ow:w.ownsRow B0 24 1 vk k0 ps0) :
  Calls Tryz.prog 54 #[.agg #[.pointer (some ⟨b,0,none⟩)],.pointer (some ⟨Bn,0,none⟩)] w fun en w'=>en = .returned (.pointer (some ⟨Bn,0,none⟩))∧Gs (Thr b Bn K) w w'∧Psr w' b v (kS (tks l) kEnd (stO C)).1 (kS (tks l) kEnd (stO C)).2∧
   ∀f0 f j,PtF w (fun q=>B0≤q∧q<w.heap.size∧q≠Bn∧q≠K) ps0 f0→C = .inl (f,j)→InT w' (fun q=>B0≤q∧q<w'.heap.size) (.pointer (some ⟨Bn,0,none⟩)) (x,f0.app f):=by
 have hll:=P.Q.hl;have hbV:=P.Q.hb;have hb:b<w.heap.size:=qC h;have hbnw:=qC nb;have hKw:K<w.heap.size:=(ow.lt K hob).2;have hz:=hu.size;have lo:so.1≤l.length:=by rw[←hso];exact mQ l _ hs
 have lC:(stO C).1≤l.length:=by
  rw[←hC]
  by_cases h0:so.2=0
  ·have hso0:so=(so.1,0):=by rw[←h0]
   rw[hso0,qR];have h1:=eI (nk:=B.nck) hX n so.1 .nil lo
   cases hR:rowA B.nck l X n so.1 .nil with
   | inl r=>rw[hR] at h1;exact h1.2
   | inr r=>rw[hR] at h1;exact h1.2.1
  ·rw[kP _ h0];exact lo
 obtain⟨W0,hW0⟩:∃W0,(w.alloc (.cells #[.pointer (some ⟨b,0,none⟩)] 62)).alloc (.cells #[.pointer (some ⟨Bn,0,none⟩)] 24)=W0:=⟨_,rfl⟩;have z0:W0.heap.size=w.heap.size+2:=by rw[←hW0];simp
 have b1:W0.heap[w.heap.size]? = some (.cells #[.pointer (some ⟨b,0,none⟩)] 62 (0,0)):=by rw[←hW0];exact kL _ (heap_alloc_new w _)
 have b2:W0.heap[w.heap.size+1]? = some (.cells #[.pointer (some ⟨Bn,0,none⟩)] 24 (0,0)):=by rw[←hW0];exact vV _ _ (by simp)
 have u0:Up w W0:=by rw[←hW0];exact((Up.refl w).alloc _).alloc _
 have cB:=jA b v s.1 s.2 kOf kEnd 117 #[.pointer (some ⟨w.heap.size+1,0,none⟩),.pointer (some ⟨w.heap.size,0,none⟩)] (fun _ _=>by kernel_rfl) (Thr b Bn K) (fun q hq=>by rcases hq with hq | hq | hq<;>omega) hbV (rI C) (rE C) (PA B0 Bn x C fun f0=>PtF w (fun q=>B0≤q∧q<w.heap.size∧q≠Bn∧q≠K) ps0 f0) W0
  P.Q.T (h.up u0) (hu.trans u0) (by omega) (by have:rI C≤l.length:=lC;omega) (fun w2 g2 h2=>by
   have h2:Psr w2 b v so.1 so.2:=by rw[←hso];exact h2
   have g02:Gs (On b) w w2:=(Gs.of u0:Gs (On b) w W0).trans g2;have u2:Up V0 w2:=g2.up (hu.trans u0) fun q hq=>by rw[hq];exact hbV
   have z2:=g2.size;have c:=zFa P C (w.heap.size+1) w.heap.size Bn K B0 k0 x vk ps0 w2 hbn (by omega) hB0 hKn hBK (by omega) (by omega) (by omega) (by omega) (by omega) (by omega) hob hk2 hl0 (g2.row b2 (by unfold On;omega)) (g2.row b1 (by unfold On;omega)) (g02.row nb (by unfold On;omega)) (vC ow g02 fun k hk=>by rw[hk];exact hB0) (by omega) (fun w' u=>by
    have c:=zAl P X hX n so.1 so.2 lo hn cX w' (h2.up u) (u2.trans u);rw[show at0 (fun i=>rowA B.nck l X n i .nil) (so.1,so.2)=C from hC] at c;exact c)
   exact c.mono fun en w3 ⟨k1,k2,k3,k4⟩=>⟨k1,k2,k3,k4.mono fun f hf=>PtF.keep (fun q hq=>⟨hq.1,by have:=hq.2.1;omega,hq.2.2⟩) (fun q hq=>g02.block q hq.2.1 (by have:=hq.1;unfold On;omega)) hf⟩)
 have k0':W0.cell? ⟨w.heap.size,0,none⟩=some (.pointer (some ⟨b,0,none⟩)):=cell_of_row _ _ 0 _ _ _ b1;have HW0:=Lib.hid hW0;have U0:=Lib.hid u0;have B2:=Lib.hid b2;clear hW0 u0 b1 b2 h hu nb ow cX P hX hC hso hn
 go_enter Tryz.func54,Tryz.ntmps54
 go_wp2_with fail;rw[HW0.out];refine cB.mono ?_;rintro en w4 ⟨⟨u,rfl⟩,w2,w3,g2,g3,⟨g,cp,ps,o3,nb3,hgn,hT3⟩,g4,h4⟩;have z2:=g2.size;have z3:=g3.size;have z4:=g4.size;have r4:=g4.row (g3.row (g2.row B2.out (by unfold On;omega)) (by unfold Thr;omega)) (by unfold On;omega);have c4:w4.cell? ⟨w.heap.size+1,0,none⟩=some (.pointer (some ⟨Bn,0,none⟩)):=cell_of_row w4 _ 0 _ _ _ r4;have gF:Gs (Thr b Bn K) w w4:=(((Gs.of U0.out:Gs (Thr b Bn K) w W0).trans (g2.wide fun k _ hq=>.inl hq)).trans g3).trans (g4.wide fun k _ hq=>.inl hq);have hgB:B0≤g∧g<w3.heap.size:=o3.lt g rfl;have hFin:Psr w4 b v (kS (tks l) kEnd (stO C)).1 (kS (tks l) kEnd (stO C)).2∧∀f0 f j,PtF w (fun q=>B0≤q∧q<w.heap.size∧q≠Bn∧q≠K) ps0 f0→C = .inl (f,j)→InT w4 (fun q=>B0≤q∧q<w4.heap.size) (.pointer (some ⟨Bn,0,none⟩)) (x,f0.app f):=by
  refine⟨h4,fun f0 f j h0 hCj=>?_⟩;have hp:=hT3 f0 f j h0 hCj;have hl:=hp.len;have o4:=vC o3 g4 fun k hk=>by rw[hk];exact hB0
  have n4:Nb w4 Bn x (.slice (some ⟨g,0,none⟩) ps.length cp):=g4.row nb3 (by unfold On;omega);refine OwnT.tree (x:=x) ⟨ps,by rw[←hl];exact o4,PtF.keep (fun q hq=>⟨hq.1,by have:=hq.2.1;omega⟩) (fun q hq=>g4.block q hq.2.1 (by have:=hq.1;unfold On;omega)) hp⟩ n4 ⟨hBn,by omega⟩ fun g' e=>?_
  injection e with e;have e:g=g':=e;subst e;exact⟨hgB.1,by omega⟩
 have HF:=Lib.hid hFin;have GF:=Lib.hid gF;clear cB g2 g3 o3 nb3 hT3 g4 h4 r4 gF hFin k0' z2 z3;go_wp2_with fail
 go_ret
 exact⟨rfl,GF.out,HF.out.1,HF.out.2⟩
end
end Go.Proofs.YtbpijnalmakfaaaGreatDoor
