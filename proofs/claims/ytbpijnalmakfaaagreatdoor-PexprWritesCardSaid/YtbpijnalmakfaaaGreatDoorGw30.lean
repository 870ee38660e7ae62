/-
  Layer 7, the program's expr: behind case.
-/
import Derived.Test.YtbpijnalmakfaaaGreatDoorGw29
set_option maxHeartbeats 40000000
set_option maxRecDepth 100000
namespace Go.Proofs.YtbpijnalmakfaaaGreatDoor
open Go.RowKit
section
variable {V0:World} {v:Value} {l:List Te} {b:Nat}
theorem zAm (P:Px9 V0 v l b) (E:Nat→Rs Tr) (hE:∀j,j≤l.length→In l.length j (E j)) (X:Nat→Nat→Rs Tr) (hX:∀n j,j≤l.length→In l.length j (X n j)) (n:Nat) (M:Nat→Fr→Rs Fr) (hM:∀j,M j .nil=thn (rowA B.nck l X n j .nil) fun f j=>thn (keysL (tks l) j [kEnd]) fun _ m=>.inl (f,m)) (i:Nat) (e:Int) (hi:i≤l.length) (hi1:i+1≤l.length) (h1:tkB (tks l) i e kFn=false) (h2:tkB (tks l) i e kLet=false) (h3:tkB (tks l) i e kIf=false) (h4:tkB (tks l) i e kCase=true) (hn:e=0→l.length≤n+i)
  (cX:∀(k j:Nat) (e':Int),j≤l.length→(e'=0→e=0∧∃a,k+a+1=n∧i+1+a<j)→RuAt V0 v b 26 (X k) j e')
  (cE:∀(j:Nat) (e':Int),j≤l.length→(e'=0→e=0∧i<j)→RuAt V0 v b 26 E j e') (w:World) (hu:Up V0 w) (h:Psr w b v i e) :
  Calls Tryz.prog 26 #[.agg #[.pointer (some ⟨b,0,none⟩)]] w (PaT (On b) b v (at0 (caseS l E M) (i+1,e)) (fun _ _=>True) w):=by
 have hb:b<w.heap.size:=qC h;have hll:=P.Q.hl;have hbV:=P.Q.hb;have hCi:∀j,j≤l.length→In l.length j (rowA B.nck l X n j .nil):=fun j hj=>eI hX n j .nil hj
 obtain⟨X1,hX1⟩:∃X,at0 E (i+1,e)=X:=⟨_,rfl⟩;obtain⟨so,hso⟩:∃s,kS (tks l) kOf (stO X1)=s:=⟨_,rfl⟩;obtain⟨C,hC⟩:∃C,at0 (fun i=>rowA B.nck l X n i .nil) so=C:=⟨_,rfl⟩;have r1:rS E (i+1,e)=stO X1:=by unfold rS;rw[hX1]
 have rC:rS (fun i=>rowA B.nck l X n i .nil) so=stO C:=by unfold rS;rw[hC]
 have m1:(stO X1).1≤l.length:=by rw[←r1];exact bT hE hi1
 have ho0:so.2=0→e=0∧i+1<so.1:=fun h0=>by
  rw[←hso] at h0;obtain⟨a1,b1⟩:=mR h0;rw[hso] at b1;rw[←r1] at a1 b1;obtain⟨a2,b2⟩:=uH hE hi1 a1;exact⟨a2,by have b2:i+1<(rS E (i+1,e)).1:=b2;omega⟩
 have hst:stO (at0 (caseS l E M) (i+1,e))=kS (tks l) kEnd (stO C):=by
  rw[←rC,←hso,←r1];exact dX (G:=caseG l E fun i=>rowA B.nck l X n i .nil) ((jC _ _).comp ((xC _).comp ((jC _ _).comp (xC _)))) fun _=>zAa hE hCi hM hi1
 have hval:∀u j,at0 (caseS l E M) (i+1,e) = .inl (u,j)→∃a f j1 j2,X1 = .inl (a,j1)∧C = .inl (f,j2)∧u=(⟨32,0,nob,nob⟩,(fr1 a).app f):=fun u j hu=>by
  by_cases he:e=0
  ·subst he
   rw[qR] at hu;obtain⟨a,f,j1,j2,j3,a1,a2,a3,rfl⟩:=zGq hE hCi hM hi1 hu;have q1:X1 = .inl (a,j1):=by rw[←hX1,qR];exact a1
   have q2:so=(j2,0):=by rw[←hso,q1];exact a2
   exact⟨a,f,j1,j3,q1,by rw[←hC,q2,qR];exact a3,rfl⟩
  ·rw[kP _ (show ¬(i+1,e).2=0 from he)] at hu
   cases hu
 obtain⟨W0,hW0⟩:∃W0,w.alloc (.cells #[.pointer (some ⟨b,0,none⟩)] 62)=W0:=⟨_,rfl⟩;have u0:Up w W0:=by rw[←hW0];exact(Up.refl w).alloc _
 have b1:W0.heap[w.heap.size]? = some (.cells #[.pointer (some ⟨b,0,none⟩)] 62 (0,0)):=by rw[←hW0];exact heap_alloc_new w _
 have hgU:∀w',Gs (On b) W0 w'→Up V0 w':=fun w' g=>g.up (hu.trans u0) fun q hq=>by rw[hq];exact hbV
 have hgB:∀w',Gs (On b) W0 w'→w'.cell? ⟨w.heap.size,0,none⟩=some (.pointer (some ⟨b,0,none⟩)):=fun w' g=>cell_of_row w' w.heap.size 0 _ _ _ (g.row b1 (by unfold On;omega))
 have c1:=kQ P.Q hi kFn h1 W0 (hu.trans u0) (h.up u0);have hz0:W0.heap.size=w.heap.size+1:=by rw[←hW0];simp
 have HPX:=Lib.hid P;have HCE:=Lib.hid cE;have HGU:=Lib.hid hgU;have HGB:=Lib.hid hgB;have HW0:=Lib.hid hW0;have U0:=Lib.hid u0;have H2:=Lib.hid h2;have H3:=Lib.hid h3;have H4:=Lib.hid h4;have HST:=Lib.hid hst;have HVAL:=Lib.hid hval;have HSO:=Lib.hid hso;have HX1:=Lib.hid hX1;have HC:=Lib.hid hC;have HHX:=Lib.hid hX;have HCX:=Lib.hid cX;have HO0:=Lib.hid ho0;have HN:=Lib.hid hn;clear hW0 u0 b1 h hu cE P hgU hgB h1 h2 h3 h4 hst hval hso hX1 hC hX cX ho0 hn r1 rC hE hCi hM
 go_enter Tryz.func26,Tryz.ntmps26
 go_wp2_with fail;rw[HW0.out];refine c1.mono ?_;rintro en w1 ⟨rfl,g1,p1⟩;have c2:=kQ HPX.out.Q hi kLet H2.out w1 (HGU.out w1 g1) p1;have k1:=HGB.out w1 g1;have G1:=Lib.hid g1;clear g1 p1 c1;go_wp2_with fail;refine c2.mono ?_;rintro en w2 ⟨rfl,g2,p2⟩;have g2:=G1.out.trans g2;have c3:=kQ HPX.out.Q hi kIf H3.out w2 (HGU.out w2 g2) p2;have k2:=HGB.out w2 g2;have G2:=Lib.hid g2;clear g2 p2 c2;go_wp2_with fail;refine c3.mono ?_;rintro en wq ⟨rfl,gq,pq⟩;have gq:=G2.out.trans gq;have c4:=gK HPX.out.Q hi kCase H4.out wq (HGU.out wq gq) pq;have kq:=HGB.out wq gq;have GQ:=Lib.hid gq;clear gq pq c3;go_wp2_with fail;refine c4.mono ?_;rintro en w3 ⟨rfl,g3,p3⟩;have g3:=GQ.out.trans g3;have z3:=g3.size;have cA:=fun w' (u:Up w3 w')=>HCE.out (i+1) e hi1 (fun h0=>⟨h0,Nat.lt_succ_self i⟩) w' ((HGU.out w3 g3).trans u) (p3.up u)
 rw[HX1.out] at cA;have CA:=Lib.hid cA;have k3:=HGB.out w3 g3;have G3:=Lib.hid g3;have hwl:w.heap.size<w3.heap.size:=by omega
 clear g3 p3 c4 cA;go_wp2_with fail
 go_region_held3 (fun w'=>w'.cell? ⟨w.heap.size,0,none⟩=some (.pointer (some ⟨b,0,none⟩))) (first | go_keep | assumption | exact((Up.refl _).alloc _).cell (by assumption)) (first
  | (go_at_call 26;refine(CA.out _ (by first | exact Below.refl _ _ | exact qD (Below.refl _ _) 1)).mono ?_;rintro e6 w6 hP;obtain⟨A6,rfl,g6,p6,n6⟩:=hP.psr;have g6:Gs (On b) w3 w6:=⟨g6.os,g6.tape,g6.output,g6.size,g6.block⟩;have n6:∀t j,X1 = .inl (t,j)→NewT w3 w6 (.pointer A6) t:=n6;have z6:=g6.size;have hwl6:w.heap.size<w6.heap.size:=(by omega);have k6:=HGB.out w6 (G3.out.trans g6);have G6:=Lib.hid (G3.out.trans g6);have P6:=Lib.hid p6;have N6:=Lib.hid n6;clear g6 p6 n6 hP CA)
  | (go_at_call 53;refine(xA _ _ _ _ _).mono ?_;rintro e9 w9 ⟨rfl,h9⟩;have u9:Up w6 w9:=(by rw[h9];exact((Up.refl w6).alloc _).alloc _);have k9:=u9.cell k6;have z9:w9.heap.size=w6.heap.size+2:=(by rw[h9];simp);have K9:=Lib.hid (show w9.heap[w6.heap.size]? = some (.cells #[.pointer A6] 24 (0,0)) from(by rw[h9];exact kL _ (heap_alloc_new w6 _)));have NB9:=Lib.hid (show Nb w9 (w6.heap.size+1) ⟨32,0,nob,nob⟩ (.slice (some ⟨w6.heap.size,0,none⟩) 1 1) from(by rw[h9];exact vV _ _ (by simp)));have U9:=Lib.hid u9;have CW:=Lib.hid (fun w' (u:Up w9 w')=>bU HPX.out X HHX.out n (stO X1) so m1 HSO.out (fun h0=>by have a:=HO0.out h0;have b:=HN.out a.1;omega) (fun k j e' hj h'=>HCX.out k j e' hj fun h0=>by obtain⟨q0,a,qa,qb⟩:=h' h0;obtain⟨p0,pb⟩:=HO0.out q0;exact⟨p0,a,qa,by omega⟩) C HC.out (w6.heap.size+1) w6.heap.size w3.heap.size 1 ⟨32,0,nob,nob⟩ (.slice (some ⟨w6.heap.size,0,none⟩) 1 1) [.pointer A6] w' ((P6.out.up U9.out).up u) (((HGU.out w6 G6.out).trans U9.out).trans u) (by omega) (by omega) (by omega) (by omega) (by omega) (by have:=u.size;omega) rfl (by omega) rfl (u.row NB9.out) (uI (u.row K9.out) (by omega)));clear h9 u9)
  | (go_at_call 54;refine(CW.out _ (by first | exact Below.refl _ _ | exact qD (Below.refl _ _) 1)).mono ?_;rintro e10 w10 ⟨rfl,g10,p10,t10⟩;have g10:Gs (Thr b (w6.heap.size+1) w6.heap.size) w9 w10:=⟨g10.os,g10.tape,g10.output,g10.size,g10.block⟩;have T10:=Lib.hid (show ∀a f j,NewT w3 w6 (.pointer A6) a→C = .inl (f,j)→InT w10 (fun q=>w3.heap.size≤q∧q<w10.heap.size) (.pointer (some ⟨w6.heap.size+1,0,none⟩)) (⟨32,0,nob,nob⟩,(fr1 a).app f) from fun a f j ha hc=>t10 (fr1 a) f j ⟨InT.keep ha (fun q hq=>⟨hq.1,(by show q<w9.heap.size;have:=hq.2;omega),(by have:=hq.2;omega),(by have:=hq.2;omega)⟩) (fun q hq=>U9.out.block q hq.2),trivial⟩ hc);have gA:Gs (On b) W0 w9:=G6.out.trans (Gs.of U9.out);have zA:=gA.size;have zB:=g10.size;have GX:=Lib.hid (show Gs (On b) W0 w10 from⟨g10.os.trans gA.os,g10.tape.trans gA.tape,g10.output.trans gA.output,Nat.le_trans gA.size g10.size,fun q hq hn=>(g10.block q (by omega) (by unfold Thr;unfold On at hn;omega)).trans (gA.block q hq hn)⟩);have k10:=HGB.out w10 GX.out;have P10:=Lib.hid p10;clear g10 p10 t10 gA CW))
 all_goals go_wp2_with fail
 go_ret
 have e1:rI (at0 (caseS l E M) (i+1,e))=(kS (tks l) kEnd (stO C)).1:=congrArg Prod.fst HST.out;have e2:rE (at0 (caseS l E M) (i+1,e))=(kS (tks l) kEnd (stO C)).2:=congrArg Prod.snd HST.out;refine PaT.mk ((Gs.of U0.out).trans GX.out) (by rw[e1,e2];exact P10.out) fun t j ht=>?_
 obtain⟨a,f,j1,j2,hA,hB,rfl⟩:=HVAL.out t j ht;exact InT.keep (T10.out a f j2 (N6.out a j1 hA) hB) (fun q hq=>⟨by have:=hq.1;omega,hq.2⟩) fun _ _=>rfl
end
theorem zLs {w:World} {K B0:Nat} {A C:Option Addr} (h:w.heap[K]? = some (.cells #[.pointer A,.pointer C] 24 (0,0))) (hB:B0≤K):w.ownsRow B0 24 1 (.slice (some ⟨K,0,none⟩) 2 2) 2 [.pointer A,.pointer C]:=
 ⟨rfl,.inr ⟨K,2,#[.pointer A,.pointer C],rfl,hB,h,Nat.le_refl _,by unfold maxLen;omega,rfl,rfl⟩⟩
section
variable {V0:World} {v:Value} {l:List Te} {b:Nat}
theorem zAn (P:Px9 V0 v l b) (E:Nat→Rs Tr) (hE:∀j,j≤l.length→In l.length j (E j)) (X:Nat→Nat→Rs Tr) (hX:∀n j,j≤l.length→In l.length j (X n j)) (n:Nat) (M:Nat→Fr→Rs Fr) (hM:∀j,M j .nil=thn (rowA B.nck l X n j .nil) fun f j=>thn (keysL (tks l) j [kEnd]) fun _ m=>.inl (f,m)) (i:Nat) (e:Int) (hi:i≤l.length) (hi1:i+1≤l.length) (h1:tkB (tks l) i e kFn=false) (h2:tkB (tks l) i e kLet=false) (h3:tkB (tks l) i e kIf=false) (h4:tkB (tks l) i e kCase=false) (h5:tkB (tks l) i e kFold=true) (hn:e=0→l.length≤n+i)
  (cX:∀(k j:Nat) (e':Int),j≤l.length→(e'=0→e=0∧∃a,k+a+1=n∧i+1+a<j)→RuAt V0 v b 26 (X k) j e')
  (cE:∀(j:Nat) (e':Int),j≤l.length→(e'=0→e=0∧i<j)→RuAt V0 v b 26 E j e') (w:World) (hu:Up V0 w) (h:Psr w b v i e) :
  Calls Tryz.prog 26 #[.agg #[.pointer (some ⟨b,0,none⟩)]] w (PaT (On b) b v (at0 (foldS B.nck B.long l E M) (i+1,e)) (fun _ _=>True) w):=by
 have hb:b<w.heap.size:=qC h;have hll:=P.Q.hl;have hbV:=P.Q.hb;have hCi:∀j,j≤l.length→In l.length j (rowA B.nck l X n j .nil):=fun j hj=>eI hX n j .nil hj
 obtain⟨X1,hX1⟩:∃X,at0 E (i+1,e)=X:=⟨_,rfl⟩;obtain⟨s1,hs1⟩:∃s,kS (tks l) kTo (stO X1)=s:=⟨_,rfl⟩;obtain⟨Y,hY⟩:∃Y,at0 (typL B.nck B.long (tks l)) s1=Y:=⟨_,rfl⟩;obtain⟨so,hso⟩:∃s,kS (tks l) kOf (stO Y)=s:=⟨_,rfl⟩;have hyt:∀j,j≤l.length→In l.length j (typL B.nck B.long (tks l) j):=fun j hj=>xQ hj
 have rY:rS (typL B.nck B.long (tks l)) s1=stO Y:=by unfold rS;rw[hY]
 obtain⟨C,hC⟩:∃C,at0 (fun i=>rowA B.nck l X n i .nil) so=C:=⟨_,rfl⟩;have r1:rS E (i+1,e)=stO X1:=by unfold rS;rw[hX1]
 have rC:rS (fun i=>rowA B.nck l X n i .nil) so=stO C:=by unfold rS;rw[hC]
 have m1:(stO X1).1≤l.length:=by rw[←r1];exact bT hE hi1
 have l1:s1.1≤l.length:=by rw[←hs1];exact mQ l _ m1
 have mY:(stO Y).1≤l.length:=by rw[←rY];exact bT hyt l1
 have ho0:so.2=0→e=0∧i+1<so.1:=fun h0=>by
  rw[←hso] at h0;obtain⟨a1,b1⟩:=mR h0;rw[hso] at b1;rw[←rY] at a1 b1;obtain⟨a3,b3⟩:=uH hyt l1 a1;rw[←hs1] at a3;obtain⟨a4,b4⟩:=mR a3;rw[hs1] at b4;rw[←r1] at a4 b4;obtain⟨a2,b2⟩:=uH hE hi1 a4;exact⟨a2,by have b2:i+1<(rS E (i+1,e)).1:=b2;omega⟩
 have hst:stO (at0 (foldS B.nck B.long l E M) (i+1,e))=kS (tks l) kEnd (stO C):=by
  rw[←rC,←hso,←rY,←hs1,←r1];exact dX (G:=foldG B.nck B.long l E fun i=>rowA B.nck l X n i .nil) ((jC _ _).comp ((xC _).comp ((jC _ _).comp ((xC _).comp ((jC _ _).comp (xC _)))))) fun _=>zAb hE hCi hM hi1
 have hval:∀u j,at0 (foldS B.nck B.long l E M) (i+1,e) = .inl (u,j)→∃a y f j1 jy j2,X1 = .inl (a,j1)∧Y = .inl (y,jy)∧C = .inl (f,j2)∧u=(⟨33,0,nob,nob⟩,(fr2 a y).app f):=fun u j hu=>by
  by_cases he:e=0
  ·subst he
   rw[qR] at hu;obtain⟨a,y,f,j1,j2,j3,j4,j5,a1,a2,a3,a4,a5,rfl⟩:=zGr hE hCi hM hi1 hu;have q1:X1 = .inl (a,j1):=by rw[←hX1,qR];exact a1
   have q2:s1=(j2,0):=by rw[←hs1,q1];exact a2
   have q3:Y = .inl (y,j3):=by rw[←hY,q2,qR];exact a3
   have q4:so=(j4,0):=by rw[←hso,q3];exact a4
   exact⟨a,y,f,j1,j3,j5,q1,q3,by rw[←hC,q4,qR];exact a5,rfl⟩
  ·rw[kP _ (show ¬(i+1,e).2=0 from he)] at hu
   cases hu
 obtain⟨W0,hW0⟩:∃W0,w.alloc (.cells #[.pointer (some ⟨b,0,none⟩)] 62)=W0:=⟨_,rfl⟩;have u0:Up w W0:=by rw[←hW0];exact(Up.refl w).alloc _
 have b1:W0.heap[w.heap.size]? = some (.cells #[.pointer (some ⟨b,0,none⟩)] 62 (0,0)):=by rw[←hW0];exact heap_alloc_new w _
 have hgU:∀w',Gs (On b) W0 w'→Up V0 w':=fun w' g=>g.up (hu.trans u0) fun q hq=>by rw[hq];exact hbV
 have hgB:∀w',Gs (On b) W0 w'→w'.cell? ⟨w.heap.size,0,none⟩=some (.pointer (some ⟨b,0,none⟩)):=fun w' g=>cell_of_row w' w.heap.size 0 _ _ _ (g.row b1 (by unfold On;omega))
 have c1:=kQ P.Q hi kFn h1 W0 (hu.trans u0) (h.up u0);have hz0:W0.heap.size=w.heap.size+1:=by rw[←hW0];simp
 have HPX:=Lib.hid P;have HCE:=Lib.hid cE;have HGU:=Lib.hid hgU;have HGB:=Lib.hid hgB;have HW0:=Lib.hid hW0;have U0:=Lib.hid u0;have H2:=Lib.hid h2;have H3:=Lib.hid h3;have H4:=Lib.hid h4;have H5:=Lib.hid h5;have HS1:=Lib.hid hs1;have HY:=Lib.hid hY;have HST:=Lib.hid hst;have HVAL:=Lib.hid hval;have HSO:=Lib.hid hso;have HX1:=Lib.hid hX1;have HC:=Lib.hid hC;have HHX:=Lib.hid hX;have HCX:=Lib.hid cX;have HO0:=Lib.hid ho0;have HN:=Lib.hid hn;clear hW0 u0 b1 h hu cE P hgU hgB h1 h2 h3 h4 h5 hs1 hY hyt rY hst hval hso hX1 hC hX cX ho0 hn r1 rC hE hCi hM
 go_enter Tryz.func26,Tryz.ntmps26
 go_wp2_with fail;rw[HW0.out];refine c1.mono ?_;rintro en w1 ⟨rfl,g1,p1⟩;have c2:=kQ HPX.out.Q hi kLet H2.out w1 (HGU.out w1 g1) p1;have k1:=HGB.out w1 g1;have G1:=Lib.hid g1;clear g1 p1 c1;go_wp2_with fail;refine c2.mono ?_;rintro en w2 ⟨rfl,g2,p2⟩;have g2:=G1.out.trans g2;have c3:=kQ HPX.out.Q hi kIf H3.out w2 (HGU.out w2 g2) p2;have k2:=HGB.out w2 g2;have G2:=Lib.hid g2;clear g2 p2 c2;go_wp2_with fail;refine c3.mono ?_;rintro en wq ⟨rfl,gq,pq⟩;have gq:=G2.out.trans gq;have c4:=kQ HPX.out.Q hi kCase H4.out wq (HGU.out wq gq) pq;have kq:=HGB.out wq gq;have GQ:=Lib.hid gq;clear gq pq c3;go_wp2_with fail;refine c4.mono ?_;rintro en wr ⟨rfl,gr,pr⟩;have gr:=GQ.out.trans gr;have c5:=gK HPX.out.Q hi kFold H5.out wr (HGU.out wr gr) pr;have kr:=HGB.out wr gr;have GQ:=Lib.hid gr;clear gr pr c4;go_wp2_with fail;refine c5.mono ?_;rintro en w3 ⟨rfl,g3,p3⟩;have g3:=GQ.out.trans g3;have z3:=g3.size;have cA:=fun w' (u:Up w3 w')=>HCE.out (i+1) e hi1 (fun h0=>⟨h0,Nat.lt_succ_self i⟩) w' ((HGU.out w3 g3).trans u) (p3.up u)
 rw[HX1.out] at cA;have CA:=Lib.hid cA;have k3:=HGB.out w3 g3;have G3:=Lib.hid g3;have hwl:w.heap.size<w3.heap.size:=by omega
 clear g3 p3 c5 cA;go_wp2_with fail
 go_region_held3 (fun w'=>w'.cell? ⟨w.heap.size,0,none⟩=some (.pointer (some ⟨b,0,none⟩))) (first | go_keep | assumption | exact((Up.refl _).alloc _).cell (by assumption)) (first
  | (go_at_call 26;refine(CA.out _ (by first | exact Below.refl _ _ | exact qD (Below.refl _ _) 1)).mono ?_;rintro e6 w6 hP;obtain⟨A6,rfl,g6,p6,n6⟩:=hP.psr;have g6:Gs (On b) w3 w6:=⟨g6.os,g6.tape,g6.output,g6.size,g6.block⟩;have n6:∀t j,X1 = .inl (t,j)→NewT w3 w6 (.pointer A6) t:=n6;have z6:=g6.size;have hwl6:w.heap.size<w6.heap.size:=(by omega);have k6:=HGB.out w6 (G3.out.trans g6);have G6:=Lib.hid (G3.out.trans g6);have P6:=Lib.hid p6;have N6:=Lib.hid n6;clear g6 p6 n6 hP CA)
  | (go_at_call 55;have q6:=P6.out;refine(sC HPX.out kTo (rI X1) (rE X1) m1 _ (by first | exact P6.out | exact P6.out.up (qD (Below.refl _ _) 1)) (by first | exact HGU.out w6 G6.out | exact(HGU.out w6 G6.out).trans (qD (Below.refl _ _) 1))).mono ?_;rintro e7 w7 hP;rw[show at0 (typL B.nck B.long (tks l)) (kS (tks l) kTo (rI X1,rE X1))=Y from by rw[show kS (tks l) kTo (rI X1,rE X1)=s1 from HS1.out];exact HY.out] at hP;obtain⟨A7,rfl,g7,p7,n7⟩:=hP.psr;have g7:Gs (On b) w6 w7:=⟨g7.os,g7.tape,g7.output,g7.size,g7.block⟩;have n7:∀t j,Y = .inl (t,j)→NewT w6 w7 (.pointer A7) t:=n7;have z7:=g7.size;have hwl7:w.heap.size<w7.heap.size:=(by omega);have k7:=HGB.out w7 (G6.out.trans g7);have G7:=Lib.hid (G6.out.trans g7);have P7:=Lib.hid p7;have N7:=Lib.hid n7;have N67:=Lib.hid (show ∀t j,X1 = .inl (t,j)→NewT w3 w7 (.pointer A6) t from fun t j hx=>(N6.out t j hx).gsb g7 (by omega));clear g7 p7 n7 hP P6 q6)
  | (go_at_call 53;refine(xA _ _ _ _ _).mono ?_;rintro e9 w9 ⟨rfl,h9⟩;have u9:Up w7 w9:=(by rw[h9];exact((Up.refl w7).alloc _).alloc _);have k9:=u9.cell k7;have z9:w9.heap.size=w7.heap.size+2:=(by rw[h9];simp);have K9:=Lib.hid (show w9.heap[w7.heap.size]? = some (.cells #[.pointer A6,.pointer A7] 24 (0,0)) from(by rw[h9];exact kL _ (heap_alloc_new w7 _)));have NB9:=Lib.hid (show Nb w9 (w7.heap.size+1) ⟨33,0,nob,nob⟩ (.slice (some ⟨w7.heap.size,0,none⟩) 2 2) from(by rw[h9];exact vV _ _ (by simp)));have U9:=Lib.hid u9;have CW:=Lib.hid (fun w' (u:Up w9 w')=>bU HPX.out X HHX.out n (stO Y) so mY HSO.out (fun h0=>by have a:=HO0.out h0;have b:=HN.out a.1;omega) (fun k j e' hj h'=>HCX.out k j e' hj fun h0=>by obtain⟨q0,a,qa,qb⟩:=h' h0;obtain⟨p0,pb⟩:=HO0.out q0;exact⟨p0,a,qa,by omega⟩) C HC.out (w7.heap.size+1) w7.heap.size w3.heap.size 2 ⟨33,0,nob,nob⟩ (.slice (some ⟨w7.heap.size,0,none⟩) 2 2) [.pointer A6,.pointer A7] w' ((P7.out.up U9.out).up u) (((HGU.out w7 G7.out).trans U9.out).trans u) (by omega) (by omega) (by omega) (by omega) (by omega) (by have:=u.size;omega) rfl (by omega) rfl (u.row NB9.out) (zLs (u.row K9.out) (by omega)));clear h9 u9)
  | (go_at_call 54;refine(CW.out _ (by first | exact Below.refl _ _ | exact qD (Below.refl _ _) 1)).mono ?_;rintro e10 w10 ⟨rfl,g10,p10,t10⟩;have g10:Gs (Thr b (w7.heap.size+1) w7.heap.size) w9 w10:=⟨g10.os,g10.tape,g10.output,g10.size,g10.block⟩;have T10:=Lib.hid (show ∀a y f j,NewT w3 w7 (.pointer A6) a→NewT w3 w7 (.pointer A7) y→C = .inl (f,j)→InT w10 (fun q=>w3.heap.size≤q∧q<w10.heap.size) (.pointer (some ⟨w7.heap.size+1,0,none⟩)) (⟨33,0,nob,nob⟩,(fr2 a y).app f) from fun a y f j ha hy hc=>t10 (fr2 a y) f j ⟨InT.keep ha (fun q hq=>⟨hq.1,(by show q<w9.heap.size;have:=hq.2;omega),(by have:=hq.2;omega),(by have:=hq.2;omega)⟩) (fun q hq=>U9.out.block q hq.2),InT.keep hy (fun q hq=>⟨(by have:=hq.1;omega),(by show q<w9.heap.size;have:=hq.2;omega),(by have:=hq.2;omega),(by have:=hq.2;omega)⟩) (fun q hq=>U9.out.block q hq.2),trivial⟩ hc);have gA:Gs (On b) W0 w9:=G7.out.trans (Gs.of U9.out);have zA:=gA.size;have zB:=g10.size;have GX:=Lib.hid (show Gs (On b) W0 w10 from⟨g10.os.trans gA.os,g10.tape.trans gA.tape,g10.output.trans gA.output,Nat.le_trans gA.size g10.size,fun q hq hn=>(g10.block q (by omega) (by unfold Thr;unfold On at hn;omega)).trans (gA.block q hq hn)⟩);have k10:=HGB.out w10 GX.out;have P10:=Lib.hid p10;clear g10 p10 t10 gA CW))
 all_goals go_wp2_with fail
 go_ret
 have e1:rI (at0 (foldS B.nck B.long l E M) (i+1,e))=(kS (tks l) kEnd (stO C)).1:=congrArg Prod.fst HST.out;have e2:rE (at0 (foldS B.nck B.long l E M) (i+1,e))=(kS (tks l) kEnd (stO C)).2:=congrArg Prod.snd HST.out;refine PaT.mk ((Gs.of U0.out).trans GX.out) (by rw[e1,e2];exact P10.out) fun t j ht=>?_
 obtain⟨a,y,f,j1,jy,j2,hA,hY,hB,rfl⟩:=HVAL.out t j ht;exact InT.keep (T10.out a y f j2 (N67.out a j1 hA) ((N7.out y jy hY).base (by omega)) hB) (fun q hq=>⟨by have:=hq.1;omega,hq.2⟩) fun _ _=>rfl
end
section
variable {nk lg:ByteArray→Bool} {l:List Te}
theorem zFb (n j:Nat) (h:(hdE lg l j).any=false):qP nk lg l n j = .inr (j,6):=by
 cases n with
 | zero=>rw[qP]
 | succ n=>
  rw[yG];unfold qL
  cases hd:hdE lg l j with
  | no=>rfl
  | num n=>rw[hd] at h;cases h
  | var n=>rw[hd] at h;cases h
  | boo n=>rw[hd] at h;cases h
  | sel n=>rw[hd] at h;cases h
  | opn=>rw[hd] at h;cases h
theorem In.low {α:Type} {N i:Nat} {R:Rs α} (h:In N i R):i≤rI R:=by
 cases R with
 | inl r=>exact Nat.le_of_lt h.1
 | inr r=>exact h.1
theorem zLt (n j:Nat) (h:(hdE lg l j).any=true):j<rI (qP nk lg l (n+1) j):=by
 have hl:j+1≤l.length:=xO (lg:=lg) h;obtain⟨hE,hA,-⟩:=oH (nk:=nk) (lg:=lg) (l:=l) n;rw[yG];unfold qL
 cases hd:hdE lg l j with
 | no=>rw[hd] at h;cases h
 | num n=>exact Nat.lt_succ_self j
 | var n=>exact Nat.lt_succ_self j
 | boo n=>exact Nat.lt_succ_self j
 | sel k=>
  have h1:In l.length (j+1) (thn (qP nk lg l n (j+1)) fun a m=>.inl (nd k nob (fr1 a),m)):=(hA (j+1) hl).bnd0 fun a m _ _ hm=>kV (Nat.le_refl _) hm
  exact h1.low
 | opn=>
  simp only
  split
  ·show j<j+2
   omega
  ·have h1:=(hE (j+1) hl).bnd0 (f:=fun a m=>if key (tks l) m zN=true then thn (thenK (tks l) (exprF nk lg l n (m+1)) [kShut]) fun b m=>.inl (nd 26 nob (fr2 a b),m) else thn (keysL (tks l) m [kShut]) fun _ m=>.inl (a,m)) fun a m _ _ hm=>by
    split
    ·rename_i hk
     exact(((qT (hE (m+1) (qK hk))).bnd0 fun _ _ _ _ hm=>kV (Nat.le_refl _) hm).weak).down (Nat.le_succ m)
    ·exact(xP _ m hm).bnd fun _ _ _ _ hm=>kV (Nat.le_refl _) hm
   exact h1.low
end
section
variable {V0:World} {v:Value} {l:List Te} {b:Nat}
theorem zOw (P:Px9 V0 v l b) (n m i:Nat) (e:Int) (hi:i≤l.length) (hn:e=0→l.length-i+1≤n) (hm:e=0→2*(l.length-i)+1≤m+1) (cE:∀k j,k<m+1→e=0→i<j→j≤l.length→2*(l.length-j)+2≤k→RuAt V0 v b 26 (exprF B.nck B.long l k) j 0) :
  RuAt V0 v b 56 (cmpS B.long l n (qP B.nck B.long l (m+1))) i e:=by
 have hA:=(oH (nk:=B.nck) (lg:=B.long) (l:=l) (m+1)).2.1;exact yVe P.Q n _ hA i e hi fun j e' hj he'=>yVd P.Q n _ hA j e' hj (fun h0=>by have:=hn (he' h0).1;have:=(he' h0).2;omega) fun j2 e2 hj2 he2=>
  yVf P.Q n _ hA (fun j=>zFb (m+1) j) (fun j=>zLt m j) j2 e2 hj2 (fun h0=>by have a:=he2 h0;have a1:=he' a.1;have:=hn a1.1;have:=a.2;have:=a1.2;omega) fun j3 e3 w' hj3 he3 u p=>
   zAi P.Q P.K (m+1) j3 e3 hj3 (fun h0=>by have a3:=he3 h0;have a:=he2 a3.1;have a1:=he' a.1;have:=hm a1.1;have:=a.2;have:=a1.2;have:=a3.2;omega) w' p u fun k j hk h0 hj' hjl hb=>by
    have a3:=he3 h0;have a:=he2 a3.1;have a1:=he' a.1;exact cE k j hk a1.1 (by have:=a.2;have:=a1.2;have:=a3.2;omega) hjl hb
theorem zTi (P:Px9 V0 v l b) (R:Nat→Rs Tr) (i:Nat) (e:Int) (he:¬e=0) (hi:i≤l.length):RuAt V0 v b 26 R i e:=fun w hu h=>by
 have c:=zF8 P.Q _ i e hi (kC he) (kC he) (kC he) (kC he) (kC he) (zOw P 1 0 i e hi (fun h0=>absurd h0 he) (fun h0=>absurd h0 he) fun _ _ _ h0=>absurd h0 he) w hu h;rw[kP _ (show ¬(i,e).2=0 from he)] at c ⊢;exact c
theorem zFc (P:Px9 V0 v l b):∀(m i:Nat) (e:Int),i≤l.length→(e=0→2*(l.length-i)+2≤m)→RuAt V0 v b 26 (exprF B.nck B.long l m) i e:=by
 intro m
 induction m using Nat.strongRecOn with
 | _ m ih=>
 intro i e hi hm
 by_cases he:e=0
 ·subst he
  have hm:=hm rfl;obtain⟨n,rfl⟩:∃n,m=n+2:=⟨m-2,by omega⟩;have hE:∀j,j≤l.length→In l.length j (exprF B.nck B.long l (n+1) j):=fun j hj=>vN hj
  have cE:∀(j:Nat) (e':Int),j≤l.length→(e'=0→(0:Int)=0∧i<j)→RuAt V0 v b 26 (exprF B.nck B.long l (n+1)) j e':=fun j e' hj he'=>ih (n+1) (by omega) j e' hj fun h0=>by have:=(he' h0).2;omega
  have cX:∀(k j:Nat) (e':Int),j≤l.length→(e'=0→(0:Int)=0∧∃a,k+a+1=n+1∧i+1+a<j)→RuAt V0 v b 26 (exprF B.nck B.long l k) j e':=fun k j e' hj he'=>by
   by_cases h0:e'=0
   ·obtain⟨-,a,h1,h2⟩:=he' h0
    exact ih k (by omega) j e' hj fun _=>by omega
   ·exact zTi P _ j e' h0 hj
  intro w hu h;rw[qR,xN];unfold exprS
  by_cases h1:key (tks l) i kFn=true
  ·rw[if_pos h1]
   have c:=ex_fn P.Q _ i 0 hi (by rw[yA];exact h1) (zTf P _ hE (i+1) 0 (qK h1) fun j e' hj he'=>cE j e' hj fun h0=>⟨rfl,by have:=(he' h0).2;omega⟩) w hu h;rw[qR] at c;exact c
  have h1:=eq_false_of_ne_true h1;rw[if_neg (by rw[h1];exact Bool.false_ne_true)]
  by_cases h2:key (tks l) i kLet=true
  ·rw[if_pos h2]
   have c:=yVm P _ hE i 0 hi (qK h2) (by rw[yA];exact h1) (by rw[yA];exact h2) cE w hu h;rw[qR] at c;exact c
  have h2:=eq_false_of_ne_true h2;rw[if_neg (by rw[h2];exact Bool.false_ne_true)]
  by_cases h3:key (tks l) i kIf=true
  ·rw[if_pos h3]
   have c:=ex_if P _ hE i 0 hi (qK h3) (by rw[yA];exact h1) (by rw[yA];exact h2) (by rw[yA];exact h3) cE w hu h;rw[qR] at c;exact c
  have h3:=eq_false_of_ne_true h3;rw[if_neg (by rw[h3];exact Bool.false_ne_true)]
  by_cases h4:key (tks l) i kCase=true
  ·rw[if_pos h4]
   have c:=zAm P _ hE (exprF B.nck B.long l) (fun n j hj=>vN hj) (n+1) (armsF B.nck B.long l (n+1)) (fun j=>uD (n+1) j .nil) i 0 hi (qK h4) (by rw[yA];exact h1) (by rw[yA];exact h2) (by rw[yA];exact h3) (by rw[yA];exact h4) (fun _=>by omega) cX cE w hu h;rw[qR] at c;exact c
  have h4:=eq_false_of_ne_true h4;rw[if_neg (by rw[h4];exact Bool.false_ne_true)]
  by_cases h5:key (tks l) i kFold=true
  ·rw[if_pos h5]
   have c:=zAn P _ hE (exprF B.nck B.long l) (fun n j hj=>vN hj) (n+1) (armsF B.nck B.long l (n+1)) (fun j=>uD (n+1) j .nil) i 0 hi (qK h5) (by rw[yA];exact h1) (by rw[yA];exact h2) (by rw[yA];exact h3) (by rw[yA];exact h4) (by rw[yA];exact h5) (fun _=>by omega) cX cE w hu h;rw[qR] at c;exact c
  have h5:=eq_false_of_ne_true h5;rw[if_neg (by rw[h5];exact Bool.false_ne_true)];have c:=zF8 P.Q _ i 0 hi (by rw[yA];exact h1) (by rw[yA];exact h2) (by rw[yA];exact h3) (by rw[yA];exact h4) (by rw[yA];exact h5) (zOw P (n+2) n i 0 hi (fun _=>by omega) (fun _=>by omega) fun k j hk _ hij hj hb=>ih k (by omega) j 0 hj fun _=>hb) w hu h;rw[qR] at c;exact c
 ·exact zTi P _ i e he hi
end
theorem exLit (b:Nat) (P:Option Addr→World→Prop) (w:World) (cA:Calls Tryz.prog 26 #[.agg #[.pointer (some ⟨b,0,none⟩)]] w fun e w'=>∃A,e = .returned (.pointer A)∧P A w') :
  Calls Tryz.prog 25 #[.pointer (some ⟨b,0,none⟩)] w fun e w'=>∃A,e = .returned (.pointer A)∧P A w':=by
 go_enter Tryz.func25,Tryz.ntmps25
 go_wp2_with fail;refine cA.mono ?_;rintro en w1 ⟨A,rfl,h⟩;have H:=Lib.hid h;clear h;go_wp2_with fail
 go_ret
 exact⟨A,rfl,H.out⟩
theorem zLu (v:Value) (i:Int) (P:Value→Int→Int→World→Prop) (w:World) (cP:Calls Tryz.prog 24 #[v,.int .i64 i,.func (.func 25) #[] #[]] w fun e w'=>∃u j r,e = .returned (.tuple #[u,.int .i64 j,.int .i64 r])∧P u j r w') :
  Calls Tryz.prog 10 #[v,.int .i64 i] w fun e w'=>∃u j r,e = .returned (.tuple #[u,.int .i64 j,.int .i64 r])∧P u j r w':=by
 go_enter Tryz.func10,Tryz.ntmps10
 go_wp2_with fail;refine cP.mono ?_;rintro en w1 ⟨u,j,r,rfl,h⟩;have H:=Lib.hid h;clear h;go_wp2_with fail
 go_ret3
 exact⟨u,j,r,rfl,H.out⟩
theorem pExpr (l:List Te) (i:Int) (hl:l.length≤100000) (hz:∀t∈l,t.t.s.size≤1000000000) (m:Nat) (hm:2*l.length+2≤m) (w:World) (v:Value) (hv:Tke w v l) (hx:B.Nx w) (hp:Pl w) (ho:Op7 w) :
  Calls Tryz.prog 10 #[v,.int .i64 i] w (sP (expZ B.nck B.long l m i) w):=by
 have hv0:=hv;obtain⟨A,c,rfl,-⟩:=hv;have key:Calls Tryz.prog 10 #[.slice A l.length c,.int .i64 i] w fun e w'=>∃u j r,e = .returned (.tuple #[u,.int .i64 j,.int .i64 r])∧RtV (expZ B.nck B.long l m i) w w' u j r∧Up w w':=by
  refine zLu _ i (fun u j r w'=>RtV (expZ B.nck B.long l m i) w w' u j r∧Up w w') w ?_
  by_cases h:i<0∨(l.length:Int)<i
  ·unfold expZ
   rw[if_pos h];exact(bQ A l.length c i _ w h).mono fun e w' ⟨h1,h2⟩=>⟨_,_,_,h1,⟨rfl,rfl,rfl⟩,h2⟩
  ·have he:expZ B.nck B.long l m i=exprF B.nck B.long l m i.toNat:=if_neg h
   rw[he];obtain⟨k,rfl⟩:=Int.eq_ofNat_of_zero_le (by omega:0≤i);have hk:k≤l.length:=by omega
   rw[Int.toNat_natCast];have hzt:∀t∈tks l,t.s.size≤1000000000:=fun t ht=>by
    obtain⟨u,hu,rfl⟩:=List.mem_map.1 ht;exact hz u hu
   have Q:Px9 w (.slice A l.length c) l w.heap.size:=⟨⟨zOq hv0.tkm hzt hx,ho,Nat.le_refl _,hl⟩,hv0,hx,hp,hz⟩;have up:=zOr w (.slice A l.length c) k;have cA:=zFc Q m k 0 hk (fun _=>by omega) _ up (zTc w _ k);rw[qR] at cA;have hin:=vN (nk:=B.nck) (lg:=B.long) (l:=l) (n:=m) hk;have gu:∀w',Gs (On w.heap.size) (parW w (.slice A l.length c) k) w'→Up w w':=fun w' g=>g.up up fun q hq=>by rw[hq];exact Nat.le_refl _
   cases hT:exprF B.nck B.long l m k with
   | inr e=>
    obtain⟨p,r⟩:=e;rw[hT] at cA;have hr:¬r=0:=hin.ne hT;refine(bR A l.length c k p r 25 (fun _ _=>by kernel_rfl) w hk hr ?_).mono fun e w' ⟨h1,h2⟩=>⟨_,_,_,h1,⟨rfl,rfl,rfl⟩,h2⟩
    refine(exLit w.heap.size (fun _ w'=>Up w w'∧Psr w' w.heap.size (.slice A l.length c) p r) _ (cA.mono fun e w' ⟨B,h1,g,h2⟩=>⟨B,h1,gu w' g,h2⟩)).mono fun e w' ⟨B,h1,h2,h3⟩=>⟨⟨_,h1⟩,h2,h3⟩
   | inl e=>
    obtain⟨t,j⟩:=e;rw[hT] at cA;refine(uG A l.length c k j 25 (fun _ _=>by kernel_rfl) (fun u w'=>NewT w w' u t) w hk ?_ (fun u w' q h=>h.drewN q)).mono fun e w' ⟨u,h1,h2,h3⟩=>⟨_,_,_,h1,⟨h2,rfl,rfl⟩,h3⟩
    refine(exLit w.heap.size (fun B w'=>NewT w w' (.pointer B) t∧Up w w'∧Psr w' w.heap.size (.slice A l.length c) j 0) _ (cA.mono fun e w' ⟨B,h1,g,h2,h3,_⟩=>⟨B,h1,h2.base up.size,gu w' g,h3⟩)).mono fun e w' ⟨B,h1,h2,h3,h4⟩=>⟨⟨_,h1,h2⟩,h3,h4⟩
 exact key.mono fun e w' ⟨u,j,r,h1,h2,h3⟩=>⟨u,j,r,h1,h2,h3⟩
def Wr7 (bw:Nat) (X:Nat→Obj→Prop) (w:World) (ts:List ByteArray):Prop:=∃v,w.heap[bw]? = some (.cells #[v] 82 (0,0))∧w.ownsRow (bw+1) 9 1 v ts.length (ts.map Value.string)∧∀B o,X B o→w.heap[B]? = some o∧B≠bw∧some B≠v.ownBlock
def WrP7 (W:World) (bw:Nat) (X:Nat→Obj→Prop) (ts:List ByteArray) (e:Ending) (w':World):Prop:=(∃u,e = .returned u)∧Up W w'∧Wr7 bw X w' ts
theorem Wr7.up {bw:Nat} {X:Nat→Obj→Prop} {w w':World} {ts:List ByteArray} (h:Wr7 bw X w ts) (u:Up w w'):Wr7 bw X w' ts:=by
 obtain⟨v,h1,h2,h3⟩:=h;exact⟨v,u.row h1,vC h2 (Gs.of (S:=fun _=>False) u) fun _ h=>h.elim,fun B o h=>⟨u.row (h3 B o h).1,(h3 B o h).2⟩⟩
theorem zFd (W:World) (bw:Nat) (X:Nat→Obj→Prop) (hB:W.heap.size≤bw) (w:World) (hu:Up W w) (ts news:List ByteArray) (hw:Wr7 bw X w ts) (hts:ts.length≤1000000) (hn:news.length≤10) (hn0:0<news.length) (H:Nat) (hc:∀(j:Nat) u,(news.map Value.string)[j]? = some u→w.cell? ⟨H,0+j,none⟩=some u) :
  Calls Tryz.prog 70 #[.pointer (some ⟨bw,0,none⟩),.slice (some ⟨H,0,none⟩) news.length news.length] w (WrP7 W bw X (ts++news)):=by
 obtain⟨v,h1,h2,h3⟩:=hw;have HX:=Lib.hid h3;have c0:w.cell? ⟨bw,0,none⟩=some v:=cell_of_row w bw 0 _ _ _ h1;have hBw:=qC h1;have HROW:=Lib.hid h1;have HOWN:=Lib.hid h2;have HU:=Lib.hid hu;have HC:Hid (∀(j:Nat) u,(news.map Value.string)[j]? = some u→w.cell? ((⟨H,0,none⟩:Addr).add j)=some u):=Lib.hid fun j u h=>by
  have e1:(⟨H,0,none⟩:Addr).add j=⟨H,0+j,none⟩:=by unfold Addr.add;split<;>simp_all
  rw[e1];exact hc j u h
 obtain⟨i0,hi0,hz0,hz1,hz2⟩:=info_parts B.aO;obtain⟨n,hnn⟩:∃n,ts.length=n:=⟨_,rfl⟩;obtain⟨m,hmm⟩:∃m,news.length=m:=⟨_,rfl⟩;rw[hnn] at hts HOWN;rw[hmm] at hn hn0 ⊢;have HN:=Lib.hid hnn;have HM:=Lib.hid hmm;clear h1 h2 h3 hu hc hnn hmm
 go_enter Tryz.func70,Tryz.ntmps70
 go_wp2_with (at_builtin;refine wpList_append_lies _ rfl _ _ 80 rfl (bw+1) 9 i0 _ 1 16 Tryz.underlying80 hi0 hz0 hz1 hz2 rfl (by omega) v n (ts.map Value.string) rfl HOWN.out ⟨H,0,none⟩ m m (news.map Value.string) rfl (by rw[List.length_map,HM.out,Nat.mul_one]) HC.out (by intro u hu;obtain⟨s,_,rfl⟩:=List.mem_map.1 hu;rfl) (by omega) (by unfold maxLen;omega) (by omega) (by omega) w.heap.size rfl ?_;intro g6 cap6 w6 ho6 hg6 hat6 hlt6;have r6:w6.heap[bw]? = some (.cells #[v] 82 (0,0)):=(hg6.block bw hBw (fun e=>by have:=(World.ownsRow.lt HOWN.out bw e.symm).1;omega)).trans HROW.out;have c6:=cell_of_row w6 bw 0 _ _ _ r6;have f6:=frozen_of_row w6 bw 0 _ _ r6;have hb6:=qC r6;have HO6:=Lib.hid ho6;have HG6:=Lib.hid hg6;have HAT:=Lib.hid hat6;have R6:=Lib.hid r6;clear ho6 hg6 hat6 r6)
 go_end0;have hzz:=HU.out.size;refine⟨⟨_,rfl⟩,?_,.slice (some ⟨g6,0,none⟩) (n+m) cap6,?_,?_,fun B o hX=>?_⟩
 ·exact(zOj HU.out HG6.out fun g e=>by have:=(World.ownsRow.lt HOWN.out g e).1;omega).setCell (p:=⟨bw,0,none⟩) hB _
 ·exact Boxed.set _ R6.out
 ·have e:(ts++news).map Value.string=ts.map Value.string++news.map Value.string:=List.map_append
  rw[e,List.length_append,HN.out,HM.out];refine zC HO6.out _ _ fun g e=>?_
  injection e with e;have e:g6=g:=e;subst e
  rcases HAT.out with h | h
  ·have:=(World.ownsRow.lt HOWN.out g6 h).1;simp only;omega
  ·simp only;omega
 ·obtain⟨x1,x2,x3⟩:=HX.out B o hX
  have hlt:=qC x1;refine⟨(Below.heap_setCell _ _ _ _ x2).trans ((HG6.out.block B hlt x3).trans x1),x2,fun e=>?_⟩;injection e with e;have e:B=g6:=e;subst e
  rcases HAT.out with h | h
  ·exact x3 h.symm
  ·omega
theorem zFe {W:World} {bw:Nat} {X:Nat→Obj→Prop} {w:World} {ts:List ByteArray} (news:List ByteArray) (hB:W.heap.size≤bw) (hu:Up W w) (hw:Wr7 bw X w ts) (hts:ts.length≤1000000) (hn:news.length≤10) (hn0:0<news.length) :
  Calls Tryz.prog 70 #[.pointer (some ⟨bw,0,none⟩),.slice (some ⟨w.heap.size,0,none⟩) news.length news.length] (w.alloc (.cells (news.map Value.string).toArray 9)) (WrP7 W bw X (ts++news)):=
 zFd W bw X hB _ (hu.alloc _) ts news (hw.up ((Up.refl w).alloc _)) hts hn hn0 w.heap.size fun j u h=>by
  rw[Nat.zero_add,cell_of_row _ w.heap.size j _ _ _ (heap_alloc_new w _),List.getElem?_toArray];exact h
def jL (ts:List ByteArray):List UInt8:=jT (ts.map nmT)
theorem zFf {x y:List ByteArray} (hx:x≠[]) (hy:y≠[]):jL (x++y)=jL x++32::jL y:=by
 unfold jL;rw[List.map_append];exact kW _ _ (fun e=>hx (List.map_eq_nil_iff.1 e)) (fun e=>hy (List.map_eq_nil_iff.1 e))
theorem yVn (x:ByteArray):jL [x]=x.data.toList:=rfl
theorem zOx {a b:List ByteArray} (h1:jL a=jL b) (h2:a=[]↔b=[]) {c d:List ByteArray} (h3:jL c=jL d) (h4:c=[]↔d=[]):jL (a++c)=jL (b++d)∧(a++c=[]↔b++d=[]):=by
 refine⟨?_,by rw[List.append_eq_nil_iff,List.append_eq_nil_iff,h2,h4]⟩
 by_cases ha:a=[]
 ·have hb:=h2.1 ha
  subst ha;subst hb;exact h3
 ·have hb:b≠[]:=fun e=>ha (h2.2 e)
  by_cases hc:c=[]
  ·have hd:=h4.1 hc
   subst hc;subst hd;rw[List.append_nil,List.append_nil,h1]
  ·have hd:d≠[]:=fun e=>hc (h4.2 e)
   rw[zFf ha hc,zFf hb hd,h1,h3]
def St7 (W:World) (bw:Nat) (X:Nat→Obj→Prop) (n:Nat) (Ys:List ByteArray) (w:World):Prop:=Up W w∧∃ns:List ByteArray,ns.length≤n∧jL ns=jL Ys∧(ns=[]↔Ys=[])∧Wr7 bw X w ns
section
variable {W:World} {bw:Nat} {X:Nat→Obj→Prop}
theorem St7.more {n m:Nat} {Ys:List ByteArray} {w:World} (h:St7 W bw X n Ys w) (hm:n≤m):St7 W bw X m Ys w:=by
 obtain⟨u,ns,h1,h2⟩:=h;exact⟨u,ns,Nat.le_trans h1 hm,h2⟩
theorem St7.join {n:Nat} {Ys Zs:List ByteArray} {Z:ByteArray} {w:World} (h:St7 W bw X n (Ys++Zs) w) (hne:Zs≠[]) (hz:jL Zs=Z.data.toList):St7 W bw X n (Ys++[Z]) w:=by
 obtain⟨u,ns,h1,h2,h3,h4⟩:=h;obtain⟨e1,e2⟩:=zOx (a:=Ys) (b:=Ys) rfl Iff.rfl (c:=Zs) (d:=[Z]) (hz.trans (yVn Z).symm) ⟨fun e=>absurd e hne,fun e=>by cases e⟩;exact⟨u,ns,h1,h2.trans e1,h3.trans e2,h4⟩
theorem St7.up {n:Nat} {Ys:List ByteArray} {w w':World} (h:St7 W bw X n Ys w) (u:Up w w'):St7 W bw X n Ys w':=by
 obtain⟨u0,ns,h1,h2,h3,h4⟩:=h;exact⟨u0.trans u,ns,h1,h2,h3,h4.up u⟩
theorem St7.keep {n:Nat} {Ys:List ByteArray} {w:World} (h:St7 W bw X n Ys w) (o:Obj):St7 W bw (fun B q=>X B q∨(B=w.heap.size∧q=o)) n Ys (w.alloc o):=by
 obtain⟨u0,ns,h1,h2,h3,v,h4,h5,h6⟩:=h;have u:Up w (w.alloc o):=(Up.refl w).alloc _;obtain⟨v',h4',h5',h6'⟩:=Wr7.up (X:=X) ⟨v,h4,h5,h6⟩ u;have hlt:=qC h4;refine⟨u0.trans u,ns,h1,h2,h3,v,u.row h4,vC h5 (Gs.of (S:=fun _=>False) u) fun _ h=>h.elim,fun B q hX=>?_⟩
 rcases hX with hX | ⟨rfl,rfl⟩
 ·exact⟨u.row (h6 B q hX).1,(h6 B q hX).2⟩
 ·exact⟨heap_alloc_new w _,by omega,fun e=>by have:=(World.ownsRow.lt h5 _ e.symm).2;omega⟩
theorem St7.row {n:Nat} {Ys:List ByteArray} {w:World} (h:St7 W bw X n Ys w) {B:Nat} {o:Obj} (hX:X B o):w.heap[B]? = some o:=by
 obtain⟨u0,ns,h1,h2,h3,v,h4,h5,h6⟩:=h;exact(h6 B o hX).1
def WrE (W:World) (bw:Nat) (X:Nat→Obj→Prop) (n:Nat) (Ys:List ByteArray) (e:Ending) (w':World):Prop:=(∃u,e = .returned u)∧St7 W bw X n Ys w'
theorem WrE.more {n m:Nat} {Ys:List ByteArray} {e:Ending} {w:World} (h:WrE W bw X n Ys e w) (hm:n≤m):WrE W bw X m Ys e w:=⟨h.1,h.2.more hm⟩
theorem zQ6 {w:World} {n:Nat} {Ys:List ByteArray} (news:List ByteArray) (hB:W.heap.size≤bw) (h:St7 W bw X n Ys w) (hn:n≤1000000) (hl:news.length≤10) (h0:0<news.length) :
  Calls Tryz.prog 70 #[.pointer (some ⟨bw,0,none⟩),.slice (some ⟨w.heap.size,0,none⟩) news.length news.length] (w.alloc (.cells (news.map Value.string).toArray 9)) (WrE W bw X (n+news.length) (Ys++news)):=by
 obtain⟨u,ns,h1,h2,h3,h4⟩:=h;refine(zFe news hB u h4 (by omega) hl h0).mono fun e w' ⟨k1,k2,k3⟩=>⟨k1,k2,ns++news,by rw[List.length_append];omega,?_⟩
 obtain⟨e1,e2⟩:=zOx h2 h3 (c:=news) (d:=news) rfl Iff.rfl;exact⟨e1,e2,k3⟩
theorem wQ {w:World} {n:Nat} {Ys:List ByteArray} (x:ByteArray) (hB:W.heap.size≤bw) (h:St7 W bw X n Ys w) (hn:n≤1000000) :
  Calls Tryz.prog 70 #[.pointer (some ⟨bw,0,none⟩),.slice (some ⟨w.heap.size,0,none⟩) 1 1] (w.alloc (.cells #[.string x] 9)) (WrE W bw X (n+1) (Ys++[x])):=zQ6 [x] hB h hn (by show 1≤10;omega) Nat.one_pos
end
def WriC (W:World) (bw:Nat) (t:Tr) (r c:Nat):Prop:=∀(X:Nat→Obj→Prop) (w:World) (n:Nat) (Ys:List ByteArray) (v:Value),HasT W v (some t)→St7 W bw X n Ys w→n+c≤1000000→Calls Tryz.prog 36 #[.pointer (some ⟨bw,0,none⟩),v,.int .i64 (r:Int)] w (WrE W bw X (n+c) (Ys++[atX qE t r]))
theorem WriC.more {W:World} {bw:Nat} {t:Tr} {r c d:Nat} (h:WriC W bw t r c) (hcd:c≤d):WriC W bw t r d:=fun X w n Ys v hv hs hn=>(h X w n Ys v hv hs (by omega)).mono fun _ _ k=>k.more (by omega)
theorem fE (t:Tr):atX qE t 0=txE qE t:=by
 unfold atX low;rw[decide_eq_false (Nat.not_lt_zero _)]
 rfl
theorem fN {t:Tr} {r:Nat} (h:¬lvl t.1<r):atX qE t r=txE qE t:=by
 unfold atX low;rw[decide_eq_false h]
 rfl
theorem zAo {t:Tr} {r:Nat} (h:lvl t.1<r):atX qE t r=⟨#[40,32]⟩++txE qE t++⟨#[32,41]⟩:=by
 unfold atX low;rw[decide_eq_true h]
 rfl
section
variable {W:World} {bw:Nat} {X:Nat→Obj→Prop}
theorem yVo (k:Int) (hB:W.heap.size≤bw) (w:World) (n:Nat) (Ys:List ByteArray) (hs:St7 W bw X n Ys w) (hn:n≤1000000) :
  Calls Tryz.prog 72 #[.pointer (some ⟨bw,0,none⟩),.int .i64 k] w (WrE W bw X (n+1) (Ys++[if k=1 then kTrue else yH])):=by
 by_cases h1:k=1
 ·rw[if_pos h1]
  subst h1;have cP:=wQ kTrue hB hs hn;clear hs
  go_enter Tryz.func72,Tryz.ntmps72
  go_wp2_with fail;refine cP.mono ?_;rintro en w2 ⟨⟨u,rfl⟩,h2⟩;have H2:=Lib.hid h2;clear h2;go_wp2_with fail;go_end0;exact⟨⟨_,rfl⟩,H2.out⟩
 ·rw[if_neg h1]
  have cP:=wQ yH hB hs hn;clear hs
  go_enter Tryz.func72,Tryz.ntmps72
  go_wp2_with fail;refine cP.mono ?_;rintro en w2 ⟨⟨u,rfl⟩,h2⟩;have H2:=Lib.hid h2;clear h2;go_wp2_with fail;go_end0;exact⟨⟨_,rfl⟩,H2.out⟩
end
def RuW (W:World) (t:Tr):Prop:=∀(w:World) (v:Value),HasT W v (some t)→Up W w→Calls Tryz.prog 69 #[v] w fun e w'=>e = .returned (.int .i64 ((lvl t.1:Nat):Int))∧Up w w'
section
variable {W:World} {bw:Nat}
end
section
variable {W:World} {bw:Nat}
theorem zQ7 (a b:Tr) (_hB:W.heap.size≤bw) (ea:isT B.nck B.long a 2=true) (eb:isT B.nck B.long b 2=true) (cA:WriC W bw a 4 (12*szT a)) (cB:WriC W bw b 5 (12*szT b)) (r:Nat) (hr:¬4<r) (RU:RuW W (nd 25 nob (fr2 a b))):WriC W bw (nd 25 nob (fr2 a b)) r (12*szT a+12*szT b):=fun X w n Ys v hv hs hn=>by
 rw[fN (t:=(nd 25 nob (fr2 a b))) hr];have hzz:jL ([atX qE a 4]++[atX qE b 5])=(txE qE (nd 25 nob (fr2 a b))).data.toList:=by
  rw[zR4 ea eb];simp only[List.cons_append,List.nil_append,jL,List.map_cons,List.map_nil,jT,nmT,qM,List.append_assoc]<;>rfl
 have cR:Calls Tryz.prog 69 #[v] w fun e w'=>e = .returned (.int .i64 4)∧Up w w':=RU w v hv hs.1
 obtain⟨q,p,A,cp0,rfl,hq,k0,k1,k2,k3,k4,hcc,hkid⟩:=InT.open hv;obtain⟨kb,ko,rfl,hkb,⟨vaa,kaa,iaa⟩,⟨vbb,kbb,ibb⟩,-⟩:=hkid (by show 0<2;omega);obtain⟨qa,pa,rfl⟩:=InT.ptr iaa;obtain⟨qb,pb,rfl⟩:=InT.ptr ibb;have k4:W.cell? ⟨q,p+4,none⟩=some (.slice (some ⟨kb,ko,none⟩) 2 cp0):=k4;have kaa:W.cell? ⟨kb,ko,none⟩=some (.pointer (some ⟨qa,pa,none⟩)):=kaa;have HIa:Hid (HasT W (.pointer (some ⟨qa,pa,none⟩)) (some a)):=Lib.hid iaa;have HKa:=Lib.hid kaa;have kbb:W.cell? ⟨kb,ko+1,none⟩=some (.pointer (some ⟨qb,pb,none⟩)):=kbb;have HIb:Hid (HasT W (.pointer (some ⟨qb,pb,none⟩)) (some b)):=Lib.hid ibb;have HKb:=Lib.hid kbb;have HK4:=Lib.hid k4;have HK0:=Lib.hid k0;have HK2:=Lib.hid k2;have HS:=Lib.hid hs;have HN:=Lib.hid hn;have HZZ:=Lib.hid hzz;obtain⟨ZZ,hZZ⟩:∃ZZ,Ys++[txE qE (nd 25 nob (fr2 a b))]=ZZ:=⟨_,rfl⟩;rw[hZZ];have HZ:=Lib.hid hZZ;have HcA:=Lib.hid cA;have HcB:=Lib.hid cB;obtain⟨rr,hrr⟩:∃rr:Int,(r:Int)=rr:=⟨_,rfl⟩;rw[hrr];have hq2:¬(4:Int)<rr:=by omega
 clear hv hs hn hzz hZZ k0 k1 k2 k3 k4 hkid kaa iaa kbb ibb cA cB hrr hr RU
 go_enter Tryz.func36,Tryz.ntmps36
 go_wp2_with fail;refine Calls.mono cR ?_;rintro en w1 ⟨rfl,u1⟩;have h1:=HS.out.up u1;have k0:=h1.1.cell HK0.out;have k2:=h1.1.cell HK2.out;have H1:=Lib.hid h1;clear u1 h1 cR;have c0:=HcA.out _ _ _ _ _ HIa.out H1.out (by have:=HN.out;omega);have m4:=H1.out.1.cell HK4.out;have ma:=H1.out.1.cell HKa.out;go_wp2_with fail;refine Calls.mono c0 ?_;rintro en w3 ⟨⟨x3,rfl⟩,h3⟩;have H3:=Lib.hid h3;clear h3 c0 m4 ma k0 k2;have c1:=HcB.out _ _ _ _ _ HIb.out H3.out (by have:=HN.out;omega);have m4:=H3.out.1.cell HK4.out;have mb:=H3.out.1.cell HKb.out;go_wp2_with fail;refine Calls.mono c1 ?_;rintro en w4 ⟨⟨x4,rfl⟩,h4⟩;have H4:=Lib.hid h4;clear h4 c1 m4 mb;have hfin:=H4.out;simp only[List.append_assoc] at hfin;have HF:=Lib.hid (St7.more (m:=n+(12*szT a+12*szT b)) (St7.join (Ys:=Ys) (Zs:=[atX qE a 4]++[atX qE b 5]) hfin (by simp) HZZ.out) (by omega));clear hfin;go_wp2_with fail;go_end0;rw[←HZ.out];exact⟨⟨_,rfl⟩,HF.out⟩
end
theorem yVp (s:ByteArray):jL ([kOpen]++([s]++[kShut]))=(⟨#[40,32]⟩++s++⟨#[32,41]⟩:ByteArray).data.toList:=by
 simp only[List.cons_append,List.nil_append,jL,List.map_cons,List.map_nil,jT,nmT,qM]
 rfl
section
variable {W:World} {bw:Nat} {X:Nat→Obj→Prop}
theorem zTj (t:Tr) (r c:Nat) (hB:W.heap.size≤bw) (h:lvl t.1<r) (RU:RuW W t) (c0:WriC W bw t 0 c):WriC W bw t r (c+2):=fun X w n Ys v hv hs hn=>by
 rw[zAo h];have cR:=RU w v hv hs.1;have HV:=Lib.hid hv;have HS:=Lib.hid hs;have HN:=Lib.hid hn;have HC:=Lib.hid c0;have hq2:((lvl t.1:Nat):Int)<(r:Int):=by omega
 obtain⟨rr,hrr⟩:∃rr:Int,(r:Int)=rr:=⟨_,rfl⟩;obtain⟨ll,hll⟩:∃ll:Int,((lvl t.1:Nat):Int)=ll:=⟨_,rfl⟩;rw[hrr,hll] at hq2;rw[hrr];rw[hll] at cR;obtain⟨s,hss⟩:∃s,txE qE t=s:=⟨_,rfl⟩;rw[hss];obtain⟨ZZ,hZZ⟩:∃ZZ,Ys++[⟨#[40,32]⟩++s++⟨#[32,41]⟩]=ZZ:=⟨_,rfl⟩;rw[hZZ];have HZ:=Lib.hid hZZ;have HSS:=Lib.hid hss;clear hv hs hn c0 hrr hll hss hZZ h RU
 go_enter Tryz.func36,Tryz.ntmps36
 go_wp2_with fail;refine Calls.mono cR ?_;rintro en w1 ⟨rfl,u1⟩;have cP:=wQ kOpen hB (HS.out.up u1) (by have:=HN.out;omega);clear u1 cR;go_wp2_with fail;refine Calls.mono cP ?_;rintro en w2 ⟨⟨x2,rfl⟩,h2⟩;have cW:=HC.out _ w2 (n+1) (Ys++[kOpen]) v HV.out h2 (by have:=HN.out;omega);rw[fE,HSS.out] at cW;clear h2 cP;go_wp2_with fail;refine Calls.mono cW ?_;rintro en w3 ⟨⟨x3,rfl⟩,h3⟩;have cP:=wQ kShut hB h3 (by have:=HN.out;omega);clear h3 cW;go_wp2_with fail;refine Calls.mono cP ?_;rintro en w4 ⟨⟨x4,rfl⟩,h4⟩;simp only[List.append_assoc] at h4;have HF:=Lib.hid (St7.more (m:=n+(c+2)) (St7.join (Ys:=Ys) (Zs:=[kOpen]++([s]++[kShut])) h4 (by simp) (yVp s)) (by omega));clear h4;go_wp2_with fail;go_end0;rw[←HZ.out];exact⟨⟨_,rfl⟩,HF.out⟩
theorem yVq (k:Int) (hB:W.heap.size≤bw) (r:Nat) (hr:¬5<r) (RU:RuW W (⟨21,k,nob,nob⟩,.nil)):WriC W bw (⟨21,k,nob,nob⟩,.nil) r 1:=fun X w n Ys v hv hs hn=>by
 rw[fN (t:=(⟨21,k,nob,nob⟩,.nil)) hr,zRl];have cR:Calls Tryz.prog 69 #[v] w fun e w'=>e = .returned (.int .i64 5)∧Up w w':=RU w v hv hs.1
 obtain⟨q,p,A,cp0,rfl,hq,k0,k1,k2,k3,k4,hcc,hkid⟩:=InT.open hv;have k0:W.cell? ⟨q,p,none⟩=some (.int .i64 21):=k0;have k1:W.cell? ⟨q,p+1,none⟩=some (.int .i64 k):=k1;have HK0:=Lib.hid k0;have HK1:=Lib.hid k1;have HS:=Lib.hid hs;have HN:=Lib.hid hn;obtain⟨rr,hrr⟩:∃rr:Int,(r:Int)=rr:=⟨_,rfl⟩;rw[hrr];have hq2:¬(5:Int)<rr:=by omega
 obtain⟨s,hss⟩:∃s,(if k=1 then kTrue else yH)=s:=⟨_,rfl⟩;rw[hss];have HSS:=Lib.hid hss;clear hv hs hn k0 k1 k2 k3 k4 hkid hrr hr RU hss
 go_enter Tryz.func36,Tryz.ntmps36
 go_wp2_with fail;refine Calls.mono cR ?_;rintro en w1 ⟨rfl,u1⟩;have h1:=HS.out.up u1;have k0:=h1.1.cell HK0.out;have k1:=h1.1.cell HK1.out;have cN:=yVo k hB w1 n Ys h1 (by have:=HN.out;omega);rw[HSS.out] at cN;clear u1 h1 cR;go_wp2_with fail;refine Calls.mono cN ?_;rintro en w2 ⟨⟨x2,rfl⟩,h2⟩;have H2:=Lib.hid h2;clear h2;go_wp2_with fail;go_end0;exact⟨⟨_,rfl⟩,H2.out⟩
theorem zWl (s:ByteArray) (hB:W.heap.size≤bw) (r:Nat) (hr:¬5<r) (RU:RuW W (nd 23 s .nil)):WriC W bw (nd 23 s .nil) r 1:=fun X w n Ys v hv hs hn=>by
 rw[fN (t:=nd 23 s .nil) hr,zHu];have cR:Calls Tryz.prog 69 #[v] w fun e w'=>e = .returned (.int .i64 5)∧Up w w':=RU w v hv hs.1
 obtain⟨q,p,A,cp0,rfl,hq,k0,k1,k2,k3,k4,hcc,hkid⟩:=InT.open hv;have k0:W.cell? ⟨q,p,none⟩=some (.int .i64 23):=k0;have k2:W.cell? ⟨q,p+2,none⟩=some (.string s):=k2;have HK0:=Lib.hid k0;have HK2:=Lib.hid k2;have HS:=Lib.hid hs;have HN:=Lib.hid hn;obtain⟨rr,hrr⟩:∃rr:Int,(r:Int)=rr:=⟨_,rfl⟩;rw[hrr];have hq2:¬(5:Int)<rr:=by omega
 clear hv hs hn k0 k1 k2 k3 k4 hkid hrr hr RU
 go_enter Tryz.func36,Tryz.ntmps36
 go_wp2_with fail;refine Calls.mono cR ?_;rintro en w1 ⟨rfl,u1⟩;have h1:=HS.out.up u1;have k0:=h1.1.cell HK0.out;have k2:=h1.1.cell HK2.out;have cN:=wQ s hB h1 (by have:=HN.out;omega);clear u1 h1 cR;go_wp2_with fail;refine Calls.mono cN ?_;rintro en w2 ⟨⟨x2,rfl⟩,h2⟩;have H2:=Lib.hid h2;clear h2;go_wp2_with fail;go_end0;exact⟨⟨_,rfl⟩,H2.out⟩
end
section
variable {W:World} {bw:Nat}
theorem zWm {x:Nod} {f:Fr} (hk:x.k=23):RuW W (x,f):=fun w v hv hu=>by
 have hl:((lvl x:Nat):Int)=5:=by unfold lvl;rw[hk];rfl
 show Calls _ _ _ _ fun e w'=>e = .returned (.int .i64 ((lvl x:Nat):Int))∧Up w w'
 rw[hl];obtain⟨q,p,A,c,rfl,hq,c0,-⟩:=InT.open hv;have k0:=hu.cell c0;rw[hk] at k0;clear c0 hv hk hl
 go_enter Tryz.func69,Tryz.ntmps69
 go_wp2_with fail
 go_ret
 exact⟨rfl,Up.refl _⟩
theorem zWn {x:Nod} {f:Fr} (hk:x.k=25):RuW W (x,f):=fun w v hv hu=>by
 have hl:((lvl x:Nat):Int)=4:=by unfold lvl;rw[hk];rfl
 show Calls _ _ _ _ fun e w'=>e = .returned (.int .i64 ((lvl x:Nat):Int))∧Up w w'
 rw[hl];obtain⟨q,p,A,c,rfl,hq,c0,-⟩:=InT.open hv;have k0:=hu.cell c0;rw[hk] at k0;clear c0 hv hk hl
 go_enter Tryz.func69,Tryz.ntmps69
 go_wp2_with fail
 go_ret
 exact⟨rfl,Up.refl _⟩
end
end Go.Proofs.YtbpijnalmakfaaaGreatDoor
