/-
  Layer 7, the program's behind, typeBehind, arm.
-/
import Derived.Test.YtbpijnalmakfaaaGreatDoorGw27
set_option maxHeartbeats 40000000
set_option maxRecDepth 100000
namespace Go.Proofs.YtbpijnalmakfaaaGreatDoor
open Go.RowKit
theorem dX {α:Type} {R:Nat→Rs α} {G:SS→SS} (hG:Ab7 G) {i:Nat} {e:Int} (h:e=0→stO (R i)=G (i,0)):stO (at0 R (i,e))=G (i,e):=by
 by_cases he:e=0
 ·subst he
  rw[qR];exact h rfl
 ·rw[kP R (show ¬(i,e).2=0 from he),hG (i,e) he]
  rfl
theorem yX1 {W w4 w:World} {Bm:Nat} {x:Nod} {A:Option Addr} (hr:w.heap[Bm]? = some (.cells #[.int .i64 x.k,.int .i64 x.n,.string x.a,.string x.m,.slice none 0 0] 57 (0,0))) (hW:W.heap.size≤Bm) (hB:Bm<w4.heap.size) (_h4:w4.heap.size≤w.heap.size)
  (WF:World) (hWF:(w.setCell ⟨Bm,4,none⟩ (.slice (some ⟨w.heap.size,0,none⟩) 1 1)).alloc (.cells #[.pointer A] 24)=WF):Gs (On Bm) w WF∧WF.heap[Bm]? = some (.cells #[.int .i64 x.k,.int .i64 x.n,.string x.a,.string x.m,.slice (some ⟨w.heap.size,0,none⟩) 1 1] 57 (0,0))∧WF.heap[w.heap.size]? = some (.cells #[.pointer A] 24 (0,0))∧
   ∀t,NewT w4 w (.pointer A) t→NewT W WF (.pointer (some ⟨Bm,0,none⟩)) (x,fr1 t):=by
 obtain⟨Ws,hWs⟩:∃Ws,w.setCell ⟨Bm,4,none⟩ (.slice (some ⟨w.heap.size,0,none⟩) 1 1)=Ws:=⟨_,rfl⟩;have zs:Ws.heap.size=w.heap.size:=by rw[←hWs];simp[World.setCell]
 have ns:Ws.heap[Bm]? = some (.cells #[.int .i64 x.k,.int .i64 x.n,.string x.a,.string x.m,.slice (some ⟨w.heap.size,0,none⟩) 1 1] 57 (0,0)):=by rw[←hWs];exact Nb.store (x:=x) hr _
 have gs:Gs (On Bm) w Ws:=by rw[←hWs];exact(Gs.refl _ _).set _ _ (.inl rfl)
 rw[hWs] at hWF;have uF:Up Ws WF:=by rw[←hWF];exact(Up.refl _).alloc _
 have gN:WF.heap[w.heap.size]? = some (.cells #[.pointer A] 24 (0,0)):=by rw[←hWF,←zs];exact heap_alloc_new Ws _
 have gF:Gs (On Bm) w WF:=gs.trans (Gs.of uF);refine⟨gF,uF.row ns,gN,fun t ht=>?_⟩;have hbw:=qC hr;exact yU (x:=x) (f:=fr1 t) (uF.row ns) rfl (Nat.le_refl _) ⟨hW,qC (uF.row ns)⟩ ⟨by omega,qC gN⟩ ⟨⟨_,cell_of_row WF w.heap.size 0 _ _ _ gN,InT.keep ht (fun q hq=>⟨by have:=hq.1;omega,by have:=hq.2;have:=gF.size;omega⟩) fun q hq=>gF.block q hq.2 (by have:=hq.1;unfold On;omega)⟩,trivial⟩
theorem fill2 {W w4 w:World} {Bm:Nat} {x:Nod} {A C:Option Addr} (hr:w.heap[Bm]? = some (.cells #[.int .i64 x.k,.int .i64 x.n,.string x.a,.string x.m,.slice none 0 0] 57 (0,0))) (hW:W.heap.size≤Bm) (hB:Bm<w4.heap.size) (_h4:w4.heap.size≤w.heap.size)
  (WF:World) (hWF:(w.setCell ⟨Bm,4,none⟩ (.slice (some ⟨w.heap.size,0,none⟩) 2 2)).alloc (.cells #[.pointer A,.pointer C] 24)=WF):Gs (On Bm) w WF∧
   ∀s t,NewT w4 w (.pointer A) s→NewT w4 w (.pointer C) t→NewT W WF (.pointer (some ⟨Bm,0,none⟩)) (x,fr2 s t):=by
 obtain⟨Ws,hWs⟩:∃Ws,w.setCell ⟨Bm,4,none⟩ (.slice (some ⟨w.heap.size,0,none⟩) 2 2)=Ws:=⟨_,rfl⟩;have zs:Ws.heap.size=w.heap.size:=by rw[←hWs];simp[World.setCell]
 have ns:Ws.heap[Bm]? = some (.cells #[.int .i64 x.k,.int .i64 x.n,.string x.a,.string x.m,.slice (some ⟨w.heap.size,0,none⟩) 2 2] 57 (0,0)):=by rw[←hWs];exact Nb.store (x:=x) hr _
 have gs:Gs (On Bm) w Ws:=by rw[←hWs];exact(Gs.refl _ _).set _ _ (.inl rfl)
 rw[hWs] at hWF;have uF:Up Ws WF:=by rw[←hWF];exact(Up.refl _).alloc _
 have gN:WF.heap[w.heap.size]? = some (.cells #[.pointer A,.pointer C] 24 (0,0)):=by rw[←hWF,←zs];exact heap_alloc_new Ws _
 have gF:Gs (On Bm) w WF:=gs.trans (Gs.of uF);refine⟨gF,fun s t hs ht=>?_⟩;have hbw:=qC hr;have kp:∀{v:Value} {t:Tr},NewT w4 w v t→InT WF (fun q=>W.heap.size≤q∧q<WF.heap.size) v t:=fun h=>InT.keep h (fun q hq=>⟨by have:=hq.1;omega,by have:=hq.2;have:=gF.size;omega⟩) fun q hq=>gF.block q hq.2 (by have:=hq.1;unfold On;omega)
 exact yU (x:=x) (f:=fr2 s t) (uF.row ns) rfl (Nat.le_refl _) ⟨hW,qC (uF.row ns)⟩ ⟨by omega,qC gN⟩ ⟨⟨_,cell_of_row WF w.heap.size 0 _ _ _ gN,kp hs⟩,⟨_,cell_of_row WF w.heap.size 1 _ _ _ gN,kp ht⟩,trivial⟩
structure Px9 (V0:World) (v:Value) (l:List Te) (b:Nat):Prop where
 Q:Px8 V0 v l b
 K:Tke V0 v l
 X:B.Nx V0
 L:Pl V0
 Z:∀t∈l,t.t.s.size≤1000000000
section
variable {V0:World} {v:Value} {l:List Te} {b:Nat}
theorem Px9.typ (P:Px9 V0 v l b) (i:Nat) (hi:i≤l.length) (w:World) (hu:Up V0 w):Calls Tryz.prog 121 #[v,.int .i64 (i:Int)] w (sP (typL B.nck B.long (tks l) i) w):=by
 have c:=pType (tks l) (i:Int) (by rw[yV];exact P.Q.hl) (fun t ht=>by
  obtain⟨u,hu,rfl⟩:=List.mem_map.1 ht;exact P.Z u hu) w v (P.K.tkm.up hu) (Nx.up P.X hu) (P.L.up hu)
 have e:typZ B.nck B.long (tks l) (i:Int)=typL B.nck B.long (tks l) i:=by
  unfold typZ;rw[if_neg (by rw[yV];omega),Int.toNat_natCast]
 rw[e] at c;exact c
theorem zAj (P:Px9 V0 v l b) (i:Nat) (e:Int) (hi:i≤l.length) (w:World) (h:Psr w b v i e) (hu:Up V0 w) :
  Calls Tryz.prog 120 #[.pointer (some ⟨b,0,none⟩),.func (.func 121) #[] #[]] w (PaT (On b) b v (at0 (typL B.nck B.long (tks l)) (i,e)) (fun _ _=>True) w):=by
 obtain⟨c0,c1,c2,f1,f2⟩:=h.cells;have hb:b<w.heap.size:=qC h;have H:=Lib.hid h
 by_cases he:e=0
 ·subst he
  rw[qR];have cY:=fun w' (u:Up w w')=>P.typ i hi w' (hu.trans u)
  have CY:=Lib.hid cY;obtain⟨R,hR⟩:∃R,typL B.nck B.long (tks l) i=R:=⟨_,rfl⟩;rw[hR] at CY ⊢;clear h hu cY hR f1 f2
  go_enter Tryz.func120,Tryz.ntmps120
  go_wp2_with fail
  go_region_with (first
   | (go_at_call 121;refine(CY.out _ (by first | exact Below.refl _ _ | exact qD (Below.refl _ _) 1)).mono ?_;rintro e2 w6 ⟨va,ja,ea,rfl,hV,u6⟩;have u6:Up w w6:=⟨u6.os,u6.tape,u6.output,u6.size,u6.block⟩;have h6:=H.out.up u6;obtain⟨d0,d1,d2,g1,g2⟩:=h6.cells;have hb6:=qC h6;have H6:=Lib.hid h6;have U6:=Lib.hid u6;have HV:=Lib.hid hV;clear h6 u6 hV d0))
  all_goals go_wp2_with fail
  all_goals go_ret
  all_goals
   have hV:=HV.out;have g6:Gs (On b) w6 ((w6.setCell ⟨b,1,none⟩ (.int .i64 ja)).setCell ⟨b,2,none⟩ (.int .i64 ea)):=((Gs.refl (On b) w6).set ⟨b,1,none⟩ _ (.inl rfl)).set ⟨b,2,none⟩ _ (.inl rfl)
   cases R with
   | inl r=>
    obtain⟨t,q⟩:=r;obtain⟨h1,rfl,rfl⟩:=hV;obtain⟨o,p,rfl⟩:=InT.ptr h1;exact⟨_,rfl,(Gs.of U6.out).trans g6,h1.gsb g6 hb,(H6.out.at _ _ rfl).er _,trivial⟩
   | inr r=>
    obtain⟨p,q⟩:=r;obtain⟨rfl,rfl,rfl⟩:=hV;exact⟨none,rfl,(Gs.of U6.out).trans g6,(H6.out.at _ _ rfl).er _⟩
 ·rw[kP _ (show ¬(i,e).2=0 from he)]
  clear h hu
  go_enter Tryz.func120,Tryz.ntmps120
  go_wp2_with fail
  go_ret
  exact⟨none,rfl,Gs.refl _ _,H.out⟩
theorem mQ (l:List Te) (x:ByteArray) {s:SS} (h:s.1≤l.length):(kS (tks l) x s).1≤l.length:=by
 unfold kS
 cases hd:tkB (tks l) s.1 s.2 x with
 | false=>exact h
 | true=>
  unfold tkB at hd;rw[Bool.and_eq_true] at hd;exact qK hd.2
theorem zTe (l:List Te) (p:ByteArray→Bool) {s:SS} (h:s.1≤l.length):(nS p (tks l) s).1≤l.length:=by
 unfold nS nmI;simp only
 split
 ·cases hn:nam p (tks l) s.1 with
  | none=>exact h
  | some x=>exact zXw hn
 ·exact h
theorem bT {α:Type} {l:List Te} {R:Nat→Rs α} (hR:∀j,j≤l.length→In l.length j (R j)) {s:SS} (h:s.1≤l.length):(rS R s).1≤l.length:=by
 unfold rS stO at0
 split
 ·have h1:=hR s.1 h
  cases hX:R s.1 with
  | inl r=>rw[hX] at h1;exact h1.2
  | inr r=>rw[hX] at h1;exact h1.2.1
 ·exact h
theorem mR {l:List Tk} {x:ByteArray} {s:SS} (h:(kS l x s).2=0):s.2=0∧s.1<(kS l x s).1:=by
 by_cases hs:s.2=0
 ·refine⟨hs,?_⟩
  obtain⟨i,e⟩:=s;have hs:e=0:=hs;subst hs;rw[yV3] at h ⊢
  split at h
  ·rename_i hk
   rw[if_pos hk];exact Nat.lt_succ_self i
  ·cases h
 ·rw[jC l x s hs] at h
  exact absurd h hs
theorem zOv {l:List Tk} {p:ByteArray→Bool} {s:SS} (h:(nS p l s).2=0):s.2=0∧s.1<(nS p l s).1:=by
 by_cases hs:s.2=0
 ·refine⟨hs,?_⟩
  obtain⟨i,e⟩:=s;have hs:e=0:=hs;subst hs;rw[yV4] at h ⊢
  cases hn:nam p l i with
  | none=>rw[hn] at h;cases h
  | some x=>exact Nat.lt_succ_self i
 ·rw[zRz p l s hs] at h
  exact absurd h hs
theorem uH {α:Type} {l:List Te} {R:Nat→Rs α} (hR:∀j,j≤l.length→In l.length j (R j)) {s:SS} (hi:s.1≤l.length) (h:(rS R s).2=0):s.2=0∧s.1<(rS R s).1:=by
 by_cases hs:s.2=0
 ·refine⟨hs,?_⟩
  unfold rS stO at0 at h ⊢;rw[if_pos hs] at h ⊢;have h1:=hR s.1 hi
  cases hX:R s.1 with
  | inl r=>rw[hX] at h1;exact h1.1
  | inr r=>rw[hX] at h;exact absurd h (h1.ne hX)
 ·rw[xC R s hs] at h
  exact absurd h hs
theorem wI (P:Px9 V0 v l b) (E:Nat→Rs Tr) (x:ByteArray) (i:Nat) (e:Int) (hi:i≤l.length) (w:World) (h:Psr w b v i e) (hu:Up V0 w) (cE:RuAt V0 v b 26 E (kS (tks l) x (i,e)).1 (kS (tks l) x (i,e)).2) :
  Calls Tryz.prog 51 #[.agg #[.pointer (some ⟨b,0,none⟩)],.string x] w (PaT (On b) b v (at0 E (kS (tks l) x (i,e))) (fun _ _=>True) w):=by
 have hll:=P.Q.hl;have hbV:=P.Q.hb;have hb:b<w.heap.size:=qC h;obtain⟨W0,hW0⟩:∃W0,w.alloc (.cells #[.pointer (some ⟨b,0,none⟩)] 62)=W0:=⟨_,rfl⟩;have u0:Up w W0:=by rw[←hW0];exact(Up.refl w).alloc _
 have b1:W0.heap[w.heap.size]? = some (.cells #[.pointer (some ⟨b,0,none⟩)] 62 (0,0)):=by rw[←hW0];exact heap_alloc_new w _
 have cN:=xF b v i e x W0 P.Q.T (h.up u0) (hu.trans u0) (by omega);have HCE:=Lib.hid cE;have HU:=Lib.hid (hu.trans u0);have HW0:=Lib.hid hW0;have U0:=Lib.hid u0;have B1:=Lib.hid b1;clear hW0 u0 b1 h hu cE P
 go_enter Tryz.func51,Tryz.ntmps51
 go_wp2_with fail;rw[HW0.out];refine cN.mono ?_;rintro en w1 ⟨⟨u,rfl⟩,g1,p1⟩;have cX:=HCE.out w1 (g1.up HU.out fun q hq=>by rw[hq];exact hbV) p1;have r1:w1.heap[w.heap.size]? = some (.cells #[.pointer (some ⟨b,0,none⟩)] 62 (0,0)):=g1.row B1.out (by unfold On;omega);have k1:w1.cell? ⟨w.heap.size,0,none⟩=some (.pointer (some ⟨b,0,none⟩)):=cell_of_row w1 w.heap.size 0 _ _ _ r1;have hb1:=qC r1;have G1:=Lib.hid g1;clear r1 g1 p1 cN;go_wp2_with fail;refine cX.mono ?_;rintro en w2 hP;obtain⟨A,rfl,g2,p2,n2⟩:=hP.psr;have G2:=Lib.hid g2;have P2:=Lib.hid p2;have N2:=Lib.hid n2;clear g2 p2 n2 hP cX;go_wp2_with fail
 go_ret
 exact PaT.mk ((Gs.of U0.out).trans (G1.out.trans G2.out)) P2.out fun t j ht=>(N2.out t j ht).base (by have:=U0.out.size;have:=G1.out.size;omega)
theorem sC (P:Px9 V0 v l b) (x:ByteArray) (i:Nat) (e:Int) (hi:i≤l.length) (w:World) (h:Psr w b v i e) (hu:Up V0 w) :
  Calls Tryz.prog 55 #[.agg #[.pointer (some ⟨b,0,none⟩)],.string x] w (PaT (On b) b v (at0 (typL B.nck B.long (tks l)) (kS (tks l) x (i,e))) (fun _ _=>True) w):=by
 have hll:=P.Q.hl;have hbV:=P.Q.hb;have hb:b<w.heap.size:=qC h;obtain⟨W0,hW0⟩:∃W0,w.alloc (.cells #[.pointer (some ⟨b,0,none⟩)] 62)=W0:=⟨_,rfl⟩;have u0:Up w W0:=by rw[←hW0];exact(Up.refl w).alloc _
 have b1:W0.heap[w.heap.size]? = some (.cells #[.pointer (some ⟨b,0,none⟩)] 62 (0,0)):=by rw[←hW0];exact heap_alloc_new w _
 have cN:=xF b v i e x W0 P.Q.T (h.up u0) (hu.trans u0) (by omega);have HPX:=Lib.hid P;have HU:=Lib.hid (hu.trans u0);have HW0:=Lib.hid hW0;have U0:=Lib.hid u0;have B1:=Lib.hid b1;have hkl:=mQ l x (s:=(i,e)) hi;clear hW0 u0 b1 h hu P
 go_enter Tryz.func55,Tryz.ntmps55
 go_wp2_with fail;rw[HW0.out];refine cN.mono ?_;rintro en w1 ⟨⟨u,rfl⟩,g1,p1⟩;have cX:=zAj HPX.out _ _ hkl w1 p1 (g1.up HU.out fun q hq=>by rw[hq];exact hbV);have r1:w1.heap[w.heap.size]? = some (.cells #[.pointer (some ⟨b,0,none⟩)] 62 (0,0)):=g1.row B1.out (by unfold On;omega);have k1:w1.cell? ⟨w.heap.size,0,none⟩=some (.pointer (some ⟨b,0,none⟩)):=cell_of_row w1 w.heap.size 0 _ _ _ r1;have hb1:=qC r1;have G1:=Lib.hid g1;clear r1 g1 p1 cN;go_wp2_with fail;refine cX.mono ?_;rintro en w2 hP;obtain⟨A,rfl,g2,p2,n2⟩:=hP.psr;have G2:=Lib.hid g2;have P2:=Lib.hid p2;have N2:=Lib.hid n2;clear g2 p2 n2 hP cX;go_wp2_with fail
 go_ret
 exact PaT.mk ((Gs.of U0.out).trans (G1.out.trans G2.out)) P2.out fun t j ht=>(N2.out t j ht).base (by have:=U0.out.size;have:=G1.out.size;omega)
theorem zWk (P:Px9 V0 v l b) (i:Nat) (e:Int) (hi:i≤l.length) (w:World) (h:Psr w b v i e) (hu:Up V0 w):Calls Tryz.prog 49 #[.pointer (some ⟨b,0,none⟩),.func (.func 50) #[] #[]] w (NmP b v (nmS (nam B.nck (tks l) i) e) (nS B.nck (tks l) (i,e)).1 (nS B.nck (tks l) (i,e)).2 w):=
 zW4 b v i e _ w (fun w' u=>P.Q.T.name i w' (hu.trans u)) h (by have:=P.Q.hl;omega)
theorem zF5 (P:Px9 V0 v l b) (E:Nat→Rs Tr) (hE:∀j,j≤l.length→In l.length j (E j)) (i:Nat) (e:Int) (hi:i≤l.length) (cE:∀(j:Nat) (e':Int),j≤l.length→(e'=0→e=0∧i<j)→RuAt V0 v b 26 E j e'):RuAt V0 v b 119 (sT B.nck l E) i e:=fun w hu h=>by
 have hll:=P.Q.hl;have hbV:=P.Q.hb;have hb:b<w.heap.size:=qC h;obtain⟨W0,hW0⟩:∃W0,w.alloc (.cells #[.pointer (some ⟨b,0,none⟩)] 62)=W0:=⟨_,rfl⟩;have u0:Up w W0:=by rw[←hW0];exact(Up.refl w).alloc _
 have b1:W0.heap[w.heap.size]? = some (.cells #[.pointer (some ⟨b,0,none⟩)] 62 (0,0)):=by rw[←hW0];exact heap_alloc_new w _
 have k0:W0.cell? ⟨w.heap.size,0,none⟩=some (.pointer (some ⟨b,0,none⟩)):=cell_of_row W0 w.heap.size 0 _ _ _ b1;obtain⟨s1,hs1⟩:∃s1,nS B.nck (tks l) (i,e)=s1:=⟨_,rfl⟩;obtain⟨s2,hs2⟩:∃s2,nS B.nck (tks l) s1=s2:=⟨_,rfl⟩;obtain⟨s3,hs3⟩:∃s3,kS (tks l) kFat s2=s3:=⟨_,rfl⟩;have l1:s1.1≤l.length:=by rw[←hs1];exact zTe l _ hi
 have l2:s2.1≤l.length:=by rw[←hs2];exact zTe l _ l1
 have l3:s3.1≤l.length:=by rw[←hs3];exact mQ l _ l2
 have h30:s3.2=0→e=0∧i<s3.1:=fun h0=>by
  rw[←hs3] at h0 ⊢;obtain⟨a1,a2⟩:=mR h0;rw[←hs2] at a1 a2;obtain⟨a3,a4⟩:=zOv a1;rw[←hs1] at a3 a4;obtain⟨a5,a6⟩:=zOv a3;rw[hs2] at a2;rw[hs1] at a4 a6;rw[hs2] at a4;exact⟨a5,by have a6:i<s1.1:=a6;omega⟩
 have c1:=fun w' (u:Up W0 w')=>zWk P i e hi w' ((h.up u0).up u) ((hu.trans u0).trans u)
 rw[hs1] at c1;have hst:stO (at0 (sT B.nck l E) (i,e))=rS E s3:=by
  rw[←hs3,←hs2,←hs1];exact dX (G:=armG B.nck l E) ((xC _).comp ((jC _ _).comp ((zRz _ _).comp (zRz _ _)))) fun _=>yV8 hE hi
 have C1:=Lib.hid c1;have HPX:=Lib.hid P;have HCE:=Lib.hid cE;have HU:=Lib.hid (hu.trans u0);have HW0:=Lib.hid hW0;have U0:=Lib.hid u0;have B1:=Lib.hid b1;have HST:=Lib.hid hst;have HS1:=Lib.hid hs1;have HS2:=Lib.hid hs2;have HS3:=Lib.hid hs3;have H30:=Lib.hid h30;obtain⟨nm1,hnm1⟩:∃n,nmS (nam B.nck (tks l) i) e=n:=⟨_,rfl⟩;obtain⟨nm2,hnm2⟩:∃n,nmS (nam B.nck (tks l) s1.1) s1.2=n:=⟨_,rfl⟩;rw[hnm1] at C1;have HN1:=Lib.hid hnm1;have HN2:=Lib.hid hnm2;have z0:W0.heap.size=w.heap.size+1:=by rw[←hW0];simp
 have hw0lt:w.heap.size<W0.heap.size:=by omega
 have hwb:w.heap.size≠b:=by omega
 clear c1 hW0 u0 b1 h hu P hst hs1 hs2 hs3 hnm1 hnm2 h30 cE
 go_enter Tryz.func119,Tryz.ntmps119
 go_wp2_with fail;rw[HW0.out]
 go_region_held3 (fun w'=>w'.cell? ⟨w.heap.size,0,none⟩=some (.pointer (some ⟨b,0,none⟩))) (first | go_keep | assumption) (first
  | (go_at_call 49;refine(C1.out _ (by first | exact Below.refl _ _ | exact qD (Below.refl _ _) 1)).mono ?_;rintro e2 w6 ⟨rfl,g6,p6⟩;have g6:Gs (On b) W0 w6:=⟨g6.os,g6.tape,g6.output,g6.size,g6.block⟩;have k6:w6.cell? ⟨w.heap.size,0,none⟩=some (.pointer (some ⟨b,0,none⟩)):=g6.cell k0 (by unfold On;exact hwb);have hw6:=g6.size;have hw6lt:w.heap.size<w6.heap.size:=(by omega);have G6:=Lib.hid g6;have P6:=Lib.hid p6;clear g6 p6 C1)
  | (go_at_call 49;refine(zWk HPX.out s1.1 s1.2 l1 _ (by first | exact P6.out | exact P6.out.up (qD (Below.refl _ _) 1)) (by first | exact G6.out.up HU.out (fun q hq=>(by rw[hq];exact hbV)) | exact(G6.out.up HU.out (fun q hq=>(by rw[hq];exact hbV))).trans (qD (Below.refl _ _) 1))).mono ?_;rintro e2 w7 ⟨rfl,g7,p7⟩;have g7:Gs (On b) w6 w7:=⟨g7.os,g7.tape,g7.output,g7.size,g7.block⟩;have k7:w7.cell? ⟨w.heap.size,0,none⟩=some (.pointer (some ⟨b,0,none⟩)):=g7.cell k6 (by unfold On;exact hwb);have hw7:=g7.size;have hw7lt:w.heap.size<w7.heap.size:=(by omega);have G7:=Lib.hid g7;have P7:=Lib.hid p7;clear g7 p7))
 all_goals go_wp2_with fail
 all_goals
  rw[HN2.out];obtain⟨w8,hw8⟩:∃w8,w7.alloc (.cells #[.int .i64 34,.int .i64 0,.string nm1,.string nm2,.slice none 0 0] 57)=w8:=⟨_,rfl⟩;have u8:Up w7 w8:=by rw[←hw8];exact(Up.refl w7).alloc _
  have b8:w8.heap[w7.heap.size]? = some (.cells #[.int .i64 34,.int .i64 0,.string nm1,.string nm2,.slice none 0 0] 57 (0,0)):=by rw[←hw8];exact heap_alloc_new w7 _
  have k8:=u8.cell k7;have g08:Gs (On b) W0 w8:=(G6.out.trans G7.out).trans (Gs.of u8);have p8:Psr w8 b v s2.1 s2.2:=by have h:=P7.out.up u8;rw[show nS B.nck (tks l) (s1.1,s1.2)=s2 from HS2.out] at h;exact h
  have cB:=wI HPX.out E kFat s2.1 s2.2 l2 w8 p8 (g08.up HU.out fun q hq=>by rw[hq];exact hbV) (by rw[show kS (tks l) kFat (s2.1,s2.2)=s3 from HS3.out];exact HCE.out _ _ l3 H30.out);rw[show kS (tks l) kFat (s2.1,s2.2)=s3 from HS3.out] at cB;obtain⟨X,hX⟩:∃X,at0 E s3=X:=⟨_,rfl⟩;rw[hX] at cB;have HX:=Lib.hid hX;have hz8:w8.heap.size=w7.heap.size+1:=by rw[←hw8];simp
  have B8:=Lib.hid b8;have G08:=Lib.hid g08;rw[hw8];clear hw8 u8 b8 g08 p8 hX k7;go_wp2_with fail;refine cB.mono ?_;rintro en w9 hP;obtain⟨A9,rfl,g9,p9,n9⟩:=hP.psr;have b9:=g9.row B8.out (by unfold On;omega);have c9:w9.cell? ⟨w7.heap.size,4,none⟩=some (.slice none 0 0):=cell_of_row w9 _ 4 _ _ _ b9;have f9:=frozen_of_row w9 w7.heap.size 4 _ _ b9;have hb9:=qC b9;have hz9:=g9.size;have B9:=Lib.hid b9;have G9:=Lib.hid g9;have P9:=Lib.hid p9;have N9:=Lib.hid n9;clear b9 g9 p9 n9 hP cB;go_wp2_with fail
  go_ret
  obtain⟨gF,-,-,hF⟩:=yX1 (W:=w) (w4:=w8) (x:=⟨34,0,nm1,nm2⟩) (A:=A9) B9.out (by omega) (by omega) (by omega) _ rfl;have e1:rI (at0 (sT B.nck l E) (i,e))=rI X:=by have h:=congrArg Prod.fst HST.out;rw[show rS E s3=stO X from by unfold rS;rw[HX.out]] at h;exact h
  have e2:rE (at0 (sT B.nck l E) (i,e))=rE X:=by have h:=congrArg Prod.snd HST.out;rw[show rS E s3=stO X from by unfold rS;rw[HX.out]] at h;exact h
  have gA:Gs (On b) w w9:=(Gs.of U0.out).trans (G08.out.trans G9.out);refine PaT.mk ⟨gF.os.trans gA.os,gF.tape.trans gA.tape,gF.output.trans gA.output,Nat.le_trans gA.size gF.size,fun q hq hn=>(gF.block q (by have:=gA.size;omega) (by unfold On;omega)).trans (gA.block q hq hn)⟩ (by rw[e1,e2];exact gF.row P9.out (by unfold On;omega)) fun t j ht=>?_
  by_cases he:e=0
  ·subst he
   rw[qR] at ht;obtain⟨cn,xn,b',j1,j2,h1,h2,h3,h4,h5,rfl⟩:=zA9 ht;have q1:s1=(j1,0):=HS1.out.symm.trans h2;have q3:s3=(j2,0):=by rw[←HS3.out,←HS2.out,q1];exact h4
   have hn1:=HN1.out;rw[h1] at hn1;have hn1:cn=nm1:=hn1;have hn2:=HN2.out;rw[q1] at hn2;simp only at hn2;rw[h3] at hn2;have hn2:xn=nm2:=hn2;rw[hn1,hn2];have hXe:X = .inl (b',j):=by rw[←HX.out,q3,qR];exact h5
   exact hF b' (N9.out b' j hXe)
  ·rw[kP _ (show ¬(i,e).2=0 from he)] at ht
   cases ht
end
def P3 (B0 Bm:Nat) (s:ByteArray) (X:Rs Tr) (w:World):Prop:=∃K A,w.heap[Bm]? = some (.cells #[.int .i64 24,.int .i64 0,.string s,.string ⟨#[]⟩,.slice (some ⟨K,0,none⟩) 1 1] 57 (0,0))∧w.heap[K]? = some (.cells #[.pointer A] 24 (0,0))∧B0≤K∧w.ownsRow B0 24 1 (.slice (some ⟨K,0,none⟩) 1 1) 1 [.pointer A]∧∀t j,X = .inl (t,j)→InT w (fun q=>B0≤q∧q<w.heap.size∧q≠K) (.pointer A) t
theorem Nb.name {w:World} {b:Nat} {x:Nod} {v:Value} (h:Nb w b x v) (s:ByteArray):Nb (w.setCell ⟨b,2,none⟩ (.string s)) b {x with a:=s} v:=by
 unfold Nb at h ⊢
 simp[World.setCell,Array.getElem?_modify,h]
theorem zF6 (w:World) (A:Option Addr):(w.alloc (.cells #[.pointer A] 24)).ownsRow w.heap.size 24 1 (.slice (some ⟨w.heap.size,0,none⟩) 1 1) 1 [.pointer A]:=
 ⟨rfl,.inr ⟨w.heap.size,1,#[.pointer A],rfl,Nat.le_refl _,heap_alloc_new w _,Nat.le_refl _,by unfold maxLen;omega,rfl,rfl⟩⟩
section
variable {V0:World} {v:Value} {l:List Te} {b:Nat}
theorem zF7 (P:Px9 V0 v l b) (i:Nat) (e:Int) (hi:i≤l.length) (B1 B2 Bm B0:Nat) (w:World) (h1b:B1≠b) (h2b:B2≠b) (hmb:Bm≠b) (h1m:B1≠Bm) (h2m:B2≠Bm) (hVm:V0.heap.size≤Bm) (hB0:B0≤w.heap.size) (_hb0:b<B0) (_hm0:Bm<B0)
  (c1:w.heap[B1]? = some (.cells #[.pointer (some ⟨b,0,none⟩)] 62 (0,0))) (c2:w.heap[B2]? = some (.cells #[.pointer (some ⟨Bm,0,none⟩)] 24 (0,0))) (nb:Nb w Bm ⟨24,0,nob,nob⟩ (.slice none 0 0)) (h:Psr w b v i e) (hu:Up V0 w) :
  Calls Tryz.prog 112 #[.pointer (some ⟨B1,0,none⟩),.pointer (some ⟨B2,0,none⟩)] w (InL (Two b Bm) b v (rI (at0 (typL B.nck B.long (tks l)) (kS (tks l) zW (nS B.nck (tks l) (i,e))))) (rE (at0 (typL B.nck B.long (tks l)) (kS (tks l) zW (nS B.nck (tks l) (i,e))))) (P3 B0 Bm (nmS (nam B.nck (tks l) i) e) (at0 (typL B.nck B.long (tks l)) (kS (tks l) zW (nS B.nck (tks l) (i,e))))) w):=by
 have hbV:=P.Q.hb;obtain⟨s2,hs2⟩:∃s2,nS B.nck (tks l) (i,e)=s2:=⟨_,rfl⟩;have l2:s2.1≤l.length:=by rw[←hs2];exact zTe l _ hi
 obtain⟨nm,hnm⟩:∃n,nmS (nam B.nck (tks l) i) e=n:=⟨_,rfl⟩;have cN:=fun w' (u:Up w w')=>zWk P i e hi w' (h.up u) (hu.trans u)
 rw[hs2,hnm] at cN;rw[hs2,hnm];obtain⟨X,hX⟩:∃X,at0 (typL B.nck B.long (tks l)) (kS (tks l) zW s2)=X:=⟨_,rfl⟩;rw[hX];have HX:=Lib.hid hX;have k1:w.cell? ⟨B1,0,none⟩=some (.pointer (some ⟨b,0,none⟩)):=cell_of_row w B1 0 _ _ _ c1;have k2:w.cell? ⟨B2,0,none⟩=some (.pointer (some ⟨Bm,0,none⟩)):=cell_of_row w B2 0 _ _ _ c2;have hb1:=qC c1;have hb2:=qC c2;have hbm:Bm<w.heap.size:=qC nb;have HN:=Lib.hid cN;have HPX:=Lib.hid P;have HC1:=Lib.hid c1;have HC2:=Lib.hid c2;have HNB:=Lib.hid nb;have HU:=Lib.hid hu;clear cN P hs2 hnm hX c1 c2 nb hu h
 go_enter Tryz.func112,Tryz.ntmps112
 go_wp2_with fail
 go_region_held3 (fun w'=>w'.cell? ⟨B2,0,none⟩=some (.pointer (some ⟨Bm,0,none⟩))∧w'.cell? ⟨B1,0,none⟩=some (.pointer (some ⟨b,0,none⟩))) (first | go_keep | (refine⟨?_,?_⟩<;>(rw[xM _ _ _ (by simp only;omega)];assumption)))
  ((go_at_call 49;refine(HN.out _ (by first | exact Below.refl _ _ | exact qD (Below.refl _ _) 1)).mono ?_;rintro e2 w2 ⟨rfl,g2,p2⟩;have g2:Gs (On b) w w2:=⟨g2.os,g2.tape,g2.output,g2.size,g2.block⟩;have nb2:Nb w2 Bm ⟨24,0,nob,nob⟩ (.slice none 0 0):=g2.row HNB.out (by unfold On;exact hmb);have c4:w2.cell? ⟨Bm,2,none⟩=some (.string nob):=cell_of_row w2 Bm 2 _ _ _ nb2;have f4:w2.frozen? ⟨Bm,2,none⟩=false:=frozen_of_row w2 Bm 2 _ _ nb2;have k22:=g2.cell k2 (by unfold On;exact h2b);have k21:=g2.cell k1 (by unfold On;exact h1b);have hz2:=g2.size;have G2:=Lib.hid g2;have P2:=Lib.hid p2;have N2:=Lib.hid nb2;clear g2 p2 nb2 HN))
 obtain⟨q2,q1⟩:=‹(w2.setCell _ _).cell? _=_∧_›;obtain⟨w3,hw3⟩:∃w3,w2.setCell ⟨Bm,2,none⟩ (.string nm)=w3:=⟨_,rfl⟩;rw[hw3] at q1 q2;rw[hw3];have g03:Gs (Two b Bm) w w3:=by rw[←hw3];exact G2.out.two.set _ _ (.inl (.inr rfl))
 have n3:Nb w3 Bm ⟨24,0,nm,nob⟩ (.slice none 0 0):=by rw[←hw3];exact N2.out.name nm
 have p3:Psr w3 b v s2.1 s2.2:=by rw[←hw3];exact((Gs.refl (On Bm) w2).set ⟨Bm,2,none⟩ _ (.inl rfl)).row P2.out (by unfold On;omega)
 have u3:Up V0 w3:=g03.up HU.out fun q hq=>by rcases hq with h | h<;>rw[h]<;>assumption
 have cT:=fun w' (u:Up w3 w')=>sC HPX.out zW s2.1 s2.2 l2 w' (p3.up u) (u3.trans u)
 rw[show at0 (typL B.nck B.long (tks l)) (kS (tks l) zW (s2.1,s2.2))=X from HX.out] at cT;have CT:=Lib.hid cT;have G03:=Lib.hid g03;have N3:=Lib.hid n3;have hz3:=g03.size;clear hw3 g03 n3 p3 u3 cT c4 f4 k21 k22;go_wp2_with fail
 go_region_held3 (fun w'=>w'.cell? ⟨B2,0,none⟩=some (.pointer (some ⟨Bm,0,none⟩))∧w'.cell? ⟨B1,0,none⟩=some (.pointer (some ⟨b,0,none⟩))) (first | go_keep | (refine⟨?_,?_⟩<;>exact((Up.refl _).alloc _).cell (by rw[xM _ _ _ (by simp only;omega)];assumption)) | (refine⟨?_,?_⟩<;>(rw[xM _ _ _ (by simp only;omega)];assumption)))
  ((go_at_call 55;refine(CT.out _ (by first | exact Below.refl _ _ | exact qD (Below.refl _ _) 1)).mono ?_;rintro e2 w5 hP;obtain⟨A5,rfl,g5,p5,n5⟩:=hP.psr;have g5:Gs (On b) w3 w5:=⟨g5.os,g5.tape,g5.output,g5.size,g5.block⟩;have nb5:=g5.row N3.out (by unfold On;exact hmb);have c54:w5.cell? ⟨Bm,4,none⟩=some (.slice none 0 0):=cell_of_row w5 Bm 4 _ _ _ nb5;have f54:w5.frozen? ⟨Bm,4,none⟩=false:=frozen_of_row w5 Bm 4 _ _ nb5;have hb5:Bm<w5.heap.size:=qC nb5;have k52:=g5.cell q2 (by unfold On;exact h2b);have k51:=g5.cell q1 (by unfold On;exact h1b);have hz5:=g5.size;have G5:=Lib.hid g5;have P5:=Lib.hid p5;have N5:=Lib.hid nb5;have M5:=Lib.hid n5;clear g5 p5 nb5 n5 hP CT))
 go_end0;clear q1 q2 ‹_∧_›;obtain⟨WF,hWF⟩:∃WF,(w5.setCell ⟨Bm,4,none⟩ (.slice (some ⟨w5.heap.size,0,none⟩) 1 1)).alloc (.cells #[.pointer A5] 24)=WF:=⟨_,rfl⟩;obtain⟨gF,rF,kF,-⟩:=yX1 (W:=V0) (w4:=w3) (x:=⟨24,0,nm,nob⟩) (A:=A5) N5.out hVm (by have:=G03.out.size;omega) hz5 WF hWF;have zF:WF.heap.size=w5.heap.size+1:=by rw[←hWF];simp[World.setCell]
 have z5:(w5.setCell ⟨Bm,4,none⟩ (.slice (some ⟨w5.heap.size,0,none⟩) 1 1)).heap.size=w5.heap.size:=by simp[World.setCell]
 have oF:=zF6 (w5.setCell ⟨Bm,4,none⟩ (.slice (some ⟨w5.heap.size,0,none⟩) 1 1)) A5;rw[z5,hWF] at oF;rw[hWF];have g05:Gs (Two b Bm) w w5:=G03.out.trans G5.out.two;refine⟨⟨_,rfl⟩,g05.trans (gF.wide fun k _ hq=>.inr hq),gF.row P5.out (by unfold On;exact fun e=>hmb e.symm),w5.heap.size,A5,rF,kF,by omega,zT1 oF (by omega),fun t j hX=>?_⟩;have ht:NewT w3.drew w5 (.pointer A5) t:=M5.out t j hX;exact InT.keep ht (fun q hq=>⟨by have:w3.heap.size≤q:=hq.1;omega,by have:=hq.2;omega,by have:=hq.2;omega⟩) fun q hq=>gF.block q hq.2 (by have:w3.heap.size≤q:=hq.1;unfold On;omega)
end
theorem zAk {w w4:World} {b:Nat} {ob o:Obj} {r:Option Nat} (h:w.heap[b]? = some o) (hg:(w.alloc ob).grownBy w4 r) (hv:r≠some b):w4.heap[b]? = some o:=by
 have hb:=qC h;have hasz:(w.alloc ob).heap.size=w.heap.size+1:=by simp
 exact((hg.block b (by omega) fun e=>hv e.symm).trans (((Below.refl w.heap.size w).alloc (Nat.le_refl _) ob).block b hb)).trans h
theorem uI {w:World} {K B0:Nat} {A:Option Addr} (h:w.heap[K]? = some (.cells #[.pointer A] 24 (0,0))) (hB:B0≤K):w.ownsRow B0 24 1 (.slice (some ⟨K,0,none⟩) 1 1) 1 [.pointer A]:=
 ⟨rfl,.inr ⟨K,1,#[.pointer A],rfl,hB,h,Nat.le_refl _,by unfold maxLen;omega,rfl,rfl⟩⟩
theorem yVl {w w4 w6 w7:World} {b Bm K g7 cap7:Nat} {v vk:Value} {A A6:Option Addr} {ob:Obj} {nm:ByteArray} {X Y R:Rs Tr} (hb:b<w.heap.size) (hBm:Bm=w.heap.size+1) (hBK:w.heap.size+3≤K) (hK4:K<w4.heap.size) (G04:Gs (On b) w w4) (G6:Gs (On b) w4 w6) (P6:Psr w6 b v (rI Y) (rE Y)) (NB7:Nb w7 Bm ⟨24,0,nm,nob⟩ vk) (HOB:vk.ownBlock=some K) (OW7:w7.ownsRow (w.heap.size+3) 24 1 (.slice (some ⟨g7,0,none⟩) 2 cap7) 2 [.pointer A,.pointer A6]) (GR7:(w6.alloc ob).grownBy w7 vk.ownBlock) (AT7:vk.ownBlock=some g7∨g7=w6.heap.size+1) (hlt7:g7<w7.heap.size)
  (HT4:∀t j,X = .inl (t,j)→InT w4 (fun q=>w.heap.size+3≤q∧q<w4.heap.size∧q≠K) (.pointer A) t) (N6:∀t j,Y = .inl (t,j)→NewT w4 w6 (.pointer A6) t) (hR:stO R=stO Y) (hv:∀u j,R = .inl (u,j)→∃t b' j3,X = .inl (t,j3)∧Y = .inl (b',j)∧u=(⟨24,0,nm,nob⟩,fr2 t b')) :
  PaT (On b) b v R (fun _ _=>True) w (.returned (.pointer (some ⟨Bm,0,none⟩))) (w7.setCell ⟨Bm,4,none⟩ (.slice (some ⟨g7,0,none⟩) 2 cap7)):=by
 have z4:=G04.size;have z6:=G6.size;have hgK:g7=K∨g7=w6.heap.size+1:=by
  rcases AT7 with h | h
  ·rw[HOB] at h;injection h with h;exact .inl h.symm
  ·exact .inr h
 have hasz:(w6.alloc ob).heap.size=w6.heap.size+1:=by simp
 have h67:∀q,q<w6.heap.size→q≠K→w7.heap[q]? = w6.heap[q]?:=fun q hq hn=>(GR7.block q (by omega) fun e=>by rw[HOB] at e;injection e with e;exact hn e).trans (((Below.refl w6.heap.size w6).alloc (Nat.le_refl _) ob).block q hq)
 have z7:w6.heap.size≤w7.heap.size:=by have:=GR7.size;omega
 obtain⟨WF,hWF⟩:∃WF,w7.setCell ⟨Bm,4,none⟩ (.slice (some ⟨g7,0,none⟩) 2 cap7)=WF:=⟨_,rfl⟩;have gF:Gs (On b) w WF:=by
  rw[←hWF];exact(((G04.trans G6).alloc ob).grown GR7 fun g hg=>by rw[HOB] at hg;injection hg with hg;exact .inr (by omega)).set _ _ (.inr (by simp only;omega))
 have nF:Nb WF Bm ⟨24,0,nm,nob⟩ (.slice (some ⟨g7,0,none⟩) 2 cap7):=by rw[←hWF];exact NB7.store _
 have hne:∀q,q≠Bm→WF.heap[q]? = w7.heap[q]?:=fun q hq=>by rw[←hWF];exact Below.heap_setCell _ _ _ _ hq
 have zF:WF.heap.size=w7.heap.size:=by rw[←hWF];simp[World.setCell]
 have oF:WF.ownsRow (w.heap.size+3) 24 1 (.slice (some ⟨g7,0,none⟩) 2 cap7) 2 [.pointer A,.pointer A6]:=by
  rw[←hWF];exact zC OW7 _ _ fun g' e=>by injection e with e;subst e;simp only;omega
 rw[hWF];have e1:rI R=rI Y:=congrArg Prod.fst hR;have e2:rE R=rE Y:=congrArg Prod.snd hR;refine PaT.mk gF (by rw[e1,e2];exact((hne b (by omega)).trans (h67 b (by omega) (by omega))).trans P6) fun u j hu=>?_
 obtain⟨t,b',j3,hX,hY,rfl⟩:=hv u j hu;refine OwnT.tree (x:=⟨24,0,nm,nob⟩) (f:=fr2 t b') ⟨[.pointer A,.pointer A6],oF,?_,?_,trivial⟩ nF ⟨by omega,by have:=qC nF;omega⟩ fun g' e=>?_
 ·exact InT.keep (HT4 t j3 hX) (fun q hq=>⟨by have:=hq.1;omega,by have:=hq.2.1;omega⟩) fun q hq=>((hne q (by have:=hq.1;omega)).trans (h67 q (by have:=hq.2.1;omega) hq.2.2)).trans (G6.block q hq.2.1 (by have:=hq.1;unfold On;omega))
 ·exact InT.keep (N6 b' j hY) (fun q hq=>⟨by have:=hq.1;omega,by have:=hq.2;omega⟩) fun q hq=>(hne q (by have:=hq.1;omega)).trans (h67 q hq.2 (by have:=hq.1;omega))
 ·injection e with e
  have e:g7=g':=e;subst e;exact⟨by omega,by omega⟩
section
variable {V0:World} {v:Value} {l:List Te} {b:Nat}
theorem zTf (P:Px9 V0 v l b) (E:Nat→Rs Tr) (hE:∀j,j≤l.length→In l.length j (E j)) (i:Nat) (e:Int) (hi:i≤l.length) (cE:∀(j:Nat) (e':Int),j≤l.length→(e'=0→e=0∧i<j)→RuAt V0 v b 26 E j e'):RuAt V0 v b 48 (lamS B.nck B.long l E) i e:=fun w hu h=>by
 have hll:=P.Q.hl;have hbV:=P.Q.hb;have hb:b<w.heap.size:=qC h;obtain⟨s0,hs0⟩:∃s,kS (tks l) kOpen (i,e)=s:=⟨_,rfl⟩;obtain⟨s1,hs1⟩:∃s,nS B.nck (tks l) s0=s:=⟨_,rfl⟩;obtain⟨s2,hs2⟩:∃s,kS (tks l) zW s1=s:=⟨_,rfl⟩;obtain⟨X,hX⟩:∃X,at0 (typL B.nck B.long (tks l)) s2=X:=⟨_,rfl⟩;obtain⟨s4,hs4⟩:∃s,kS (tks l) kShut (stO X)=s:=⟨_,rfl⟩;obtain⟨s5,hs5⟩:∃s,kS (tks l) kFat s4=s:=⟨_,rfl⟩;have hrs:rS (typL B.nck B.long (tks l)) s2=stO X:=by unfold rS;rw[hX]
 have l0:s0.1≤l.length:=by rw[←hs0];exact mQ l _ hi
 have l1:s1.1≤l.length:=by rw[←hs1];exact zTe l _ l0
 have l2:s2.1≤l.length:=by rw[←hs2];exact mQ l _ l1
 have hY:∀j,j≤l.length→In l.length j (typL B.nck B.long (tks l) j):=fun j hj=>xQ hj
 have lX:(stO X).1≤l.length:=by rw[←hrs];exact bT hY l2
 have l4:s4.1≤l.length:=by rw[←hs4];exact mQ l _ lX
 have l5:s5.1≤l.length:=by rw[←hs5];exact mQ l _ l4
 have h50:s5.2=0→e=0∧i<s5.1:=fun h0=>by
  rw[←hs5] at h0;obtain⟨a1,b1⟩:=mR h0;rw[hs5] at b1;rw[←hs4] at a1;obtain⟨a2,b2⟩:=mR a1;rw[hs4] at b2;rw[←hrs] at a2 b2;obtain⟨a3,b3⟩:=uH hY l2 a2;rw[←hs2] at a3;obtain⟨a4,b4⟩:=mR a3;rw[hs2] at b4;rw[←hs1] at a4;obtain⟨a5,b5⟩:=zOv a4;rw[hs1] at b5;rw[←hs0] at a5;obtain⟨a6,b6⟩:=mR a5;rw[hs0] at b6;exact⟨a6,by have b6:i<s0.1:=b6;omega⟩
 have hst:stO (at0 (lamS B.nck B.long l E) (i,e))=rS E s5:=by
  rw[←hs5,←hs4,←hrs,←hs2,←hs1,←hs0];exact dX (G:=lamG B.nck B.long l E) ((xC _).comp ((jC _ _).comp ((jC _ _).comp ((xC _).comp ((jC _ _).comp ((zRz _ _).comp (jC _ _))))))) fun _=>yV5 hE hi
 obtain⟨Y,hYY⟩:∃Y,at0 E s5=Y:=⟨_,rfl⟩;obtain⟨nm,hnm⟩:∃n,nmS (nam B.nck (tks l) s0.1) s0.2=n:=⟨_,rfl⟩;have hval:∀u j,at0 (lamS B.nck B.long l E) (i,e) = .inl (u,j)→∃t b' j3,X = .inl (t,j3)∧Y = .inl (b',j)∧u=(⟨24,0,nm,nob⟩,fr2 t b'):=fun u j hu=>by
  by_cases he:e=0
  ·subst he
   rw[qR] at hu;obtain⟨s,t,b',j1,j2,j3,j4,a1,a2,a3,a4,a5,a6,rfl⟩:=zA7 hi hu;have q0:s0=(j1,0):=hs0.symm.trans a1;have q2:s2=(j2,0):=by rw[←hs2,←hs1,q0];exact a3
   have qX:X = .inl (t,j3):=by rw[←hX,q2,qR];exact a4
   have q5:s5=(j4,0):=by rw[←hs5,←hs4,qX];exact a5
   have hn:=hnm;rw[q0] at hn;simp only at hn;rw[a2] at hn;have hn:s=nm:=hn;exact⟨t,b',j3,qX,by rw[←hYY,q5,qR];exact a6,by rw[hn];rfl⟩
  ·rw[kP _ (show ¬(i,e).2=0 from he)] at hu
   cases hu
 obtain⟨W0,hW0⟩:∃W0,((w.alloc (.cells #[.pointer (some ⟨b,0,none⟩)] 62)).alloc (.cells #[.int .i64 24,.int .i64 0,.string ⟨#[]⟩,.string ⟨#[]⟩,.slice none 0 0] 57)).alloc (.cells #[.pointer (some ⟨w.heap.size+1,0,none⟩)] 24)=W0:=⟨_,rfl⟩;have u0:Up w W0:=by rw[←hW0];exact(((Up.refl w).alloc _).alloc _).alloc _
 obtain⟨t1,t2,t3,-,z0⟩:=vY w (.cells #[.pointer (some ⟨b,0,none⟩)] 62) (.cells #[.int .i64 24,.int .i64 0,.string ⟨#[]⟩,.string ⟨#[]⟩,.slice none 0 0] 57) (.cells #[.pointer (some ⟨w.heap.size+1,0,none⟩)] 24) (H:=w.heap.size) rfl;rw[hW0] at t1 t2 t3 z0;have hz:=hu.size;have hsx:at0 (typL B.nck B.long (tks l)) (kS (tks l) zW (nS B.nck (tks l) (s0.1,s0.2)))=X:=by rw[←hX,←hs2,←hs1]
 have cB:=jA b v i e kOpen kShut 112 #[.pointer (some ⟨w.heap.size,0,none⟩),.pointer (some ⟨w.heap.size+1+1,0,none⟩)] (fun _ _=>by kernel_rfl) (Two b (w.heap.size+1)) (fun q hq=>by rcases hq with hq | hq<;>omega) hbV (rI X) (rE X) (P3 (w.heap.size+3) (w.heap.size+1) nm X) W0
  P.Q.T (h.up u0) (hu.trans u0) (by omega) (by have:rI X≤l.length:=lX;omega) (fun w2 g2 h2=>by
   have h2:Psr w2 b v s0.1 s0.2:=by rw[←hs0];exact h2
   have c:=zF7 P s0.1 s0.2 l0 w.heap.size (w.heap.size+2) (w.heap.size+1) (w.heap.size+3) w2 (by omega) (by omega) (by omega) (by omega) (by omega) (by omega) (by have:=g2.size;omega) (by omega) (by omega) (g2.row t1 (by unfold On;omega)) (g2.row t3 (by unfold On;omega)) (g2.row t2 (by unfold On;omega)) h2 (g2.up (hu.trans u0) fun q hq=>by rw[hq];exact hbV);rw[hsx,hnm] at c;exact c)
 have k0:W0.cell? ⟨w.heap.size,0,none⟩=some (.pointer (some ⟨b,0,none⟩)):=cell_of_row _ _ 0 _ _ _ t1;have HPX:=Lib.hid P;have HCE:=Lib.hid cE;have HU:=Lib.hid (hu.trans u0);have HW0:=Lib.hid hW0;have U0:=Lib.hid u0;have HST:=Lib.hid hst;have HS0:=Lib.hid hs0;have HS1:=Lib.hid hs1;have HS2:=Lib.hid hs2;have HS4:=Lib.hid hs4;have HS5:=Lib.hid hs5;have HX:=Lib.hid hX;have HYY:=Lib.hid hYY;have HNM:=Lib.hid hnm;have H50:=Lib.hid h50;have HVAL:=Lib.hid hval;have T1:=Lib.hid t1;have T2:=Lib.hid t2;have T3:=Lib.hid t3;clear hval hst hs0 hs1 hs2 hs4 hs5 hX hYY hnm h50 hrs hY hsx hW0 u0 hu h cE P t1 t2 t3 hE
 go_enter Tryz.func48,Tryz.ntmps48
 go_wp2_with fail;rw[HW0.out];refine cB.mono ?_;rintro en w4 ⟨⟨u,rfl⟩,w2,w3,g2,g3,⟨K,A,nb3,kK3,hBK,-,hT3⟩,g4,h4⟩;have p4:Psr w4 b v s4.1 s4.2:=by rw[←HS4.out];exact h4
 have hKb:K≠b:=by omega
 have nb4:Nb w4 (w.heap.size+1) ⟨24,0,nm,nob⟩ (.slice (some ⟨K,0,none⟩) 1 1):=g4.row nb3 (by unfold On;omega);have kK4:=g4.row kK3 (by unfold On;omega);have t14:=g4.row (g3.row (g2.row T1.out (by unfold On;omega)) (by unfold Two;omega)) (by unfold On;omega);have t34:=g4.row (g3.row (g2.row T3.out (by unfold On;omega)) (by unfold Two;omega)) (by unfold On;omega);have z2:=g2.size;have z3:=g3.size;have z4:=g4.size;have g04:Gs (On b) w w4:=(((Gs.of U0.out:Gs (On b) w W0).trans g2).out2 g3 (by omega)).trans g4;have u4:Up V0 w4:=g4.up (g3.up (g2.up HU.out fun q hq=>by rw[hq];exact hbV) fun q hq=>by rcases hq with hq | hq<;>omega) fun q hq=>by rw[hq];exact hbV
 have hK4:K<w4.heap.size:=qC kK4;have HT4:Hid (∀t j,X = .inl (t,j)→InT w4 (fun q=>w.heap.size+3≤q∧q<w4.heap.size∧q≠K) (.pointer A) t):=Lib.hid fun t j hX=>InT.keep (hT3 t j hX) (fun q hq=>⟨hq.1,by have:=hq.2.1;omega,hq.2.2⟩) fun q hq=>g4.block q hq.2.1 (by have:=hq.1;unfold On;omega)
 have cY:=fun w' (u:Up w4 w')=>wI HPX.out E kFat s4.1 s4.2 l4 w' (p4.up u) (u4.trans u) (by rw[show kS (tks l) kFat (s4.1,s4.2)=s5 from HS5.out];exact HCE.out _ _ l5 H50.out)
 rw[show at0 E (kS (tks l) kFat (s4.1,s4.2))=Y from by rw[show kS (tks l) kFat (s4.1,s4.2)=s5 from HS5.out];exact HYY.out] at cY;obtain⟨vk,hvk⟩:∃vk,Value.slice (some ⟨K,0,none⟩) 1 1=vk:=⟨_,rfl⟩;have ow4:=uI kK4 hBK;rw[hvk] at nb4 ow4;have hob:vk.ownBlock=some K:=by rw[←hvk];rfl
 have CY:=Lib.hid cY;have HOB:=Lib.hid hob;have HVK:=Lib.hid hvk;have G04:=Lib.hid g04;have U4:=Lib.hid u4;have NB4:=Lib.hid nb4;have OW4:=Lib.hid ow4;have T14:=Lib.hid t14;have T34:=Lib.hid t34;have KK4:=Lib.hid kK4;have c40:w4.cell? ⟨w.heap.size,0,none⟩=some (.pointer (some ⟨b,0,none⟩)):=cell_of_row w4 _ 0 _ _ _ t14;have c42:w4.cell? ⟨w.heap.size+1+1,0,none⟩=some (.pointer (some ⟨w.heap.size+1,0,none⟩)):=cell_of_row w4 _ 0 _ _ _ t34;have c44:w4.cell? ⟨w.heap.size+1,4,none⟩=some vk:=cell_of_row w4 _ 4 _ _ _ nb4;have f44:w4.frozen? ⟨w.heap.size+1,4,none⟩=false:=frozen_of_row w4 _ 4 _ _ nb4;have y0:w.heap.size<w4.heap.size:=by omega
 have y1:w.heap.size+1<w4.heap.size:=by omega
 have y2:w.heap.size+1+1<w4.heap.size:=by omega
 clear cB g2 g3 g4 h4 p4 nb3 kK3 hT3 nb4 kK4 t14 t34 g04 u4 cY ow4 hvk hob k0 z2 z3;obtain⟨i0,hi0,hz0,hz1,hz2⟩:=info_parts zUm;go_wp2_with fail;have e0:some w.heap.size≠vk.ownBlock:=fun e=>by rw[HOB.out] at e;injection e with e;omega
 have e1:some (w.heap.size+1)≠vk.ownBlock:=fun e=>by rw[HOB.out] at e;injection e with e;omega
 have e2:some (w.heap.size+1+1)≠vk.ownBlock:=fun e=>by rw[HOB.out] at e;injection e with e;omega
 have hRY:Hid (stO (at0 (lamS B.nck B.long l E) (i,e))=stO Y):=Lib.hid (by rw[HST.out];unfold rS;rw[HYY.out])
 go_region_law (first
  | (go_simp;go_at_call 51;refine(CY.out _ (by first | exact Below.refl _ _ | exact qD (Below.refl _ _) 1)).mono ?_;rintro e9 w6 hP;obtain⟨A6,rfl,g6,p6,n6⟩:=hP.psr;have g6:Gs (On b) w4 w6:=⟨g6.os,g6.tape,g6.output,g6.size,g6.block⟩;have n6:∀t j,Y = .inl (t,j)→NewT w4 w6 (.pointer A6) t:=n6;have hs6:=g6.size;have NB6:=Lib.hid (show Nb w6 (w.heap.size+1) ⟨24,0,nm,nob⟩ vk from g6.row NB4.out (by unfold On;omega));have KK6:=Lib.hid (g6.row KK4.out (by unfold On;omega));have T36:=Lib.hid (g6.row T34.out (by unfold On;omega));have n62:w6.cell? ⟨w.heap.size+1+1,0,none⟩=some (.pointer (some ⟨w.heap.size+1,0,none⟩)):=cell_of_row w6 _ 0 _ _ _ T36.out;have n66:∀ob,(w6.alloc ob).cell? ⟨w.heap.size+1+1,0,none⟩=some (.pointer (some ⟨w.heap.size+1,0,none⟩)):=fun ob=>((Up.refl w6).alloc ob).cell n62;have n64:w6.cell? ⟨w.heap.size+1,4,none⟩=some vk:=cell_of_row w6 _ 4 _ _ _ NB6.out;have n65:∀ob,(w6.alloc ob).cell? ⟨w.heap.size+1,4,none⟩=some vk:=fun ob=>((Up.refl w6).alloc ob).cell n64;have OW6:=Lib.hid (show w6.ownsRow (w.heap.size+3) 24 1 vk 1 [.pointer A] from by rw[←HVK.out];exact uI KK6.out hBK);have G6:=Lib.hid g6;have P6:=Lib.hid p6;have N6:=Lib.hid n6;clear g6 p6 n6 hP)
  | (refine step_append_lies _ (by rfl) _ _ _ (by rfl) (w.heap.size+3) 24 i0 _ 1 8 Tryz.underlying55 hi0 hz0 hz1 hz2 rfl (by omega) vk 1 [.pointer A] (by rfl) (OW6.out.alloc _) ⟨w6.heap.size,0,none⟩ 1 1 [.pointer A6] (by rfl) (by rfl) (cell_one_new _ _ _) (fun x hx=>by simp at hx;subst hx;rfl) (by omega) (by unfold maxLen;omega) (by omega) (by simp;omega) (w6.heap.size+1) (by simp) ?_;intro g7 cap7 w7 hown7 hgrow7 hat7 hlt7;have OW7:=Lib.hid hown7;have GR7:=Lib.hid hgrow7;have AT7:=Lib.hid hat7;have nb7:=NB6.out.far GR7.out e1.symm;have hc7:w7.cell? ⟨w.heap.size+1,4,none⟩=some vk:=nb7.cell.1;have hf7:w7.frozen? ⟨w.heap.size+1,4,none⟩=false:=nb7.cell.2;have r7:=zAk T36.out GR7.out e2.symm;have hc8:w7.cell? ⟨w.heap.size+1+1,0,none⟩=some (.pointer (some ⟨w.heap.size+1,0,none⟩)):=cell_of_row w7 _ 0 _ _ _ r7;have NB7:=Lib.hid nb7;clear hown7 hgrow7 hat7 nb7 r7))
 all_goals go_wp2_with fail
 all_goals go_ret
 all_goals exact yVl hb rfl hBK hK4 G04.out G6.out P6.out NB7.out HOB.out OW7.out GR7.out AT7.out hlt7 HT4.out N6.out hRY.out HVAL.out
end
section
variable {V0:World} {v:Value} {l:List Te} {b:Nat}
theorem kQ (Q:Px8 V0 v l b) {i:Nat} {e:Int} (hi:i≤l.length) (x:ByteArray) (hx:tkB (tks l) i e x=false) (w:World) (hu:Up V0 w) (h:Psr w b v i e):Calls Tryz.prog 47 #[.pointer (some ⟨b,0,none⟩),.string x] w fun en w'=>en = .returned (.bool false)∧Gs (On b) w w'∧Psr w' b v i e:=by
 have c:=qW b v i e x w Q.T h hu (by have:=Q.hl;omega);rw[hx] at c;exact c
theorem gK (Q:Px8 V0 v l b) {i:Nat} {e:Int} (hi:i≤l.length) (x:ByteArray) (hx:tkB (tks l) i e x=true) (w:World) (hu:Up V0 w) (h:Psr w b v i e):Calls Tryz.prog 47 #[.pointer (some ⟨b,0,none⟩),.string x] w fun en w'=>en = .returned (.bool true)∧Gs (On b) w w'∧Psr w' b v (i+1) e:=by
 have c:=qW b v i e x w Q.T h hu (by have:=Q.hl;omega);rw[hx] at c;exact c
theorem ex_fn (Q:Px8 V0 v l b) (R:Nat→Rs Tr) (i:Nat) (e:Int) (hi:i≤l.length) (hk:tkB (tks l) i e kFn=true) (cF:RuAt V0 v b 48 R (i+1) e) (w:World) (hu:Up V0 w) (h:Psr w b v i e) :
  Calls Tryz.prog 26 #[.agg #[.pointer (some ⟨b,0,none⟩)]] w (PaT (On b) b v (at0 R (i+1,e)) (fun _ _=>True) w):=by
 have hb:b<w.heap.size:=qC h;have hbV:=Q.hb;obtain⟨W0,hW0⟩:∃W0,w.alloc (.cells #[.pointer (some ⟨b,0,none⟩)] 62)=W0:=⟨_,rfl⟩;have u0:Up w W0:=by rw[←hW0];exact(Up.refl w).alloc _
 have b1:W0.heap[w.heap.size]? = some (.cells #[.pointer (some ⟨b,0,none⟩)] 62 (0,0)):=by rw[←hW0];exact heap_alloc_new w _
 have c1:=gK Q hi kFn hk W0 (hu.trans u0) (h.up u0);have HCF:=Lib.hid cF;have HU:=Lib.hid (hu.trans u0);have HW0:=Lib.hid hW0;have U0:=Lib.hid u0;have B1:=Lib.hid b1;clear hW0 u0 b1 h hu cF Q
 go_enter Tryz.func26,Tryz.ntmps26
 go_wp2_with fail;rw[HW0.out];refine c1.mono ?_;rintro en w1 ⟨rfl,g1,p1⟩;have cX:=HCF.out w1 (g1.up HU.out fun q hq=>by rw[hq];exact hbV) p1;have r1:w1.heap[w.heap.size]? = some (.cells #[.pointer (some ⟨b,0,none⟩)] 62 (0,0)):=g1.row B1.out (by unfold On;omega);have k1:w1.cell? ⟨w.heap.size,0,none⟩=some (.pointer (some ⟨b,0,none⟩)):=cell_of_row w1 w.heap.size 0 _ _ _ r1;have G1:=Lib.hid g1;clear r1 g1 p1 c1;go_wp2_with fail;refine cX.mono ?_;rintro en w2 hP;obtain⟨A,rfl,g2,p2,n2⟩:=hP.psr;have G2:=Lib.hid g2;have P2:=Lib.hid p2;have N2:=Lib.hid n2;clear g2 p2 n2 hP cX;go_wp2_with fail
 go_ret
 exact PaT.mk ((Gs.of U0.out).trans (G1.out.trans G2.out)) P2.out fun t j ht=>(N2.out t j ht).base (by have:=U0.out.size;have:=G1.out.size;omega)
theorem zF8 (Q:Px8 V0 v l b) (R:Nat→Rs Tr) (i:Nat) (e:Int) (hi:i≤l.length) (h1:tkB (tks l) i e kFn=false) (h2:tkB (tks l) i e kLet=false) (h3:tkB (tks l) i e kIf=false) (h4:tkB (tks l) i e kCase=false) (h5:tkB (tks l) i e kFold=false) (cF:RuAt V0 v b 56 R i e) (w:World) (hu:Up V0 w) (h:Psr w b v i e) :
  Calls Tryz.prog 26 #[.agg #[.pointer (some ⟨b,0,none⟩)]] w (PaT (On b) b v (at0 R (i,e)) (fun _ _=>True) w):=by
 have hb:b<w.heap.size:=qC h;have hbV:=Q.hb;obtain⟨W0,hW0⟩:∃W0,w.alloc (.cells #[.pointer (some ⟨b,0,none⟩)] 62)=W0:=⟨_,rfl⟩;have u0:Up w W0:=by rw[←hW0];exact(Up.refl w).alloc _
 have b1:W0.heap[w.heap.size]? = some (.cells #[.pointer (some ⟨b,0,none⟩)] 62 (0,0)):=by rw[←hW0];exact heap_alloc_new w _
 have hgU:∀w',Gs (On b) W0 w'→Up V0 w':=fun w' g=>g.up (hu.trans u0) fun q hq=>by rw[hq];exact hbV
 have hgB:∀w',Gs (On b) W0 w'→w'.cell? ⟨w.heap.size,0,none⟩=some (.pointer (some ⟨b,0,none⟩)):=fun w' g=>cell_of_row w' w.heap.size 0 _ _ _ (g.row b1 (by unfold On;omega))
 have c1:=kQ Q hi kFn h1 W0 (hu.trans u0) (h.up u0);have cN:∀x,tkB (tks l) i e x=false→∀w',Gs (On b) W0 w'→Psr w' b v i e→Calls Tryz.prog 47 #[.pointer (some ⟨b,0,none⟩),.string x] w' fun en w''=>en = .returned (.bool false)∧Gs (On b) w' w''∧Psr w'' b v i e:=fun x hx w' g p=>kQ Q hi x hx w' (hgU w' g) p
 have HCF:=Lib.hid cF;have HGU:=Lib.hid hgU;have HGB:=Lib.hid hgB;have HCN:=Lib.hid cN;have HW0:=Lib.hid hW0;have U0:=Lib.hid u0;have H2:=Lib.hid h2;have H3:=Lib.hid h3;have H4:=Lib.hid h4;have H5:=Lib.hid h5;clear hW0 u0 b1 h hu cF Q cN hgU hgB h1 h2 h3 h4 h5
 go_enter Tryz.func26,Tryz.ntmps26
 go_wp2_with fail;rw[HW0.out];refine c1.mono ?_;rintro en w1 ⟨rfl,g1,p1⟩;have c2:=HCN.out kLet H2.out w1 g1 p1;have k1:=HGB.out w1 g1;have G1:=Lib.hid g1;clear g1 p1 c1;go_wp2_with fail;refine c2.mono ?_;rintro en w2 ⟨rfl,g2,p2⟩;have g2:=G1.out.trans g2;have c3:=HCN.out kIf H3.out w2 g2 p2;have k2:=HGB.out w2 g2;have G2:=Lib.hid g2;clear g2 p2 c2;go_wp2_with fail;refine c3.mono ?_;rintro en w3 ⟨rfl,g3,p3⟩;have g3:=G2.out.trans g3;have c4:=HCN.out kCase H4.out w3 g3 p3;have k3:=HGB.out w3 g3;have G3:=Lib.hid g3;clear g3 p3 c3;go_wp2_with fail;refine c4.mono ?_;rintro en w4 ⟨rfl,g4,p4⟩;have g4:=G3.out.trans g4;have c5:=HCN.out kFold H5.out w4 g4 p4;have k4:=HGB.out w4 g4;have G4:=Lib.hid g4;clear g4 p4 c4;go_wp2_with fail;refine c5.mono ?_;rintro en w5 ⟨rfl,g5,p5⟩;have g5:=G4.out.trans g5;have cX:=HCF.out w5 (HGU.out w5 g5) p5;have k5:=HGB.out w5 g5;have G5:=Lib.hid g5;clear g5 p5 c5;go_wp2_with fail;refine cX.mono ?_;rintro en w6 hP;obtain⟨A,rfl,g6,p6,n6⟩:=hP.psr;have G6:=Lib.hid g6;have P6:=Lib.hid p6;have N6:=Lib.hid n6;clear g6 p6 n6 hP cX;go_wp2_with fail
 go_ret
 exact PaT.mk ((Gs.of U0.out).trans (G5.out.trans G6.out)) P6.out fun t j ht=>(N6.out t j ht).base (by have:=U0.out.size;have:=G5.out.size;omega)
end
end Go.Proofs.YtbpijnalmakfaaaGreatDoor
