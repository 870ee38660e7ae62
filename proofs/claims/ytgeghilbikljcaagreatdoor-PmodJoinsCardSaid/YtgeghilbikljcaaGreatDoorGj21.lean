/-
  Layer 7, the program's function.
-/
import Derived.Test.YtgeghilbikljcaaGreatDoorGj20
set_option maxHeartbeats 40000000
set_option maxRecDepth 100000
namespace Go.Proofs.YtgeghilbikljcaaGreatDoor
open Go.RowKit
theorem zNe {w w4:World} {b:Nat} {ob o:Obj} {r:Option Nat} (h:w.heap[b]? = some o) (hg:(w.alloc ob).grownBy w4 r) (hv:r≠some b):w4.heap[b]? = some o:=by
 have hb:=qC h;have hasz:(w.alloc ob).heap.size=w.heap.size+1:=by simp
 exact((hg.block b (by omega) fun e=>hv e.symm).trans (((Below.refl w.heap.size w).alloc (Nat.le_refl _) ob).block b hb)).trans h
theorem rH {w:World} {K B0:Nat} {A:Option Addr} (h:w.heap[K]? = some (.cells #[.pointer A] 24 (0,0))) (hB:B0<=K):w.ownsRow B0 24 1 (.slice (some ⟨K,0,none⟩) 1 1) 1 [.pointer A]:=
 ⟨rfl,.inr ⟨K,1,#[.pointer A],rfl,hB,h,Nat.le_refl _,by unfold maxLen;omega,rfl,rfl⟩⟩
theorem zKv {w w4 w6 w7:World} {b Bm K g7 cap7:Nat} {v vk:Value} {A A6:Option Addr} {ob:Obj} {nm:ByteArray} {X Y R:Rs Tr} (hb:b<w.heap.size) (hBm:Bm=w.heap.size+1) (hBK:w.heap.size+3<=K) (hK4:K<w4.heap.size) (G04:Gs (On b) w w4) (G6:Gs (On b) w4 w6) (P6:Psr w6 b v (rI Y) (rE Y)) (NB7:Nb w7 Bm ⟨24,0,nm,nob⟩ vk) (HOB:vk.ownBlock=some K) (OW7:w7.ownsRow (w.heap.size+3) 24 1 (.slice (some ⟨g7,0,none⟩) 2 cap7) 2 [.pointer A,.pointer A6]) (GR7:(w6.alloc ob).grownBy w7 vk.ownBlock) (AT7:vk.ownBlock=some g7\/g7=w6.heap.size+1) (hlt7:g7<w7.heap.size)
  (HT4:∀t j,X = .inl (t,j)->InT w4 (fun q=>w.heap.size+3<=q/\q<w4.heap.size/\q≠K) (.pointer A) t) (N6:∀t j,Y = .inl (t,j)->NewT w4 w6 (.pointer A6) t) (hR:stO R=stO Y) (hv:∀u j,R = .inl (u,j)->∃t b' j3,X = .inl (t,j3)/\Y = .inl (b',j)/\u=(⟨24,0,nm,nob⟩,fr2 t b')) :
  PaT (On b) b v R (fun _ _=>True) w (.returned (.pointer (some ⟨Bm,0,none⟩))) (w7.setCell ⟨Bm,4,none⟩ (.slice (some ⟨g7,0,none⟩) 2 cap7)):=by
 have z4:=G04.size;have z6:=G6.size;have hgK:g7=K\/g7=w6.heap.size+1:=by
  rcases AT7 with h | h
  ·rw[HOB] at h;injection h with h;exact .inl h.symm
  ·exact .inr h
 have hasz:(w6.alloc ob).heap.size=w6.heap.size+1:=by simp
 have h67:∀q,q<w6.heap.size->q≠K->w7.heap[q]? = w6.heap[q]?:=fun q hq hn=>(GR7.block q (by omega) fun e=>by rw[HOB] at e;injection e with e;exact hn e).trans (((Below.refl w6.heap.size w6).alloc (Nat.le_refl _) ob).block q hq)
 have z7:w6.heap.size<=w7.heap.size:=by have:=GR7.size;omega
 obtain⟨WF,hWF⟩:∃WF,w7.setCell ⟨Bm,4,none⟩ (.slice (some ⟨g7,0,none⟩) 2 cap7)=WF:=⟨_,rfl⟩;have gF:Gs (On b) w WF:=by
  rw[<- hWF];exact(((G04.trans G6).alloc ob).grown GR7 fun g hg=>by rw[HOB] at hg;injection hg with hg;exact .inr (by omega)).set _ _ (.inr (by simp only;omega))
 have nF:Nb WF Bm ⟨24,0,nm,nob⟩ (.slice (some ⟨g7,0,none⟩) 2 cap7):=by rw[<- hWF];exact NB7.store _
 have hne:∀q,q≠Bm->WF.heap[q]? = w7.heap[q]?:=fun q hq=>by rw[<- hWF];exact Below.heap_setCell _ _ _ _ hq
 have zF:WF.heap.size=w7.heap.size:=by rw[<- hWF];simp[World.setCell]
 have oF:WF.ownsRow (w.heap.size+3) 24 1 (.slice (some ⟨g7,0,none⟩) 2 cap7) 2 [.pointer A,.pointer A6]:=by
  rw[<- hWF];exact jD OW7 _ _ fun g' e=>by injection e with e;subst e;simp only;omega
 rw[hWF];have e1:rI R=rI Y:=congrArg Prod.fst hR;have e2:rE R=rE Y:=congrArg Prod.snd hR;refine PaT.mk gF (by rw[e1,e2];exact((hne b (by omega)).trans (h67 b (by omega) (by omega))).trans P6) fun u j hu=>?_
 obtain⟨t,b',j3,hX,hY,rfl⟩:=hv u j hu;refine OwnT.tree (x:=⟨24,0,nm,nob⟩) (f:=fr2 t b') ⟨[.pointer A,.pointer A6],oF,?_,?_,trivial⟩ nF ⟨by omega,by have:=qC nF;omega⟩ fun g' e=>?_
 ·exact InT.keep (HT4 t j3 hX) (fun q hq=>⟨by have:=hq.1;omega,by have:=hq.2.1;omega⟩) fun q hq=>((hne q (by have:=hq.1;omega)).trans (h67 q (by have:=hq.2.1;omega) hq.2.2)).trans (G6.block q hq.2.1 (by have:=hq.1;unfold On;omega))
 ·exact InT.keep (N6 b' j hY) (fun q hq=>⟨by have:=hq.1;omega,by have:=hq.2;omega⟩) fun q hq=>(hne q (by have:=hq.1;omega)).trans (h67 q hq.2 (by have:=hq.1;omega))
 ·injection e with e
  have e:g7=g':=e;subst e;exact⟨by omega,by omega⟩
section
variable {V0:World} {v:Value} {l:List Te} {b:Nat}
theorem uV (P:Px9 V0 v l b) (E:Nat->Rs Tr) (hE:∀j,j<=l.length->In l.length j (E j)) (i:Nat) (e:Int) (hi:i<=l.length) (cE:∀(j:Nat) (e':Int),j<=l.length->(e'=0->e=0/\i<j)->RuAt V0 v b 191 E j e'):RuAt V0 v b 215 (lamS B.nck B.long l E) i e:=fun w hu h=>by
 have hll:=P.Q.hl;have hbV:=P.Q.hb;have hb:b<w.heap.size:=qC h;obtain⟨s0,hs0⟩:∃s,kS (tks l) kOpen (i,e)=s:=⟨_,rfl⟩;obtain⟨s1,hs1⟩:∃s,nS B.nck (tks l) s0=s:=⟨_,rfl⟩;obtain⟨s2,hs2⟩:∃s,kS (tks l) qH s1=s:=⟨_,rfl⟩;obtain⟨X,hX⟩:∃X,at0 (typL B.nck B.long (tks l)) s2=X:=⟨_,rfl⟩;obtain⟨s4,hs4⟩:∃s,kS (tks l) kShut (stO X)=s:=⟨_,rfl⟩;obtain⟨s5,hs5⟩:∃s,kS (tks l) kFat s4=s:=⟨_,rfl⟩;have hrs:rS (typL B.nck B.long (tks l)) s2=stO X:=by unfold rS;rw[hX]
 have l0:s0.1<=l.length:=by rw[<- hs0];exact zI l _ hi
 have l1:s1.1<=l.length:=by rw[<- hs1];exact kJ l _ l0
 have l2:s2.1<=l.length:=by rw[<- hs2];exact zI l _ l1
 have hY:∀j,j<=l.length->In l.length j (typL B.nck B.long (tks l) j):=fun j hj=>kK hj
 have lX:(stO X).1<=l.length:=by rw[<- hrs];exact pB hY l2
 have l4:s4.1<=l.length:=by rw[<- hs4];exact zI l _ lX
 have l5:s5.1<=l.length:=by rw[<- hs5];exact zI l _ l4
 have h50:s5.2=0->e=0/\i<s5.1:=fun h0=>by
  rw[<- hs5] at h0;obtain⟨a1,b1⟩:=yP h0;rw[hs5] at b1;rw[<- hs4] at a1;obtain⟨a2,b2⟩:=yP a1;rw[hs4] at b2;rw[<- hrs] at a2 b2;obtain⟨a3,b3⟩:=rG hY l2 a2;rw[<- hs2] at a3;obtain⟨a4,b4⟩:=yP a3;rw[hs2] at b4;rw[<- hs1] at a4;obtain⟨a5,b5⟩:=mG a4;rw[hs1] at b5;rw[<- hs0] at a5;obtain⟨a6,b6⟩:=yP a5;rw[hs0] at b6;exact⟨a6,by have b6:i<s0.1:=b6;omega⟩
 have hst:stO (at0 (lamS B.nck B.long l E) (i,e))=rS E s5:=by
  rw[<- hs5,<- hs4,<- hrs,<- hs2,<- hs1,<- hs0];exact nK (G:=lamG B.nck B.long l E) ((kO _).comp ((yR _ _).comp ((yR _ _).comp ((kO _).comp ((yR _ _).comp ((uN _ _).comp (yR _ _))))))) fun _=>zK9 hE hi
 obtain⟨Y,hYY⟩:∃Y,at0 E s5=Y:=⟨_,rfl⟩;obtain⟨nm,hnm⟩:∃n,nmS (nam B.nck (tks l) s0.1) s0.2=n:=⟨_,rfl⟩;have hval:∀u j,at0 (lamS B.nck B.long l E) (i,e) = .inl (u,j)->∃t b' j3,X = .inl (t,j3)/\Y = .inl (b',j)/\u=(⟨24,0,nm,nob⟩,fr2 t b'):=fun u j hu=>by
  by_cases he:e=0
  ·subst he
   rw[qG] at hu;obtain⟨s,t,b',j1,j2,j3,j4,a1,a2,a3,a4,a5,a6,rfl⟩:=zOz hi hu;have q0:s0=(j1,0):=hs0.symm.trans a1;have q2:s2=(j2,0):=by rw[<- hs2,<- hs1,q0];exact a3
   have qX:X = .inl (t,j3):=by rw[<- hX,q2,qG];exact a4
   have q5:s5=(j4,0):=by rw[<- hs5,<- hs4,qX];exact a5
   have hn:=hnm;rw[q0] at hn;simp only at hn;rw[a2] at hn;have hn:s=nm:=hn;exact⟨t,b',j3,qX,by rw[<- hYY,q5,qG];exact a6,by rw[hn];rfl⟩
  ·rw[qM _ (show ¬(i,e).2=0 from he)] at hu
   cases hu
 obtain⟨W0,hW0⟩:∃W0,((w.alloc (.cells #[.pointer (some ⟨b,0,none⟩)] 183)).alloc (.cells #[.int .i64 24,.int .i64 0,.string ⟨#[]⟩,.string ⟨#[]⟩,.slice none 0 0] 44)).alloc (.cells #[.pointer (some ⟨w.heap.size+1,0,none⟩)] 24)=W0:=⟨_,rfl⟩;have u0:Up w W0:=by rw[<- hW0];exact(((Up.refl w).alloc _).alloc _).alloc _
 obtain⟨t1,t2,t3,-,z0⟩:=gC w (.cells #[.pointer (some ⟨b,0,none⟩)] 183) (.cells #[.int .i64 24,.int .i64 0,.string ⟨#[]⟩,.string ⟨#[]⟩,.slice none 0 0] 44) (.cells #[.pointer (some ⟨w.heap.size+1,0,none⟩)] 24) (H:=w.heap.size) rfl;rw[hW0] at t1 t2 t3 z0;have hz:=hu.size;have hsx:at0 (typL B.nck B.long (tks l)) (kS (tks l) qH (nS B.nck (tks l) (s0.1,s0.2)))=X:=by rw[<- hX,<- hs2,<- hs1]
 have cB:=zJ b v i e kOpen kShut 233 #[.pointer (some ⟨w.heap.size,0,none⟩),.pointer (some ⟨w.heap.size+1+1,0,none⟩)] (fun _ _=>by kernel_rfl) (Two b (w.heap.size+1)) (fun q hq=>by rcases hq with hq | hq<;>omega) hbV (rI X) (rE X) (P3 (w.heap.size+3) (w.heap.size+1) nm X) W0
  P.Q.T (h.up u0) (hu.trans u0) (by omega) (by have:rI X<=l.length:=lX;omega) (fun w2 g2 h2=>by
   have h2:Psr w2 b v s0.1 s0.2:=by rw[<- hs0];exact h2
   have c:=zRy P s0.1 s0.2 l0 w.heap.size (w.heap.size+2) (w.heap.size+1) (w.heap.size+3) w2 (by omega) (by omega) (by omega) (by omega) (by omega) (by omega) (by have:=g2.size;omega) (by omega) (by omega) (g2.row t1 (by unfold On;omega)) (g2.row t3 (by unfold On;omega)) (g2.row t2 (by unfold On;omega)) h2 (g2.up (hu.trans u0) fun q hq=>by rw[hq];exact hbV);rw[hsx,hnm] at c;exact c)
 have k0:W0.cell? ⟨w.heap.size,0,none⟩=some (.pointer (some ⟨b,0,none⟩)):=cell_of_row _ _ 0 _ _ _ t1;have HPX:=Lib.hid P;have HCE:=Lib.hid cE;have HU:=Lib.hid (hu.trans u0);have HW0:=Lib.hid hW0;have U0:=Lib.hid u0;have HST:=Lib.hid hst;have HS0:=Lib.hid hs0;have HS1:=Lib.hid hs1;have HS2:=Lib.hid hs2;have HS4:=Lib.hid hs4;have HS5:=Lib.hid hs5;have HX:=Lib.hid hX;have HYY:=Lib.hid hYY;have HNM:=Lib.hid hnm;have H50:=Lib.hid h50;have HVAL:=Lib.hid hval;have T1:=Lib.hid t1;have T2:=Lib.hid t2;have T3:=Lib.hid t3;clear hval hst hs0 hs1 hs2 hs4 hs5 hX hYY hnm h50 hrs hY hsx hW0 u0 hu h cE P t1 t2 t3 hE
 go_enter Tryz.func215,Tryz.ntmps215
 go_wp2_with fail;rw[HW0.out];refine cB.mono ?_;rintro en w4 ⟨⟨u,rfl⟩,w2,w3,g2,g3,⟨K,A,nb3,kK3,hBK,-,hT3⟩,g4,h4⟩;have p4:Psr w4 b v s4.1 s4.2:=by rw[<- HS4.out];exact h4
 have hKb:K≠b:=by omega
 have nb4:Nb w4 (w.heap.size+1) ⟨24,0,nm,nob⟩ (.slice (some ⟨K,0,none⟩) 1 1):=g4.row nb3 (by unfold On;omega);have kK4:=g4.row kK3 (by unfold On;omega);have t14:=g4.row (g3.row (g2.row T1.out (by unfold On;omega)) (by unfold Two;omega)) (by unfold On;omega);have t34:=g4.row (g3.row (g2.row T3.out (by unfold On;omega)) (by unfold Two;omega)) (by unfold On;omega);have z2:=g2.size;have z3:=g3.size;have z4:=g4.size;have g04:Gs (On b) w w4:=(((Gs.of U0.out:Gs (On b) w W0).trans g2).out2 g3 (by omega)).trans g4;have u4:Up V0 w4:=g4.up (g3.up (g2.up HU.out fun q hq=>by rw[hq];exact hbV) fun q hq=>by rcases hq with hq | hq<;>omega) fun q hq=>by rw[hq];exact hbV
 have hK4:K<w4.heap.size:=qC kK4;have HT4:Hid (∀t j,X = .inl (t,j)->InT w4 (fun q=>w.heap.size+3<=q/\q<w4.heap.size/\q≠K) (.pointer A) t):=Lib.hid fun t j hX=>InT.keep (hT3 t j hX) (fun q hq=>⟨hq.1,by have:=hq.2.1;omega,hq.2.2⟩) fun q hq=>g4.block q hq.2.1 (by have:=hq.1;unfold On;omega)
 have cY:=fun w' (u:Up w4 w')=>jO HPX.out E kFat s4.1 s4.2 l4 w' (p4.up u) (u4.trans u) (by rw[show kS (tks l) kFat (s4.1,s4.2)=s5 from HS5.out];exact HCE.out _ _ l5 H50.out)
 rw[show at0 E (kS (tks l) kFat (s4.1,s4.2))=Y from by rw[show kS (tks l) kFat (s4.1,s4.2)=s5 from HS5.out];exact HYY.out] at cY;obtain⟨vk,hvk⟩:∃vk,Value.slice (some ⟨K,0,none⟩) 1 1=vk:=⟨_,rfl⟩;have ow4:=rH kK4 hBK;rw[hvk] at nb4 ow4;have hob:vk.ownBlock=some K:=by rw[<- hvk];rfl
 have CY:=Lib.hid cY;have HOB:=Lib.hid hob;have HVK:=Lib.hid hvk;have G04:=Lib.hid g04;have U4:=Lib.hid u4;have NB4:=Lib.hid nb4;have OW4:=Lib.hid ow4;have T14:=Lib.hid t14;have T34:=Lib.hid t34;have KK4:=Lib.hid kK4;have c40:w4.cell? ⟨w.heap.size,0,none⟩=some (.pointer (some ⟨b,0,none⟩)):=cell_of_row w4 _ 0 _ _ _ t14;have c42:w4.cell? ⟨w.heap.size+1+1,0,none⟩=some (.pointer (some ⟨w.heap.size+1,0,none⟩)):=cell_of_row w4 _ 0 _ _ _ t34;have c44:w4.cell? ⟨w.heap.size+1,4,none⟩=some vk:=cell_of_row w4 _ 4 _ _ _ nb4;have f44:w4.frozen? ⟨w.heap.size+1,4,none⟩=false:=frozen_of_row w4 _ 4 _ _ nb4;have y0:w.heap.size<w4.heap.size:=by omega
 have y1:w.heap.size+1<w4.heap.size:=by omega
 have y2:w.heap.size+1+1<w4.heap.size:=by omega
 clear cB g2 g3 g4 h4 p4 nb3 kK3 hT3 nb4 kK4 t14 t34 g04 u4 cY ow4 hvk hob k0 z2 z3;obtain⟨i0,hi0,hz0,hz1,hz2⟩:=info_parts xT;go_wp2_with fail;have e0:some w.heap.size≠vk.ownBlock:=fun e=>by rw[HOB.out] at e;injection e with e;omega
 have e1:some (w.heap.size+1)≠vk.ownBlock:=fun e=>by rw[HOB.out] at e;injection e with e;omega
 have e2:some (w.heap.size+1+1)≠vk.ownBlock:=fun e=>by rw[HOB.out] at e;injection e with e;omega
 have hRY:Hid (stO (at0 (lamS B.nck B.long l E) (i,e))=stO Y):=Lib.hid (by rw[HST.out];unfold rS;rw[HYY.out])
 go_region_law (first
  | (go_simp;go_at_call 216;refine(CY.out _ (by first | exact Below.refl _ _ | exact qE (Below.refl _ _) 1)).mono ?_;rintro e9 w6 hP;obtain⟨A6,rfl,g6,p6,n6⟩:=hP.psr;have g6:Gs (On b) w4 w6:=⟨g6.os,g6.tape,g6.output,g6.size,g6.block⟩;have n6:∀t j,Y = .inl (t,j)->NewT w4 w6 (.pointer A6) t:=n6;have hs6:=g6.size;have NB6:=Lib.hid (show Nb w6 (w.heap.size+1) ⟨24,0,nm,nob⟩ vk from g6.row NB4.out (by unfold On;omega));have KK6:=Lib.hid (g6.row KK4.out (by unfold On;omega));have T36:=Lib.hid (g6.row T34.out (by unfold On;omega));have n62:w6.cell? ⟨w.heap.size+1+1,0,none⟩=some (.pointer (some ⟨w.heap.size+1,0,none⟩)):=cell_of_row w6 _ 0 _ _ _ T36.out;have n66:∀ob,(w6.alloc ob).cell? ⟨w.heap.size+1+1,0,none⟩=some (.pointer (some ⟨w.heap.size+1,0,none⟩)):=fun ob=>((Up.refl w6).alloc ob).cell n62;have n64:w6.cell? ⟨w.heap.size+1,4,none⟩=some vk:=cell_of_row w6 _ 4 _ _ _ NB6.out;have n65:∀ob,(w6.alloc ob).cell? ⟨w.heap.size+1,4,none⟩=some vk:=fun ob=>((Up.refl w6).alloc ob).cell n64;have OW6:=Lib.hid (show w6.ownsRow (w.heap.size+3) 24 1 vk 1 [.pointer A] from by rw[<- HVK.out];exact rH KK6.out hBK);have G6:=Lib.hid g6;have P6:=Lib.hid p6;have N6:=Lib.hid n6;clear g6 p6 n6 hP)
  | (refine step_append_lies _ (by rfl) _ _ _ (by rfl) (w.heap.size+3) 24 i0 _ 1 8 Tryz.underlying33 hi0 hz0 hz1 hz2 rfl (by omega) vk 1 [.pointer A] (by rfl) (OW6.out.alloc _) ⟨w6.heap.size,0,none⟩ 1 1 [.pointer A6] (by rfl) (by rfl) (cell_one_new _ _ _) (fun x hx=>by simp at hx;subst hx;rfl) (by omega) (by unfold maxLen;omega) (by omega) (by simp;omega) (w6.heap.size+1) (by simp) ?_;intro g7 cap7 w7 hown7 hgrow7 hat7 hlt7;have OW7:=Lib.hid hown7;have GR7:=Lib.hid hgrow7;have AT7:=Lib.hid hat7;have nb7:=NB6.out.far GR7.out e1.symm;have hc7:w7.cell? ⟨w.heap.size+1,4,none⟩=some vk:=nb7.cell.1;have hf7:w7.frozen? ⟨w.heap.size+1,4,none⟩=false:=nb7.cell.2;have r7:=zNe T36.out GR7.out e2.symm;have hc8:w7.cell? ⟨w.heap.size+1+1,0,none⟩=some (.pointer (some ⟨w.heap.size+1,0,none⟩)):=cell_of_row w7 _ 0 _ _ _ r7;have NB7:=Lib.hid nb7;clear hown7 hgrow7 hat7 nb7 r7))
 all_goals go_wp2_with fail
 all_goals go_ret
 all_goals exact zKv hb rfl hBK hK4 G04.out G6.out P6.out NB7.out HOB.out OW7.out GR7.out AT7.out hlt7 HT4.out N6.out hRY.out HVAL.out
end
section
variable {V0:World} {v:Value} {l:List Te} {b:Nat}
theorem qI (Q:Px8 V0 v l b) {i:Nat} {e:Int} (hi:i<=l.length) (x:ByteArray) (hx:tkB (tks l) i e x=false) (w:World) (hu:Up V0 w) (h:Psr w b v i e):Calls Tryz.prog 38 #[.pointer (some ⟨b,0,none⟩),.string x] w fun en w'=>en = .returned (.bool false)/\Gs (On b) w w'/\Psr w' b v i e:=by
 have c:=qP b v i e x w Q.T h hu (by have:=Q.hl;omega);rw[hx] at c;exact c
theorem qN (Q:Px8 V0 v l b) {i:Nat} {e:Int} (hi:i<=l.length) (x:ByteArray) (hx:tkB (tks l) i e x=true) (w:World) (hu:Up V0 w) (h:Psr w b v i e):Calls Tryz.prog 38 #[.pointer (some ⟨b,0,none⟩),.string x] w fun en w'=>en = .returned (.bool true)/\Gs (On b) w w'/\Psr w' b v (i+1) e:=by
 have c:=qP b v i e x w Q.T h hu (by have:=Q.hl;omega);rw[hx] at c;exact c
theorem ex_fn (Q:Px8 V0 v l b) (R:Nat->Rs Tr) (i:Nat) (e:Int) (hi:i<=l.length) (hk:tkB (tks l) i e kFn=true) (cF:RuAt V0 v b 215 R (i+1) e) (w:World) (hu:Up V0 w) (h:Psr w b v i e) :
  Calls Tryz.prog 191 #[.agg #[.pointer (some ⟨b,0,none⟩)]] w (PaT (On b) b v (at0 R (i+1,e)) (fun _ _=>True) w):=by
 have hb:b<w.heap.size:=qC h;have hbV:=Q.hb;obtain⟨W0,hW0⟩:∃W0,w.alloc (.cells #[.pointer (some ⟨b,0,none⟩)] 183)=W0:=⟨_,rfl⟩;have u0:Up w W0:=by rw[<- hW0];exact(Up.refl w).alloc _
 have b1:W0.heap[w.heap.size]? = some (.cells #[.pointer (some ⟨b,0,none⟩)] 183 (0,0)):=by rw[<- hW0];exact heap_alloc_new w _
 have c1:=qN Q hi kFn hk W0 (hu.trans u0) (h.up u0);have HCF:=Lib.hid cF;have HU:=Lib.hid (hu.trans u0);have HW0:=Lib.hid hW0;have U0:=Lib.hid u0;have B1:=Lib.hid b1;clear hW0 u0 b1 h hu cF Q
 go_enter Tryz.func191,Tryz.ntmps191
 go_wp2_with fail;rw[HW0.out];refine c1.mono ?_;rintro en w1 ⟨rfl,g1,p1⟩;have cX:=HCF.out w1 (g1.up HU.out fun q hq=>by rw[hq];exact hbV) p1;have r1:w1.heap[w.heap.size]? = some (.cells #[.pointer (some ⟨b,0,none⟩)] 183 (0,0)):=g1.row B1.out (by unfold On;omega);have k1:w1.cell? ⟨w.heap.size,0,none⟩=some (.pointer (some ⟨b,0,none⟩)):=cell_of_row w1 w.heap.size 0 _ _ _ r1;have G1:=Lib.hid g1;clear r1 g1 p1 c1;go_wp2_with fail;refine cX.mono ?_;rintro en w2 hP;obtain⟨A,rfl,g2,p2,n2⟩:=hP.psr;have G2:=Lib.hid g2;have P2:=Lib.hid p2;have N2:=Lib.hid n2;clear g2 p2 n2 hP cX;go_wp2_with fail
 go_ret
 exact PaT.mk ((Gs.of U0.out).trans (G1.out.trans G2.out)) P2.out fun t j ht=>(N2.out t j ht).base (by have:=U0.out.size;have:=G1.out.size;omega)
theorem zRz (Q:Px8 V0 v l b) (R:Nat->Rs Tr) (i:Nat) (e:Int) (hi:i<=l.length) (h1:tkB (tks l) i e kFn=false) (h2:tkB (tks l) i e kLet=false) (h3:tkB (tks l) i e kIf=false) (h4:tkB (tks l) i e kCase=false) (h5:tkB (tks l) i e kFold=false) (cF:RuAt V0 v b 220 R i e) (w:World) (hu:Up V0 w) (h:Psr w b v i e) :
  Calls Tryz.prog 191 #[.agg #[.pointer (some ⟨b,0,none⟩)]] w (PaT (On b) b v (at0 R (i,e)) (fun _ _=>True) w):=by
 have hb:b<w.heap.size:=qC h;have hbV:=Q.hb;obtain⟨W0,hW0⟩:∃W0,w.alloc (.cells #[.pointer (some ⟨b,0,none⟩)] 183)=W0:=⟨_,rfl⟩;have u0:Up w W0:=by rw[<- hW0];exact(Up.refl w).alloc _
 have b1:W0.heap[w.heap.size]? = some (.cells #[.pointer (some ⟨b,0,none⟩)] 183 (0,0)):=by rw[<- hW0];exact heap_alloc_new w _
 have hgU:∀w',Gs (On b) W0 w'->Up V0 w':=fun w' g=>g.up (hu.trans u0) fun q hq=>by rw[hq];exact hbV
 have hgB:∀w',Gs (On b) W0 w'->w'.cell? ⟨w.heap.size,0,none⟩=some (.pointer (some ⟨b,0,none⟩)):=fun w' g=>cell_of_row w' w.heap.size 0 _ _ _ (g.row b1 (by unfold On;omega))
 have c1:=qI Q hi kFn h1 W0 (hu.trans u0) (h.up u0);have cN:∀x,tkB (tks l) i e x=false->∀w',Gs (On b) W0 w'->Psr w' b v i e->Calls Tryz.prog 38 #[.pointer (some ⟨b,0,none⟩),.string x] w' fun en w''=>en = .returned (.bool false)/\Gs (On b) w' w''/\Psr w'' b v i e:=fun x hx w' g p=>qI Q hi x hx w' (hgU w' g) p
 have HCF:=Lib.hid cF;have HGU:=Lib.hid hgU;have HGB:=Lib.hid hgB;have HCN:=Lib.hid cN;have HW0:=Lib.hid hW0;have U0:=Lib.hid u0;have H2:=Lib.hid h2;have H3:=Lib.hid h3;have H4:=Lib.hid h4;have H5:=Lib.hid h5;clear hW0 u0 b1 h hu cF Q cN hgU hgB h1 h2 h3 h4 h5
 go_enter Tryz.func191,Tryz.ntmps191
 go_wp2_with fail;rw[HW0.out];refine c1.mono ?_;rintro en w1 ⟨rfl,g1,p1⟩;have c2:=HCN.out kLet H2.out w1 g1 p1;have k1:=HGB.out w1 g1;have G1:=Lib.hid g1;clear g1 p1 c1;go_wp2_with fail;refine c2.mono ?_;rintro en w2 ⟨rfl,g2,p2⟩;have g2:=G1.out.trans g2;have c3:=HCN.out kIf H3.out w2 g2 p2;have k2:=HGB.out w2 g2;have G2:=Lib.hid g2;clear g2 p2 c2;go_wp2_with fail;refine c3.mono ?_;rintro en w3 ⟨rfl,g3,p3⟩;have g3:=G2.out.trans g3;have c4:=HCN.out kCase H4.out w3 g3 p3;have k3:=HGB.out w3 g3;have G3:=Lib.hid g3;clear g3 p3 c3;go_wp2_with fail;refine c4.mono ?_;rintro en w4 ⟨rfl,g4,p4⟩;have g4:=G3.out.trans g4;have c5:=HCN.out kFold H5.out w4 g4 p4;have k4:=HGB.out w4 g4;have G4:=Lib.hid g4;clear g4 p4 c4;go_wp2_with fail;refine c5.mono ?_;rintro en w5 ⟨rfl,g5,p5⟩;have g5:=G4.out.trans g5;have cX:=HCF.out w5 (HGU.out w5 g5) p5;have k5:=HGB.out w5 g5;have G5:=Lib.hid g5;clear g5 p5 c5;go_wp2_with fail;refine cX.mono ?_;rintro en w6 hP;obtain⟨A,rfl,g6,p6,n6⟩:=hP.psr;have G6:=Lib.hid g6;have P6:=Lib.hid p6;have N6:=Lib.hid n6;clear g6 p6 n6 hP cX;go_wp2_with fail
 go_ret
 exact PaT.mk ((Gs.of U0.out).trans (G5.out.trans G6.out)) P6.out fun t j ht=>(N6.out t j ht).base (by have:=U0.out.size;have:=G5.out.size;omega)
end
section
variable {V0:World} {v:Value} {l:List Te} {b:Nat}
theorem zKw (P:Px9 V0 v l b) (E:Nat->Rs Tr) (hE:∀j,j<=l.length->In l.length j (E j)) (i:Nat) (e:Int) (hi:i<=l.length) (hi1:i+1<=l.length) (h1:tkB (tks l) i e kFn=false) (h2:tkB (tks l) i e kLet=true)
  (cE:∀(j:Nat) (e':Int),j<=l.length->(e'=0->e=0/\i<j)->RuAt V0 v b 191 E j e') (w:World) (hu:Up V0 w) (h:Psr w b v i e) :
  Calls Tryz.prog 191 #[.agg #[.pointer (some ⟨b,0,none⟩)]] w (PaT (On b) b v (at0 (letS B.nck l E) (i+1,e)) (fun _ _=>True) w):=by
 have hb:b<w.heap.size:=qC h;have hll:=P.Q.hl;have hbV:=P.Q.hb;obtain⟨s1,hs1⟩:∃s,nS B.nck (tks l) (i+1,e)=s:=⟨_,rfl⟩;obtain⟨sA,hsA⟩:∃s,kS (tks l) kEq s1=s:=⟨_,rfl⟩;obtain⟨XA,hXA⟩:∃X,at0 E sA=X:=⟨_,rfl⟩;obtain⟨sB,hsB⟩:∃s,kS (tks l) kIn (stO XA)=s:=⟨_,rfl⟩;obtain⟨XB,hXB⟩:∃X,at0 E sB=X:=⟨_,rfl⟩;obtain⟨nm,hnm⟩:∃n,nmS (nam B.nck (tks l) (i+1)) e=n:=⟨_,rfl⟩;have rA:rS E sA=stO XA:=by unfold rS;rw[hXA]
 have rB:rS E sB=stO XB:=by unfold rS;rw[hXB]
 have l1:s1.1<=l.length:=by rw[<- hs1];exact kJ l _ hi1
 have lA:sA.1<=l.length:=by rw[<- hsA];exact zI l _ l1
 have mA:(stO XA).1<=l.length:=by rw[<- rA];exact pB hE lA
 have lB:sB.1<=l.length:=by rw[<- hsB];exact zI l _ mA
 have mB:(stO XB).1<=l.length:=by rw[<- rB];exact pB hE lB
 have hA0:sA.2=0->e=0/\i<sA.1:=fun h0=>by
  rw[<- hsA] at h0;obtain⟨a1,b1⟩:=yP h0;rw[hsA] at b1;rw[<- hs1] at a1;obtain⟨a2,b2⟩:=mG a1;rw[hs1] at b2;exact⟨a2,by have b2:i+1<s1.1:=b2;omega⟩
 have hB0:sB.2=0->e=0/\i<sB.1:=fun h0=>by
  rw[<- hsB] at h0;obtain⟨a1,b1⟩:=yP h0;rw[hsB] at b1;rw[<- rA] at a1 b1;obtain⟨a2,b2⟩:=rG hE lA a1;obtain⟨a3,b3⟩:=hA0 a2;exact⟨a3,by omega⟩
 have hst:stO (at0 (letS B.nck l E) (i+1,e))=kS (tks l) kEnd (stO XB):=by
  rw[<- rB,<- hsB,<- rA,<- hsA,<- hs1];exact nK (G:=letG B.nck l E) ((yR _ _).comp ((kO _).comp ((yR _ _).comp ((kO _).comp ((yR _ _).comp (uN _ _)))))) fun _=>zKa hE hi1
 have hval:∀u j,at0 (letS B.nck l E) (i+1,e) = .inl (u,j)->∃t b' j3 j4,XA = .inl (t,j3)/\XB = .inl (b',j4)/\u=(⟨29,0,nm,nob⟩,fr2 t b'):=fun u j hu=>by
  by_cases he:e=0
  ·subst he
   rw[qG] at hu;obtain⟨s,t,b',j1,j2,j3,j4,a1,a2,a3,a4,a5,rfl⟩:=zN0 hE hi1 hu;have q1:sA=(j1,0):=by rw[<- hsA,<- hs1];exact a2
   have qA:XA = .inl (t,j2):=by rw[<- hXA,q1,qG];exact a3
   have qB:sB=(j3,0):=by rw[<- hsB,qA];exact a4
   have hn:=hnm;rw[a1] at hn;have hn:s=nm:=hn;exact⟨t,b',j2,j4,qA,by rw[<- hXB,qB,qG];exact a5,by rw[hn];rfl⟩
  ·rw[qM _ (show ¬(i+1,e).2=0 from he)] at hu
   cases hu
 obtain⟨W0,hW0⟩:∃W0,w.alloc (.cells #[.pointer (some ⟨b,0,none⟩)] 183)=W0:=⟨_,rfl⟩;have u0:Up w W0:=by rw[<- hW0];exact(Up.refl w).alloc _
 have b1:W0.heap[w.heap.size]? = some (.cells #[.pointer (some ⟨b,0,none⟩)] 183 (0,0)):=by rw[<- hW0];exact heap_alloc_new w _
 have hgU:∀w',Gs (On b) W0 w'->Up V0 w':=fun w' g=>g.up (hu.trans u0) fun q hq=>by rw[hq];exact hbV
 have hgB:∀w',Gs (On b) W0 w'->w'.cell? ⟨w.heap.size,0,none⟩=some (.pointer (some ⟨b,0,none⟩)):=fun w' g=>cell_of_row w' w.heap.size 0 _ _ _ (g.row b1 (by unfold On;omega))
 have c1:=qI P.Q hi kFn h1 W0 (hu.trans u0) (h.up u0);have hz0:W0.heap.size=w.heap.size+1:=by rw[<- hW0];simp
 have HPX:=Lib.hid P;have HCE:=Lib.hid cE;have HGU:=Lib.hid hgU;have HGB:=Lib.hid hgB;have HW0:=Lib.hid hW0;have U0:=Lib.hid u0;have H2:=Lib.hid h2;have HST:=Lib.hid hst;have HVAL:=Lib.hid hval;have HS1:=Lib.hid hs1;have HSA:=Lib.hid hsA;have HSB:=Lib.hid hsB;have HXA:=Lib.hid hXA;have HXB:=Lib.hid hXB;have HNM:=Lib.hid hnm;have HA0:=Lib.hid hA0;have HB0:=Lib.hid hB0;clear hW0 u0 b1 h hu cE P hgU hgB h1 h2 hst hval hs1 hsA hsB hXA hXB hnm hA0 hB0 rA rB hE
 go_enter Tryz.func191,Tryz.ntmps191
 go_wp2_with fail;rw[HW0.out];refine c1.mono ?_;rintro en w1 ⟨rfl,g1,p1⟩;have c2:=qN HPX.out.Q hi kLet H2.out w1 (HGU.out w1 g1) p1;have k1:=HGB.out w1 g1;have G1:=Lib.hid g1;clear g1 p1 c1;go_wp2_with fail;refine c2.mono ?_;rintro en w2 ⟨rfl,g2,p2⟩;have g2:=G1.out.trans g2;have c3:=xK HPX.out (i+1) e hi1 w2 p2 (HGU.out w2 g2);rw[HS1.out,HNM.out] at c3;have k2:=HGB.out w2 g2;have G2:=Lib.hid g2;clear g2 p2 c2;go_wp2_with fail;refine c3.mono ?_;rintro en w3 ⟨rfl,g3,p3⟩;have g3:=G2.out.trans g3;have z3:=g3.size;obtain⟨w4,hw4⟩:∃w4,w3.alloc (.cells #[.int .i64 29,.int .i64 0,.string nm,.string ⟨#[]⟩,.slice none 0 0] 44)=w4:=⟨_,rfl⟩;have u4:Up w3 w4:=by rw[<- hw4];exact(Up.refl w3).alloc _
 have nb4:Nb w4 w3.heap.size ⟨29,0,nm,nob⟩ (.slice none 0 0):=by rw[<- hw4];exact heap_alloc_new w3 _
 have g4:Gs (On b) W0 w4:=g3.trans (Gs.of u4);have p4:=p3.up u4;have z4:w4.heap.size=w3.heap.size+1:=by rw[<- hw4];simp
 have k3:=HGB.out w3 g3;have k4:=HGB.out w4 g4;have cA:=fun w' (u:Up w4 w')=>jO HPX.out E kEq s1.1 s1.2 l1 w' (p4.up u) ((HGU.out w4 g4).trans u) (by rw[show kS (tks l) kEq (s1.1,s1.2)=sA from HSA.out];exact HCE.out _ _ lA HA0.out)
 rw[show at0 E (kS (tks l) kEq (s1.1,s1.2))=XA from by rw[show kS (tks l) kEq (s1.1,s1.2)=sA from HSA.out];exact HXA.out] at cA;have CA:=Lib.hid cA;have HW4:=Lib.hid hw4;have NB4:=Lib.hid nb4;have G4:=Lib.hid g4;have hwl:w.heap.size<w4.heap.size:=by omega
 have hml:w3.heap.size<w4.heap.size:=by omega
 have hwm:w.heap.size≠w3.heap.size:=by omega
 clear g3 p3 c3 hw4 u4 nb4 g4 p4 cA;go_wp2_with fail;rw[HW4.out]
 go_region_held3 (fun w'=>w'.cell? ⟨w.heap.size,0,none⟩=some (.pointer (some ⟨b,0,none⟩))) (first | go_keep | assumption | exact((Up.refl _).alloc _).cell (by rw[zS _ _ _ (by simp only;omega)];assumption)) (first
  | (go_at_call 216;refine(CA.out _ (by first | exact Below.refl _ _ | exact qE (Below.refl _ _) 1)).mono ?_;rintro e6 w6 hP;obtain⟨A6,rfl,g6,p6,n6⟩:=hP.psr;have g6:Gs (On b) w4 w6:=⟨g6.os,g6.tape,g6.output,g6.size,g6.block⟩;have n6:∀t j,XA = .inl (t,j)->NewT w4 w6 (.pointer A6) t:=n6;have z6:=g6.size;have hwl6:w.heap.size<w6.heap.size:=(by omega);have k6:=HGB.out w6 (G4.out.trans g6);have G6:=Lib.hid g6;have P6:=Lib.hid p6;have N6:=Lib.hid n6;clear g6 p6 n6 hP CA)
  | (go_at_call 216;refine(jO HPX.out E kIn (rI XA) (rE XA) mA _ (by first | exact P6.out | exact P6.out.up (qE (Below.refl _ _) 1)) (by first | exact HGU.out w6 (G4.out.trans G6.out) | exact(HGU.out w6 (G4.out.trans G6.out)).trans (qE (Below.refl _ _) 1)) (by rw[show kS (tks l) kIn (rI XA,rE XA)=sB from HSB.out];exact HCE.out _ _ lB HB0.out)).mono ?_;rintro e7 w7 hP;rw[show at0 E (kS (tks l) kIn (rI XA,rE XA))=XB from by rw[show kS (tks l) kIn (rI XA,rE XA)=sB from HSB.out];exact HXB.out] at hP;obtain⟨A7,rfl,g7,p7,n7⟩:=hP.psr;have g7:Gs (On b) w6 w7:=⟨g7.os,g7.tape,g7.output,g7.size,g7.block⟩;have n7:∀t j,XB = .inl (t,j)->NewT w6 w7 (.pointer A7) t:=n7;have z7:=g7.size;have nb7:=g7.row (G6.out.row NB4.out (by unfold On;omega)) (by unfold On;omega);have c74:w7.cell? ⟨w3.heap.size,4,none⟩=some (.slice none 0 0):=cell_of_row w7 _ 4 _ _ _ nb7;have f74:w7.frozen? ⟨w3.heap.size,4,none⟩=false:=frozen_of_row w7 _ 4 _ _ nb7;have hb7:w3.heap.size<w7.heap.size:=qC nb7;have k7:=HGB.out w7 ((G4.out.trans G6.out).trans g7);have G7:=Lib.hid g7;have P7:=Lib.hid p7;have N7:=Lib.hid n7;have NB7:=Lib.hid nb7;clear g7 p7 n7 nb7 hP))
 clear ‹(World.alloc _ _).cell? _=_›;obtain⟨WF,hWF⟩:∃WF,(w7.setCell ⟨w3.heap.size,4,none⟩ (.slice (some ⟨w7.heap.size,0,none⟩) 2 2)).alloc (.cells #[.pointer A6,.pointer A7] 24)=WF:=⟨_,rfl⟩;obtain⟨gF,hF⟩:=fill2 (W:=w) (w4:=w4) (x:=⟨29,0,nm,nob⟩) (A:=A6) (C:=A7) NB7.out (by omega) (by omega) (by omega) WF hWF;have gA:Gs (On b) W0 w7:=(G4.out.trans G6.out).trans G7.out;have gW:Gs (On b) W0 WF:=⟨gF.os.trans gA.os,gF.tape.trans gA.tape,gF.output.trans gA.output,Nat.le_trans gA.size gF.size,fun q hq hn=>(gF.block q (by have:=gA.size;omega) (by unfold On;omega)).trans (gA.block q hq hn)⟩;have pF:Psr WF b v (rI XB) (rE XB):=gF.row P7.out (by unfold On;omega);have zF:=gF.size;have cZ:=zN b v (rI XB) (rE XB) kEnd WF HPX.out.Q.T pF (HGU.out WF gW) (by have:rI XB<=l.length:=mB;omega);have kF:=HGB.out WF gW;have GW:=Lib.hid gW;have HF:=Lib.hid hF;rw[hWF];clear hWF gF hF gA gW pF;go_wp2_with fail;refine cZ.mono ?_;rintro en w8 ⟨⟨u8,rfl⟩,g8,p8⟩;have k8:=HGB.out w8 (GW.out.trans g8);have G8:=Lib.hid g8;have P8:=Lib.hid p8;clear g8 p8 cZ;go_wp2_with fail
 go_ret
 have p8:Psr w8 b v (kS (tks l) kEnd (stO XB)).1 (kS (tks l) kEnd (stO XB)).2:=P8.out;have e1:rI (at0 (letS B.nck l E) (i+1,e))=(kS (tks l) kEnd (stO XB)).1:=congrArg Prod.fst HST.out;have e2:rE (at0 (letS B.nck l E) (i+1,e))=(kS (tks l) kEnd (stO XB)).2:=congrArg Prod.snd HST.out;refine PaT.mk ((Gs.of U0.out).trans (GW.out.trans G8.out)) (by rw[e1,e2];exact p8) fun t j ht=>?_
 obtain⟨t,b',j3,j4,hA,hB,rfl⟩:=HVAL.out t j ht;have hn:NewT w WF (.pointer (some ⟨w3.heap.size,0,none⟩)) (⟨29,0,nm,nob⟩,fr2 t b'):=HF.out t b' ((N6.out t j3 hA).gs G7.out fun q hq=>by rw[hq];omega) ((N7.out b' j4 hB).base (by omega));exact hn.gs G8.out fun q hq=>by rw[hq];omega
end
theorem zU4 {W w:World} {va vb vc:Value} {a b c:Tr} {k:Int} (hW:W.heap.size<=w.heap.size) (ha:NewT W w va a) (hb:NewT W w vb b) (hc:NewT W w vc c) :
  NewT W ((w.alloc (.cells #[va,vb,vc] 24)).alloc (.cells #[.int .i64 k,.int .i64 0,.string nob,.string ⟨#[]⟩,.slice (some ⟨w.heap.size,0,none⟩) 3 3] 44)) (.pointer (some ⟨w.heap.size+1,0,none⟩)) (nd k nob (fr3 a b c)):=by
 have e1:(w.alloc (.cells #[va,vb,vc] 24)).heap.size=w.heap.size+1:=by simp
 rw[<- e1];obtain⟨W1,hW1⟩:∃W1,w.alloc (.cells #[va,vb,vc] 24)=W1:=⟨_,rfl⟩;have s1:W1.heap[w.heap.size]? = some (.cells #[va,vb,vc] 24 (0,0)):=by rw[<- hW1];exact heap_alloc_new w _
 have u1:Up w W1:=by rw[<- hW1];exact(Up.refl w).alloc _
 have z1:=u1.size;rw[hW1];obtain⟨W2,hW2⟩:∃W2,W1.alloc (.cells #[.int .i64 k,.int .i64 0,.string nob,.string ⟨#[]⟩,.slice (some ⟨w.heap.size,0,none⟩) 3 3] 44)=W2:=⟨_,rfl⟩;have s2:W2.heap[W1.heap.size]? = some (.cells #[.int .i64 k,.int .i64 0,.string nob,.string ⟨#[]⟩,.slice (some ⟨w.heap.size,0,none⟩) 3 3] 44 (0,0)):=by rw[<- hW2];exact heap_alloc_new W1 _
 have u2:Up W1 W2:=by rw[<- hW2];exact(Up.refl W1).alloc _
 have s3:W2.heap[w.heap.size]? = some (.cells #[va,vb,vc] 24 (0,0)):=u2.row s1;rw[hW2];exact yV (x:=⟨k,0,nob,nob⟩) (f:=fr3 a b c) s2 rfl (Nat.le_refl _) ⟨by omega,qC s2⟩ ⟨hW,qC s3⟩ ⟨⟨_,cell_of_row W2 w.heap.size 0 _ _ _ s3,ha.up (u1.trans u2)⟩,⟨_,cell_of_row W2 w.heap.size 1 _ _ _ s3,hb.up (u1.trans u2)⟩,⟨_,cell_of_row W2 w.heap.size 2 _ _ _ s3,hc.up (u1.trans u2)⟩,trivial⟩
section
variable {V0:World} {v:Value} {l:List Te} {b:Nat}
theorem ex_if (P:Px9 V0 v l b) (E:Nat->Rs Tr) (hE:∀j,j<=l.length->In l.length j (E j)) (i:Nat) (e:Int) (hi:i<=l.length) (hi1:i+1<=l.length) (h1:tkB (tks l) i e kFn=false) (h2:tkB (tks l) i e kLet=false) (h3:tkB (tks l) i e kIf=true)
  (cE:∀(j:Nat) (e':Int),j<=l.length->(e'=0->e=0/\i<j)->RuAt V0 v b 191 E j e') (w:World) (hu:Up V0 w) (h:Psr w b v i e) :
  Calls Tryz.prog 191 #[.agg #[.pointer (some ⟨b,0,none⟩)]] w (PaT (On b) b v (at0 (ifS l E) (i+1,e)) (fun _ _=>True) w):=by
 have hb:b<w.heap.size:=qC h;have hll:=P.Q.hl;have hbV:=P.Q.hb;obtain⟨X1,hX1⟩:∃X,at0 E (i+1,e)=X:=⟨_,rfl⟩;obtain⟨s1,hs1⟩:∃s,kS (tks l) kThen (stO X1)=s:=⟨_,rfl⟩;obtain⟨X2,hX2⟩:∃X,at0 E s1=X:=⟨_,rfl⟩;obtain⟨s2,hs2⟩:∃s,kS (tks l) kElse (stO X2)=s:=⟨_,rfl⟩;obtain⟨X3,hX3⟩:∃X,at0 E s2=X:=⟨_,rfl⟩;have r1:rS E (i+1,e)=stO X1:=by unfold rS;rw[hX1]
 have r2:rS E s1=stO X2:=by unfold rS;rw[hX2]
 have r3:rS E s2=stO X3:=by unfold rS;rw[hX3]
 have m1:(stO X1).1<=l.length:=by rw[<- r1];exact pB hE hi1
 have l1:s1.1<=l.length:=by rw[<- hs1];exact zI l _ m1
 have m2:(stO X2).1<=l.length:=by rw[<- r2];exact pB hE l1
 have l2:s2.1<=l.length:=by rw[<- hs2];exact zI l _ m2
 have h10:s1.2=0->e=0/\i<s1.1:=fun h0=>by
  rw[<- hs1] at h0;obtain⟨a1,b1⟩:=yP h0;rw[hs1] at b1;rw[<- r1] at a1 b1;obtain⟨a2,b2⟩:=rG hE hi1 a1;exact⟨a2,by have b2:i+1<(rS E (i+1,e)).1:=b2;omega⟩
 have h20:s2.2=0->e=0/\i<s2.1:=fun h0=>by
  rw[<- hs2] at h0;obtain⟨a1,b1⟩:=yP h0;rw[hs2] at b1;rw[<- r2] at a1 b1;obtain⟨a2,b2⟩:=rG hE l1 a1;obtain⟨a3,b3⟩:=h10 a2;exact⟨a3,by omega⟩
 have hst:stO (at0 (ifS l E) (i+1,e))=stO X3:=by
  rw[<- r3,<- hs2,<- r2,<- hs1,<- r1];exact nK (G:=ifG l E) ((kO _).comp ((yR _ _).comp ((kO _).comp ((yR _ _).comp (kO _))))) fun _=>if_st hE hi1
 have hval:∀u j,at0 (ifS l E) (i+1,e) = .inl (u,j)->∃a b' c j1 j2 j3,X1 = .inl (a,j1)/\X2 = .inl (b',j2)/\X3 = .inl (c,j3)/\u=nd 30 nob (fr3 a b' c):=fun u j hu=>by
  by_cases he:e=0
  ·subst he
   rw[qG] at hu;obtain⟨a,b',c,j1,j2,j3,j4,a1,a2,a3,a4,a5,rfl⟩:=zKb hE hi1 hu;have q1:X1 = .inl (a,j1):=by rw[<- hX1,qG];exact a1
   have q2:s1=(j2,0):=by rw[<- hs1,q1];exact a2
   have q3:X2 = .inl (b',j3):=by rw[<- hX2,q2,qG];exact a3
   have q4:s2=(j4,0):=by rw[<- hs2,q3];exact a4
   exact⟨a,b',c,j1,j3,_,q1,q3,by rw[<- hX3,q4,qG];exact a5,rfl⟩
  ·rw[qM _ (show ¬(i+1,e).2=0 from he)] at hu
   cases hu
 obtain⟨W0,hW0⟩:∃W0,w.alloc (.cells #[.pointer (some ⟨b,0,none⟩)] 183)=W0:=⟨_,rfl⟩;have u0:Up w W0:=by rw[<- hW0];exact(Up.refl w).alloc _
 have b1:W0.heap[w.heap.size]? = some (.cells #[.pointer (some ⟨b,0,none⟩)] 183 (0,0)):=by rw[<- hW0];exact heap_alloc_new w _
 have hgU:∀w',Gs (On b) W0 w'->Up V0 w':=fun w' g=>g.up (hu.trans u0) fun q hq=>by rw[hq];exact hbV
 have hgB:∀w',Gs (On b) W0 w'->w'.cell? ⟨w.heap.size,0,none⟩=some (.pointer (some ⟨b,0,none⟩)):=fun w' g=>cell_of_row w' w.heap.size 0 _ _ _ (g.row b1 (by unfold On;omega))
 have c1:=qI P.Q hi kFn h1 W0 (hu.trans u0) (h.up u0);have hz0:W0.heap.size=w.heap.size+1:=by rw[<- hW0];simp
 have HPX:=Lib.hid P;have HCE:=Lib.hid cE;have HGU:=Lib.hid hgU;have HGB:=Lib.hid hgB;have HW0:=Lib.hid hW0;have U0:=Lib.hid u0;have H2:=Lib.hid h2;have H3:=Lib.hid h3;have HST:=Lib.hid hst;have HVAL:=Lib.hid hval;have HS1:=Lib.hid hs1;have HS2:=Lib.hid hs2;have HX1:=Lib.hid hX1;have HX2:=Lib.hid hX2;have HX3:=Lib.hid hX3;have H10:=Lib.hid h10;have H20:=Lib.hid h20;clear hW0 u0 b1 h hu cE P hgU hgB h1 h2 h3 hst hval hs1 hs2 hX1 hX2 hX3 h10 h20 r1 r2 r3 hE
 go_enter Tryz.func191,Tryz.ntmps191
 go_wp2_with fail;rw[HW0.out];refine c1.mono ?_;rintro en w1 ⟨rfl,g1,p1⟩;have c2:=qI HPX.out.Q hi kLet H2.out w1 (HGU.out w1 g1) p1;have k1:=HGB.out w1 g1;have G1:=Lib.hid g1;clear g1 p1 c1;go_wp2_with fail;refine c2.mono ?_;rintro en w2 ⟨rfl,g2,p2⟩;have g2:=G1.out.trans g2;have c3:=qN HPX.out.Q hi kIf H3.out w2 (HGU.out w2 g2) p2;have k2:=HGB.out w2 g2;have G2:=Lib.hid g2;clear g2 p2 c2;go_wp2_with fail;refine c3.mono ?_;rintro en w3 ⟨rfl,g3,p3⟩;have g3:=G2.out.trans g3;have z3:=g3.size;have cA:=fun w' (u:Up w3 w')=>HCE.out (i+1) e hi1 (fun h0=>⟨h0,Nat.lt_succ_self i⟩) w' ((HGU.out w3 g3).trans u) (p3.up u)
 rw[HX1.out] at cA;have CA:=Lib.hid cA;have k3:=HGB.out w3 g3;have G3:=Lib.hid g3;have hwl:w.heap.size<w3.heap.size:=by omega
 clear g3 p3 c3 cA;go_wp2_with fail
 go_region_held3 (fun w'=>w'.cell? ⟨w.heap.size,0,none⟩=some (.pointer (some ⟨b,0,none⟩))) (first | go_keep | assumption | exact((Up.refl _).alloc _).cell (by assumption)) (first
  | (go_at_call 191;refine(CA.out _ (by first | exact Below.refl _ _ | exact qE (Below.refl _ _) 1)).mono ?_;rintro e6 w6 hP;obtain⟨A6,rfl,g6,p6,n6⟩:=hP.psr;have g6:Gs (On b) w3 w6:=⟨g6.os,g6.tape,g6.output,g6.size,g6.block⟩;have n6:∀t j,X1 = .inl (t,j)->NewT w3 w6 (.pointer A6) t:=n6;have z6:=g6.size;have hwl6:w.heap.size<w6.heap.size:=(by omega);have k6:=HGB.out w6 (G3.out.trans g6);have G6:=Lib.hid (G3.out.trans g6);have P6:=Lib.hid p6;have N6:=Lib.hid n6;clear g6 p6 n6 hP CA)
  | (go_at_call 216;have q6:=P6.out;refine(jO HPX.out E kThen (rI X1) (rE X1) m1 _ (by first | exact P6.out | exact P6.out.up (qE (Below.refl _ _) 1)) (by first | exact HGU.out w6 G6.out | exact(HGU.out w6 G6.out).trans (qE (Below.refl _ _) 1)) (by rw[show kS (tks l) kThen (rI X1,rE X1)=s1 from HS1.out];exact HCE.out _ _ l1 H10.out)).mono ?_;rintro e7 w7 hP;rw[show at0 E (kS (tks l) kThen (rI X1,rE X1))=X2 from by rw[show kS (tks l) kThen (rI X1,rE X1)=s1 from HS1.out];exact HX2.out] at hP;obtain⟨A7,rfl,g7,p7,n7⟩:=hP.psr;have g7:Gs (On b) w6 w7:=⟨g7.os,g7.tape,g7.output,g7.size,g7.block⟩;have n7:∀t j,X2 = .inl (t,j)->NewT w6 w7 (.pointer A7) t:=n7;have z7:=g7.size;have hwl7:w.heap.size<w7.heap.size:=(by omega);have k7:=HGB.out w7 (G6.out.trans g7);have G7:=Lib.hid g7;have P7:=Lib.hid p7;have N7:=Lib.hid n7;clear g7 p7 n7 hP P6 q6)
  | (go_at_call 216;have q7:=P7.out;refine(jO HPX.out E kElse (rI X2) (rE X2) m2 _ (by first | exact P7.out | exact P7.out.up (qE (Below.refl _ _) 1)) (by first | exact HGU.out w7 (G6.out.trans G7.out) | exact(HGU.out w7 (G6.out.trans G7.out)).trans (qE (Below.refl _ _) 1)) (by rw[show kS (tks l) kElse (rI X2,rE X2)=s2 from HS2.out];exact HCE.out _ _ l2 H20.out)).mono ?_;rintro e8 w8 hP;rw[show at0 E (kS (tks l) kElse (rI X2,rE X2))=X3 from by rw[show kS (tks l) kElse (rI X2,rE X2)=s2 from HS2.out];exact HX3.out] at hP;obtain⟨A8,rfl,g8,p8,n8⟩:=hP.psr;have g8:Gs (On b) w7 w8:=⟨g8.os,g8.tape,g8.output,g8.size,g8.block⟩;have n8:∀t j,X3 = .inl (t,j)->NewT w7 w8 (.pointer A8) t:=n8;have z8:=g8.size;have hwl8:w.heap.size<w8.heap.size:=(by omega);have k8:=HGB.out w8 ((G6.out.trans G7.out).trans g8);have G8:=Lib.hid g8;have P8:=Lib.hid p8;have N8:=Lib.hid n8;clear g8 p8 n8 hP P7 q7)
  | (go_at_call 217;refine(kL _ _ _ _ _).mono ?_;rintro e9 w9 ⟨rfl,h9⟩;have k9:w9.cell? ⟨w.heap.size,0,none⟩=some (.pointer (some ⟨b,0,none⟩)):=(by rw[h9];exact(((Up.refl w8).alloc _).alloc _).cell k8);have H9:=Lib.hid h9;clear h9))
 all_goals go_wp2_with fail
 go_ret
 have u9:Up w8 w9:=by rw[H9.out];exact((Up.refl w8).alloc _).alloc _
 have e1:rI (at0 (ifS l E) (i+1,e))=rI X3:=congrArg Prod.fst HST.out;have e2:rE (at0 (ifS l E) (i+1,e))=rE X3:=congrArg Prod.snd HST.out;refine PaT.mk ((Gs.of U0.out).trans (((G6.out.trans G7.out).trans G8.out).trans (Gs.of u9))) (by rw[e1,e2];exact P8.out.up u9) fun t j ht=>?_
 obtain⟨a,b',c,j1,j2,j3,hA,hB,hC,rfl⟩:=HVAL.out t j ht;rw[H9.out];exact zU4 (by omega) (((N6.out a j1 hA).gsb G7.out (by omega)).gsb G8.out (by omega) |>.base (by omega)) (((N7.out b' j2 hB).gsb G8.out (by omega)).base (by omega)) ((N8.out c j3 hC).base (by omega))
end
section
variable {nk:ByteArray->Bool} {l:List Te} {X:Nat->Nat->Rs Tr}
def partA (nk:ByteArray->Bool) (l:List Te) (X:Nat->Nat->Rs Tr) (n:Nat) (acc:Fr) (i:Nat):Rs Tr:=if i<=l.length then (match n-acc.len with
 | 0=>.inr (i,6)
 | k+1=>fK nk l (X k) i) else .inr (i,6)
theorem uW (hX:∀n j,j<=l.length->In l.length j (X n j)) (n:Nat) (acc:Fr) {i:Nat} (hi:i<=l.length):In l.length i (partA nk l X n acc i):=by
 unfold partA;rw[if_pos hi]
 split
 ·exact⟨Nat.le_refl _,hi,.inl rfl⟩
 ·exact zR8 (hX _) hi
theorem uX (hX:∀n j,j<=l.length->In l.length j (X n j)) (n:Nat) (acc:Fr) (i:Nat):Ahead i (partA nk l X n acc i):=by
 by_cases hi:i<=l.length
 ·have h:=uW (nk:=nk) hX n acc hi
  cases hR:partA nk l X n acc i with
  | inl r=>rw[hR] at h;exact h.1
  | inr r=>rw[hR] at h;exact h.1
 ·unfold partA
  rw[if_neg hi];exact Nat.le_refl _
theorem In.leok7 {α:Type} {N i:Nat} {R:Rs α} (h:In N i R):LeOk N R:=by
 refine⟨?_,fun _ _ he=>h.ne he⟩
 cases R with
 | inl r=>exact h.2
 | inr r=>exact h.2.1
theorem zU5 (n:Nat) (acc:Fr) (i:Nat) (hi:i<=l.length):rowA nk l X (n-acc.len) i acc=rowS (tks l) kBar (partA nk l X n acc i) acc fun a j=>rowA nk l X (n-a.len) j a:=by
 unfold partA;rw[if_pos hi]
 cases hk:n-acc.len with
 | zero=>rfl
 | succ k=>
  rw[show rowA nk l X (k+1) i acc=thn (fK nk l (X k) i) fun a j=>if key (tks l) j kBar then rowA nk l X k (j+1) (acc.app (fr1 a)) else .inl (acc.app (fr1 a),j) from rfl];simp only
  cases hR:fK nk l (X k) i with
  | inr r=>rfl
  | inl r=>
   obtain⟨t,j⟩:=r
   show(if key (tks l) j kBar=true then rowA nk l X k (j+1) (acc.app (fr1 t)) else _)=(if key (tks l) j kBar=true then rowA nk l X (n-(acc.app (fr1 t)).len) (j+1) (acc.app (fr1 t)) else _)
   rw[show n-(acc.app (fr1 t)).len=k from by rw[Fr.len_app];show n-(acc.len+1)=k;omega]
end
section
variable {V0:World} {v:Value} {l:List Te} {b:Nat}
theorem zNf (P:Px9 V0 v l b) (X:Nat->Nat->Rs Tr) (hX:∀n j,j<=l.length->In l.length j (X n j)) (n i:Nat) (e:Int) (hi:i<=l.length) (hn:e=0->l.length+1<=n+i) (cX:∀(k j:Nat) (e':Int),j<=l.length->(e'=0->e=0/\∃a,k+a+1=n/\i+a<j)->RuAt V0 v b 191 (X k) j e') (w:World) (h:Psr w b v i e) (hu:Up V0 w) :
  Calls Tryz.prog 179 #[.pointer (some ⟨b,0,none⟩),.string kBar,.func (.func 235) #[.agg #[.pointer (some ⟨b,0,none⟩)]] #[]] w (RowP (On b) b v (at0 (fun i=>rowA B.nck l X n i .nil) (i,e)) (fun _ _=>True) w):=by
 have hb:=qC h
 by_cases he:e=0
 ·subst he
  rw[qG];exact pW (W0:=V0) (l:=tks l) b v (On b) (fun k hk=>by rw[hk];exact hb) rfl (fun k hk=>by rw[hk];exact P.Q.hb) kBar (partA B.nck l X n) (fun acc i=>uX hX n acc i) (fun acc i hi=>by rw[qK] at hi ⊢;exact(uW hX n acc hi).leok7) 235 #[.agg #[.pointer (some ⟨b,0,none⟩)]] #[] (fun _ _=>by kernel_rfl)
   (fun _ _=>True) (fun _ _ _ _ _=>trivial) (fun a j=>rowA B.nck l X (n-a.len) j a) (fun acc j hj=>by rw[qK] at hj;exact zU5 n acc j hj) i (by rw[qK];exact hi)
   (fun acc j w' h1 h2 h3 g _ p=>by
    rw[qK] at h2;have hn:=hn rfl;obtain⟨k,hk⟩:∃k,n-acc.len=k+1:=⟨n-acc.len-1,by omega⟩;have c:=zRw P (X k) (hX k) j 0 h2 (fun j' e' hj' h'=>cX k j' e' hj' fun h0=>⟨rfl,acc.len,by omega,by have:=(h' h0).2;omega⟩) w' (g.up hu fun q hq=>by rw[hq];exact P.Q.hb) p;rw[qG] at c;have e:partA B.nck l X n acc j=fK B.nck l (X k) j:=by unfold partA;rw[if_pos h2,hk]
    rw[e];exact c) P.Q.T hu (by rw[qK];exact P.Q.hl) h trivial
 ·rw[qM _ (show ¬(i,e).2=0 from he)]
  have c:=zRw P (X 0) (hX 0) i e hi (fun j' e' hj' h'=>cX 0 j' e' hj' fun h0=>absurd (h' h0).1 he) w hu h;exact pY (W0:=V0) (l:=tks l) b v (On b) (fun k hk=>by rw[hk];exact hb) rfl (fun k hk=>by rw[hk];exact P.Q.hb) kBar 235 #[.agg #[.pointer (some ⟨b,0,none⟩)]] #[] (fun _ _=>by kernel_rfl) i e he _ (qM _ (show ¬(i,e).2=0 from he)) (fun _ _=>True) c (fun _ _=>True) P.Q.T hu (by have:=P.Q.hl;omega)
end
end Go.Proofs.YtgeghilbikljcaaGreatDoor
