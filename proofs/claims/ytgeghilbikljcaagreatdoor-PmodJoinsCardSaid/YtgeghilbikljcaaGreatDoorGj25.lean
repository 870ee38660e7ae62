/-
  Layer 8, the program: functor (written by gme.py).
-/
import Derived.Test.YtgeghilbikljcaaGreatDoorGj24
set_option maxHeartbeats 40000000
set_option maxRecDepth 100000
namespace Go.Proofs.YtgeghilbikljcaaGreatDoor
open Go.RowKit
theorem iI:EntF 24:=fun _ _=>by kernel_rfl
theorem zWl:EntF 21:=fun _ _=>by kernel_rfl
def P8 (b:Nat) (W0:World) (Bm Bz:Nat) (x:Nod) (X:Rs Tr) (w':World):Prop:=∃vk ps,NdM W0 w' Bm x vk ps/\ps.length=1/\(∀g,vk.ownBlock=some g->Bz<=g)/\Gs (On b) W0 w'/\∀t j,X = .inl (t,j)->KdM W0 w' Bm vk ps (fr1 t)
section
variable {V0:World} {v:Value} {l:List Te} {b:Nat}
theorem zWm (P:Px9 V0 v l b) (s:SS) (hs:s.1<=l.length) (w:World) (hu:Up V0 w) (h:Psr w b v s.1 s.2):Calls Tryz.prog 44 #[.pointer (some ⟨b,0,none⟩),.func (.func 75) #[] #[]] w (NmP b v (nmS (nam B.nck (tks l) s.1) s.2) (nS B.nck (tks l) s).1 (nS B.nck (tks l) s).2 w):=xK P s.1 s.2 hs w h hu
theorem zQ7 (P:Px9 V0 v l b) (Sf:Nat->Rs Tr) (s0:SS) (hs0:s0.1<=l.length) (nm:ByteArray) (B1 B2 Bm:Nat) (W0 w:World) (hn1:B1≠b) (hn2:B2≠b) (_hn3:Bm≠b) (hn4:B1≠Bm) (hn5:B2≠Bm) (hb0:b<W0.heap.size)
  (c1:w.heap[B1]? = some (.cells #[.pointer (some ⟨b,0,none⟩)] 51 (0,0))) (c2:w.heap[B2]? = some (.cells #[.pointer (some ⟨Bm,0,none⟩)] 24 (0,0))) (nd:NdM W0 w Bm ⟨75,0,nm,nob⟩ (.slice none 0 0) []) (gW:Gs (On b) W0 w) (h:Psr w b v s0.1 s0.2) (hu:Up V0 w) (_hVW:V0.heap.size<=W0.heap.size)
  (cS:FnAt V0 v b 24 #[.agg #[.pointer (some ⟨b,0,none⟩)]] Sf (kS (tks l) qH (nS B.nck (tks l) s0))) :
  Calls Tryz.prog 131 #[.pointer (some ⟨B1,0,none⟩),.pointer (some ⟨B2,0,none⟩)] w (InL (Two b Bm) b v (stO (at0 Sf (kS (tks l) qH (nS B.nck (tks l) s0)))).1 (stO (at0 Sf (kS (tks l) qH (nS B.nck (tks l) s0)))).2 (P8 b W0 Bm w.heap.size ⟨75,0,nm,nmS (nam B.nck (tks l) s0.1) s0.2⟩ (at0 Sf (kS (tks l) qH (nS B.nck (tks l) s0)))) w):=by
 have hbV:=P.Q.hb;have hll:=P.Q.hl;have l1:=kJ l B.nck hs0;have cN:=fun w' (u:Up w w')=>zWm P s0 hs0 w' (hu.trans u) (h.up u)
 have cB:=fun(s1:SS) (hs1:s1.1<=l.length) (hc:FnAt V0 v b 24 #[.agg #[.pointer (some ⟨b,0,none⟩)]] Sf (kS (tks l) qH s1))=>mH P 24 #[.agg #[.pointer (some ⟨b,0,none⟩)]] #[] _ (by simp) iI Sf qH s1.1 s1.2 hs1 hc
 obtain⟨s1,hs1⟩:∃s1,nS B.nck (tks l) s0=s1:=⟨_,rfl⟩;obtain⟨mk,hmk⟩:∃n,nmS (nam B.nck (tks l) s0.1) s0.2=n:=⟨_,rfl⟩;rw[hs1] at cN l1 cS ⊢;rw[hmk] at cN ⊢;have cB:=cB s1 l1 cS;obtain⟨X,hX⟩:∃X,at0 Sf (kS (tks l) qH s1)=X:=⟨_,rfl⟩;rw[show at0 Sf (kS (tks l) qH (s1.1,s1.2))=X from hX] at cB;rw[hX];have k1:w.cell? ⟨B1,0,none⟩=some (.pointer (some ⟨b,0,none⟩)):=cell_of_row w B1 0 _ _ _ c1;have k2:w.cell? ⟨B2,0,none⟩=some (.pointer (some ⟨Bm,0,none⟩)):=cell_of_row w B2 0 _ _ _ c2;have hb1:=qC c1;have hb2:=qC c2;have hbm:Bm<w.heap.size:=qC nd.node;have hWm:=nd.hB;have HN:=Lib.hid cN;have HPX:=Lib.hid P;have HC1:=Lib.hid c1;have HC2:=Lib.hid c2;have HND:=Lib.hid nd;have HU:=Lib.hid hu;have HGW:=Lib.hid gW;have CB:=Lib.hid cB;obtain⟨i0,hi0,hz0,hz1,hz2⟩:=info_parts xT;clear cN P hs1 hmk hX c1 c2 nd hu h cB cS gW
 go_enter Tryz.func131,Tryz.ntmps131
 go_wp2_with fail
 go_region_held3 (fun w'=>w'.cell? ⟨B2,0,none⟩=some (.pointer (some ⟨Bm,0,none⟩))/\w'.cell? ⟨B1,0,none⟩=some (.pointer (some ⟨b,0,none⟩))) (first | go_keep | (refine⟨?_,?_⟩<;>(rw[zS _ _ _ (by simp only;omega)];assumption)))
  ((go_at_call 44;refine(HN.out _ (by first | exact Below.refl _ _ | exact qE (Below.refl _ _) 1)).mono ?_;rintro e2 w2 ⟨rfl,g2,p2⟩;have g2:Gs (On b) w w2:=⟨g2.os,g2.tape,g2.output,g2.size,g2.block⟩;have nd2:=HND.out.gs g2 (fun k hk=>by unfold On at hk;omega);have c4:w2.cell? ⟨Bm,3,none⟩=some (.string nob):=cell_of_row w2 Bm 3 _ _ _ nd2.node;have f4:w2.frozen? ⟨Bm,3,none⟩=false:=frozen_of_row w2 Bm 3 _ _ nd2.node;have k22:=g2.cell k2 (by unfold On;exact hn2);have k21:=g2.cell k1 (by unfold On;exact hn1);have hzw2:=g2.size;have G2:=Lib.hid g2;have P2:=Lib.hid p2;have N2:=Lib.hid nd2;clear g2 p2 nd2 HN))
 obtain⟨q2,q1⟩:=‹(w2.setCell _ _).cell? _=_/\_›;obtain⟨w3,hw3⟩:∃w3,w2.setCell ⟨Bm,3,none⟩ (.string mk)=w3:=⟨_,rfl⟩;rw[hw3] at q1 q2;rw[hw3];have g03:Gs (Two b Bm) w w3:=by rw[<- hw3];exact G2.out.two.set _ _ (.inl (.inr rfl))
 have gW3:Gs (On b) W0 w3:=by rw[<- hw3];exact(HGW.out.trans G2.out).set _ _ (.inr hWm)
 have n3:NdM W0 w3 Bm ⟨75,0,nm,mk⟩ (.slice none 0 0) []:=by rw[<- hw3];exact N2.out.mark mk
 have p3:Psr w3 b v s1.1 s1.2:=by rw[<- hw3];exact((Gs.refl (On Bm) w2).set ⟨Bm,3,none⟩ _ (.inl rfl)).row P2.out (by unfold On;omega)
 have u3:Up V0 w3:=g03.up HU.out fun q hq=>by rcases hq with h | h<;>rw[h]<;>omega
 have CB3:Hid (∀w',Up w3 w'->Calls Tryz.prog 47 #[.agg #[.pointer (some ⟨b,0,none⟩)],.string qH,.func (.func 24) #[.agg #[.pointer (some ⟨b,0,none⟩)]] #[]] w' (PaT (On b) b v X (fun _ _=>True) w')):=Lib.hid fun w' u=>CB.out w' (u3.trans u) (p3.up u)
 have c3:=n3.node.cell.1;have G03:=Lib.hid g03;have GW3:=Lib.hid gW3;have ND3:=Lib.hid n3;have hz3:=g03.size;have HNL4:Hid (([]:List Value).length=0):=Lib.hid rfl;have q21:=And.intro q2 q1;clear hw3 g03 gW3 n3 p3 u3 c4 f4 k21 k22;go_wp2_with fail;refine wp_region_held_drew (S:=fun w'=>w'.cell? ⟨B2,0,none⟩=some (.pointer (some ⟨Bm,0,none⟩))/\w'.cell? ⟨B1,0,none⟩=some (.pointer (some ⟨b,0,none⟩))) (by kernel_rfl) (q21) (fun hHeld=>?_);refine wpAnyH_take (i:=0) (oi:={dst:=some 8,op:=Op.load 24 (Operand.tmp 1),type:=24,pos:= "parse.go:169",after:=#[],guard:=none}) (v:=?_) rfl (by kernel_rfl) (by kernel_rfl) (by kernel_rfl) (fun _ _ _ h=>h) (Or.inl ⟨by rfl,?_⟩) (by assumption) ?_
 rotate_left
 ·(intro w' hSw;(try dsimp only at hSw);go_simp;with_reducible rfl)
 (try simp only[Act.put,List.setIfInBounds_toArray,List.set_cons_zero,List.set_cons_succ])
 refine wpAnyH_take (i:=1) (oi:={dst:=some 9,op:=Op.load 24 (Operand.tmp 1),type:=24,pos:= "parse.go:169",after:=#[],guard:=none}) (v:=?_) rfl (by kernel_rfl) (by kernel_rfl) (by kernel_rfl) (fun _ _ _ h=>h) (Or.inl ⟨by rfl,?_⟩) (by assumption) ?_
 rotate_left
 ·(intro w' hSw;(try dsimp only at hSw);go_simp;with_reducible rfl)
 (try simp only[Act.put,List.setIfInBounds_toArray,List.set_cons_zero,List.set_cons_succ])
 refine wpAnyH_take (i:=2) (oi:={dst:=some 10,op:=Op.nilCheck (Operand.tmp 9),type:=0,pos:= "parse.go:169",after:=#[{on:=1,ground:=Ground.data}],guard:=none}) (v:=?_) rfl (by kernel_rfl) (by kernel_rfl) (by kernel_rfl) (fun _ _ _ h=>h) (Or.inl ⟨by rfl,?_⟩) (by assumption) ?_
 rotate_left
 ·(intro w' hSw;(try dsimp only at hSw);go_simp;with_reducible rfl)
 (try simp only[Act.put,List.setIfInBounds_toArray,List.set_cons_zero,List.set_cons_succ])
 refine wpAnyH_take (i:=3) (oi:={dst:=some 11,op:=Op.fieldAddr 44 (Operand.tmp 10) 4,type:=0,pos:= "parse.go:169",after:=#[{on:=2,ground:=Ground.data}],guard:=none}) (v:=?_) rfl (by kernel_rfl) (by kernel_rfl) (by kernel_rfl) (fun _ _ _ h=>h) (Or.inl ⟨by rfl,?_⟩) (by assumption) ?_
 rotate_left
 ·(intro w' hSw;(try dsimp only at hSw);go_simp;with_reducible rfl)
 (try simp only[Act.put,List.setIfInBounds_toArray,List.set_cons_zero,List.set_cons_succ])
 refine wpAnyH_take (i:=5) (oi:={dst:=some 13,op:=Op.load 51 (Operand.tmp 0),type:=51,pos:= "parse.go:169",after:=#[],guard:=none}) (v:=?_) rfl (by kernel_rfl) (by kernel_rfl) (by kernel_rfl) (fun _ _ _ h=>h) (Or.inl ⟨by rfl,?_⟩) (by assumption) ?_
 rotate_left
 ·(intro w' hSw;(try dsimp only at hSw);go_simp;with_reducible rfl)
 (try simp only[Act.put,List.setIfInBounds_toArray,List.set_cons_zero,List.set_cons_succ])
 refine wpAnyH_take (i:=6) (oi:={dst:=some 14,op:=Op.load 51 (Operand.tmp 0),type:=51,pos:= "parse.go:169",after:=#[],guard:=none}) (v:=?_) rfl (by kernel_rfl) (by kernel_rfl) (by kernel_rfl) (fun _ _ _ h=>h) (Or.inl ⟨by rfl,?_⟩) (by assumption) ?_
 rotate_left
 ·(intro w' hSw;(try dsimp only at hSw);go_simp;with_reducible rfl)
 (try simp only[Act.put,List.setIfInBounds_toArray,List.set_cons_zero,List.set_cons_succ])
 refine wpAnyH_take (i:=7) (oi:={dst:=some 15,op:=Op.makeFunc (Fn.func 24) #[Operand.tmp 14] #[],type:=52,pos:= "parse.go:169",after:=#[{on:=6,ground:=Ground.data}],guard:=none}) (v:=?_) rfl (by kernel_rfl) (by kernel_rfl) (by kernel_rfl) (fun _ _ _ h=>h) (Or.inl ⟨by rfl,?_⟩) (by assumption) ?_
 rotate_left
 ·(intro w' hSw;(try dsimp only at hSw);go_simp;with_reducible rfl)
 (try simp only[Act.put,List.setIfInBounds_toArray,List.set_cons_zero,List.set_cons_succ])
 refine wpAnyH_ready (rs:=[4,8]) (by kernel_rfl) (by simp) (AllReadyH.cons (o:={dst:=some 12,op:=Op.load 33 (Operand.tmp 11),type:=33,pos:= "parse.go:169",after:=#[{on:=3,ground:=Ground.data}],guard:=none}) rfl (fun K hK=>?_) (AllReadyH.cons (o:={dst:=some 16,op:=Op.call {callee:=Callee.value (Operand.func 47),args:=#[Operand.tmp 13,Operand.const (Value.string {data:=#[58]}),Operand.tmp 15],argTypes:=#[51,9,52]},type:=24,pos:= "parse.go:169",after:=#[{on:=5,ground:=Ground.data},{on:=7,ground:=Ground.data}],guard:=none}) rfl (fun K hK=>?_) AllReadyH.nil))
 go_simp
 refine hK.out _ _ (by assumption) (fun hHeld=>?_);clear hK K
 (try simp only[Act.put,List.setIfInBounds_toArray,List.set_cons_zero,List.set_cons_succ])
 refine wpAnyH_ready (rs:=[8]) (by kernel_rfl) (by simp) (AllReadyH.cons (o:={dst:=some 16,op:=Op.call {callee:=Callee.value (Operand.func 47),args:=#[Operand.tmp 13,Operand.const (Value.string {data:=#[58]}),Operand.tmp 15],argTypes:=#[51,9,52]},type:=24,pos:= "parse.go:169",after:=#[{on:=5,ground:=Ground.data},{on:=7,ground:=Ground.data}],guard:=none}) rfl (fun K hK=>?_) AllReadyH.nil)
 go_simp
 go_at_call 47
 refine(CB3.out _ (by first | exact Below.refl _ _ | exact qE (Below.refl _ _) 1)).mono ?_
 rintro e9 w4 hP;obtain⟨A4,rfl,g9,p9,n9⟩:=hP.psr;have g9:Gs (On b) w3 w4:=⟨g9.os,g9.tape,g9.output,g9.size,g9.block⟩;have n9:∀t j,X = .inl (t,j)->NewT w3 w4 (.pointer A4) t:=n9;have zc4:=g9.size;have nd9:=ND3.out.gs g9 (fun k hk=>by unfold On at hk;omega);have r9:w4.cell? ⟨B2,0,none⟩=some (.pointer (some ⟨Bm,0,none⟩))/\w4.cell? ⟨B1,0,none⟩=some (.pointer (some ⟨b,0,none⟩)):=⟨g9.cell q2 (by show ¬(B2=b);omega),g9.cell q1 (by show ¬(B1=b);omega)⟩;have c4:=nd9.node.cell.1;have u9:=(Up.refl w4).alloc (.cells #[.pointer A4] 24);have ka4:(w4.alloc (.cells #[.pointer A4] 24)).cell? ⟨B2,0,none⟩=some (.pointer (some ⟨Bm,0,none⟩))/\(w4.alloc (.cells #[.pointer A4] 24)).cell? ⟨B1,0,none⟩=some (.pointer (some ⟨b,0,none⟩)):=⟨u9.cell r9.1,u9.cell r9.2⟩;have ca4:=u9.cell c4;have ow9:=(nd9.up u9).own;rw[HNL4.out] at ow9;have OW4:=Lib.hid ow9;have ND4:=Lib.hid (nd9.up u9);have GC4:=Lib.hid (GW3.out.trans g9);have GO4:=Lib.hid g9;have PC4:=Lib.hid p9;have NC4:=Lib.hid n9;have HE4:=Lib.hid (cell_one_new w4 (.pointer A4) 24);have hza4:(w4.alloc (.cells #[.pointer A4] 24)).heap.size=w4.heap.size+1:=by simp
 have hzb4:W0.heap.size<=(w4.alloc (.cells #[.pointer A4] 24)).heap.size:=by have:=GC4.out.size;omega
 clear g9 p9 n9 nd9 u9 ow9 hP;go_wp2_with fail;refine hK.out _ _ r9 (fun hHeld=>?_);clear hK K
 (try simp only[Act.put,List.setIfInBounds_toArray,List.set_cons_zero,List.set_cons_succ])
 refine wpAnyH_ready (rs:=[9]) (by kernel_rfl) (by simp) (AllReadyH.cons (o:={dst:=some 17,op:=Op.buildSlice 33 1 #[(0,Operand.tmp 16)],type:=33,pos:= "parse.go:169",after:=#[{on:=8,ground:=Ground.data}],guard:=none}) rfl (fun K hK=>?_) AllReadyH.nil)
 go_simp
 refine hK.out _ _ (ka4) (fun hHeld=>?_);clear hK K
 (try simp only[Act.put,List.setIfInBounds_toArray,List.set_cons_zero,List.set_cons_succ])
 rotate_left
 go_simp
 go_at_call 47
 refine(CB3.out _ (by first | exact Below.refl _ _ | exact qE (Below.refl _ _) 1)).mono ?_
 rintro e9 w4 hP;obtain⟨A4,rfl,g9,p9,n9⟩:=hP.psr;have g9:Gs (On b) w3 w4:=⟨g9.os,g9.tape,g9.output,g9.size,g9.block⟩;have n9:∀t j,X = .inl (t,j)->NewT w3 w4 (.pointer A4) t:=n9;have zc4:=g9.size;have nd9:=ND3.out.gs g9 (fun k hk=>by unfold On at hk;omega);have r9:w4.cell? ⟨B2,0,none⟩=some (.pointer (some ⟨Bm,0,none⟩))/\w4.cell? ⟨B1,0,none⟩=some (.pointer (some ⟨b,0,none⟩)):=⟨g9.cell q2 (by show ¬(B2=b);omega),g9.cell q1 (by show ¬(B1=b);omega)⟩;have c4:=nd9.node.cell.1;have u9:=(Up.refl w4).alloc (.cells #[.pointer A4] 24);have ka4:(w4.alloc (.cells #[.pointer A4] 24)).cell? ⟨B2,0,none⟩=some (.pointer (some ⟨Bm,0,none⟩))/\(w4.alloc (.cells #[.pointer A4] 24)).cell? ⟨B1,0,none⟩=some (.pointer (some ⟨b,0,none⟩)):=⟨u9.cell r9.1,u9.cell r9.2⟩;have ca4:=u9.cell c4;have ow9:=(nd9.up u9).own;rw[HNL4.out] at ow9;have OW4:=Lib.hid ow9;have ND4:=Lib.hid (nd9.up u9);have GC4:=Lib.hid (GW3.out.trans g9);have GO4:=Lib.hid g9;have PC4:=Lib.hid p9;have NC4:=Lib.hid n9;have HE4:=Lib.hid (cell_one_new w4 (.pointer A4) 24);have hza4:(w4.alloc (.cells #[.pointer A4] 24)).heap.size=w4.heap.size+1:=by simp
 have hzb4:W0.heap.size<=(w4.alloc (.cells #[.pointer A4] 24)).heap.size:=by have:=GC4.out.size;omega
 clear g9 p9 n9 nd9 u9 ow9 hP;go_wp2_with fail;refine hK.out _ _ r9 (fun hHeld=>?_);clear hK K
 (try simp only[Act.put,List.setIfInBounds_toArray,List.set_cons_zero,List.set_cons_succ])
 refine wpAnyH_ready (rs:=[4,9]) (by kernel_rfl) (by simp) (AllReadyH.cons (o:={dst:=some 12,op:=Op.load 33 (Operand.tmp 11),type:=33,pos:= "parse.go:169",after:=#[{on:=3,ground:=Ground.data}],guard:=none}) rfl (fun K hK=>?_) (AllReadyH.cons (o:={dst:=some 17,op:=Op.buildSlice 33 1 #[(0,Operand.tmp 16)],type:=33,pos:= "parse.go:169",after:=#[{on:=8,ground:=Ground.data}],guard:=none}) rfl (fun K hK=>?_) AllReadyH.nil))
 go_simp
 refine hK.out _ _ (by assumption) (fun hHeld=>?_);clear hK K
 (try simp only[Act.put,List.setIfInBounds_toArray,List.set_cons_zero,List.set_cons_succ])
 refine wpAnyH_ready (rs:=[9]) (by kernel_rfl) (by simp) (AllReadyH.cons (o:={dst:=some 17,op:=Op.buildSlice 33 1 #[(0,Operand.tmp 16)],type:=33,pos:= "parse.go:169",after:=#[{on:=8,ground:=Ground.data}],guard:=none}) rfl (fun K hK=>?_) AllReadyH.nil)
 go_simp
 refine hK.out _ _ (ka4) (fun hHeld=>?_);clear hK K
 (try simp only[Act.put,List.setIfInBounds_toArray,List.set_cons_zero,List.set_cons_succ])
 rotate_left
 go_simp
 refine hK.out _ _ (ka4) (fun hHeld=>?_);clear hK K
 (try simp only[Act.put,List.setIfInBounds_toArray,List.set_cons_zero,List.set_cons_succ])
 refine wpAnyH_ready (rs:=[4]) (by kernel_rfl) (by simp) (AllReadyH.cons (o:={dst:=some 12,op:=Op.load 33 (Operand.tmp 11),type:=33,pos:= "parse.go:169",after:=#[{on:=3,ground:=Ground.data}],guard:=none}) rfl (fun K hK=>?_) AllReadyH.nil)
 go_simp
 refine hK.out _ _ (by assumption) (fun hHeld=>?_);clear hK K
 (try simp only[Act.put,List.setIfInBounds_toArray,List.set_cons_zero,List.set_cons_succ])
 all_goals
  refine wpAnyH_ready (rs:=[10]) (by kernel_rfl) (by simp) (AllReadyH.cons (o:={dst:=some 18,op:=Op.call {callee:=Callee.builtin Builtin.append,args:=#[Operand.tmp 12,Operand.tmp 17],argTypes:=#[33,33]},type:=33,pos:= "parse.go:169",after:=#[{on:=4,ground:=Ground.data},{on:=9,ground:=Ground.data},{on:=8,ground:=Ground.chain}],guard:=none}) rfl (fun K hK=>?_) AllReadyH.nil);refine step_append_lies _ (by rfl) _ _ _ (by rfl) W0.heap.size 24 i0 _ 1 8 Tryz.underlying33 hi0 hz0 hz1 hz2 rfl (by omega) (.slice none 0 0) 0 [] (by rfl) OW4.out ⟨w4.heap.size,0,none⟩ 1 1 [.pointer A4] (by rfl) (by rfl) HE4.out (by intro u hu;rw[List.mem_singleton.1 hu];rfl) (by omega) (by unfold maxLen;omega) (by omega) hzb4 (w4.heap.size+1) hza4 ?_;intro g5 cap5 w5 ho9 hg9 hat9 hlt9;have nb9:=mJ ND4.out hg9;have c5:=nb9.cell.1;have f5:=nb9.cell.2;have hb5:=qC nb9;have kb9:w5.cell? ⟨B2,0,none⟩=some (.pointer (some ⟨Bm,0,none⟩))/\w5.cell? ⟨B1,0,none⟩=some (.pointer (some ⟨b,0,none⟩)):=⟨(World.cell?_of_block (hg9.block B2 (zZ ka4.1) (fun e=>by cases e))).trans ka4.1,(World.cell?_of_block (hg9.block B1 (zZ ka4.2) (fun e=>by cases e))).trans ka4.2⟩;have HO5:=Lib.hid ho9;have HG5:=Lib.hid hg9;have HA5:=Lib.hid hat9;have KB5:=Lib.hid kb9;clear ho9 hg9 hat9 hlt9 nb9;refine hK.out _ _ (kb9) (fun hHeld=>?_);clear hK K
  (try simp only[Act.put,List.setIfInBounds_toArray,List.set_cons_zero,List.set_cons_succ])
  refine wpAnyH_take (i:=11) (oi:={dst:=some 19,op:=Op.nilCheck (Operand.tmp 8),type:=0,pos:= "parse.go:169",after:=#[{on:=0,ground:=Ground.data},{on:=0,ground:=Ground.phase},{on:=1,ground:=Ground.phase},{on:=2,ground:=Ground.phase},{on:=3,ground:=Ground.phase},{on:=4,ground:=Ground.phase},{on:=5,ground:=Ground.phase},{on:=6,ground:=Ground.phase},{on:=7,ground:=Ground.phase},{on:=8,ground:=Ground.phase},{on:=9,ground:=Ground.phase},{on:=10,ground:=Ground.phase}],guard:=none}) (v:=?_) rfl (by kernel_rfl) (by kernel_rfl) (by kernel_rfl) (fun _ _ _ h=>h) (Or.inl ⟨by rfl,?_⟩) (by assumption) ?_
  rotate_left
  ·(intro w' hSw;(try dsimp only at hSw);go_simp;with_reducible rfl)
  (try simp only[Act.put,List.setIfInBounds_toArray,List.set_cons_zero,List.set_cons_succ])
  refine wpAnyH_take (i:=12) (oi:={dst:=some 20,op:=Op.fieldAddr 44 (Operand.tmp 19) 4,type:=0,pos:= "parse.go:169",after:=#[{on:=11,ground:=Ground.data},{on:=0,ground:=Ground.phase},{on:=1,ground:=Ground.phase},{on:=2,ground:=Ground.phase},{on:=3,ground:=Ground.phase},{on:=4,ground:=Ground.phase},{on:=5,ground:=Ground.phase},{on:=6,ground:=Ground.phase},{on:=7,ground:=Ground.phase},{on:=8,ground:=Ground.phase},{on:=9,ground:=Ground.phase},{on:=10,ground:=Ground.phase}],guard:=none}) (v:=?_) rfl (by kernel_rfl) (by kernel_rfl) (by kernel_rfl) (fun _ _ _ h=>h) (Or.inl ⟨by rfl,?_⟩) (by assumption) ?_
  rotate_left
  ·(intro w' hSw;(try dsimp only at hSw);go_simp;with_reducible rfl)
  (try simp only[Act.put,List.setIfInBounds_toArray,List.set_cons_zero,List.set_cons_succ])
  refine wpAnyH_ready (rs:=[13]) (by kernel_rfl) (by simp) (AllReadyH.cons (o:={dst:=none,op:=Op.store 33 (Operand.tmp 20) (Operand.tmp 18),type:=0,pos:= "parse.go:169",after:=#[{on:=12,ground:=Ground.data},{on:=10,ground:=Ground.data},{on:=10,ground:=Ground.chain},{on:=0,ground:=Ground.phase},{on:=1,ground:=Ground.phase},{on:=2,ground:=Ground.phase},{on:=3,ground:=Ground.phase},{on:=4,ground:=Ground.phase},{on:=5,ground:=Ground.phase},{on:=6,ground:=Ground.phase},{on:=7,ground:=Ground.phase},{on:=8,ground:=Ground.phase},{on:=9,ground:=Ground.phase},{on:=10,ground:=Ground.phase}],guard:=none}) rfl (fun K hK=>?_) AllReadyH.nil)
  go_simp
  refine hK.out _ _ (⟨(World.cell?_setCell_far _ _ _ _ (fun e=>by simp only at e;omega)).trans KB5.out.1,(World.cell?_setCell_far _ _ _ _ (fun e=>by simp only at e;omega)).trans KB5.out.2⟩) (fun hHeld=>?_);clear hK K;refine wpAnyH_done (by kernel_rfl) ?_ _
 all_goals have hR:ApR b v W0 w3 Bm ⟨75,0,nm,mk⟩ (.slice none 0 0) [] 0 X A4 w4 w5 g5 cap5:=⟨ND4.out,GC4.out,GO4.out,PC4.out,NC4.out,HO5.out,HG5.out,HA5.out⟩
 all_goals
  have hfr:∀g,(Value.slice (some ⟨g5,0,none⟩) (0+1) cap5).ownBlock=some g->w.heap.size<=g:=fun g hg=>by
   have e:g5=g:=Option.some.inj hg;have h:=HA5.out
   rcases h with h | h
   ·cases h
   ·omega
 all_goals have g2F:Gs (Two b Bm) w (apW Bm w5 g5 0 cap5):=(((G03.out.trans GO4.out.two).alloc _).grown HG5.out (fun g e=>by cases e)).set _ _ (.inl (.inr rfl))
 all_goals clear ND4 GC4 GO4 PC4 NC4 HO5 HG5 HA5 OW4 HE4 KB5
 all_goals go_wp2_with fail
 all_goals go_end0
 all_goals
  obtain⟨ndF,gF,pF,kdF⟩:=hR.fin rfl hb0 (qC ND3.out.node) GW3.out.size (fun g hg=>by cases hg);exact⟨⟨_,rfl⟩,g2F,pF,_,_,ndF,rfl,hfr,gF,fun t j hX=>kdF .nil t j hX KdM.nil⟩
theorem zYs (P:Px9 V0 v l b) (Sf Mf:Nat->Rs Tr) (hS:kB l Sf) (hM:kB l Mf) (i:Nat) (e:Int) (hi:i<=l.length)
  (cS:∀s:SS,s.1<=l.length->(s.2=0->e=0/\i<s.1)->FnAt V0 v b 24 #[.agg #[.pointer (some ⟨b,0,none⟩)]] Sf s) (cM:∀s:SS,s.1<=l.length->(s.2=0->e=0/\i<s.1)->FnAt V0 v b 21 #[.agg #[.pointer (some ⟨b,0,none⟩)]] Mf s) :
  FnAt V0 v b 87 #[.agg #[.pointer (some ⟨b,0,none⟩)]] (nI B.nck l Mf Sf) (i,e):=fun w hu h=>by
 have hb:b<w.heap.size:=qC h;have hbV:=P.Q.hb;have hll:=P.Q.hl;obtain⟨W0,hW0⟩:∃W0,w.alloc (.cells #[.pointer (some ⟨b,0,none⟩)] 51)=W0:=⟨_,rfl⟩;have u0:Up w W0:=by rw[<- hW0];exact(Up.refl w).alloc _
 have b1:W0.heap[w.heap.size]? = some (.cells #[.pointer (some ⟨b,0,none⟩)] 51 (0,0)):=by rw[<- hW0];exact heap_alloc_new w _
 have hgU:∀w',Gs (On b) W0 w'->Up V0 w':=fun w' g=>g.up (hu.trans u0) fun q hq=>by rw[hq];exact hbV
 have hgB:∀w',Gs (On b) W0 w'->w'.cell? ⟨w.heap.size,0,none⟩=some (.pointer (some ⟨b,0,none⟩)):=fun w' g=>cell_of_row w' w.heap.size 0 _ _ _ (g.row b1 (by unfold On;omega))
 have hzW0:W0.heap.size=w.heap.size+1:=by rw[<- hW0];simp
 have k0:=hgB W0 (Gs.refl _ _);have p0:=h.up u0;have hl1:=kJ l B.nck (s:=(i,e)) hi;obtain⟨G,hG⟩:∃G,at0 (nI B.nck l Mf Sf) (i,e)=G:=⟨_,rfl⟩;have hG1:=hG.symm;unfold nI at hG1;obtain⟨d0,hd0⟩:∃d:Tr,nd 0 nob .nil=d:=⟨_,rfl⟩;rw[yJ,jB,yJ] at hG1;have n1:=mG (l:=tks l) (p:=B.nck) (s:=(i,e));obtain⟨s1,hs1⟩:∃s1,nS B.nck (tks l) (i,e)=s1:=⟨_,rfl⟩;have c1:=xK P i e hi W0 p0 (hgU W0 (Gs.refl _ _));obtain⟨nm,hnm⟩:∃nm,nmS (nam B.nck (tks l) i) e=nm:=⟨_,rfl⟩;rw[hs1] at c1 hl1 hG1 n1;rw[hnm] at c1;rw[show nmS (nam B.nck (tks l) (i,e).1) (i,e).2=nm from hnm] at hG1;have hl2:=zI l kOpen hl1;have n2:=yP (l:=tks l) (x:=kOpen) (s:=s1);obtain⟨s2,hs2⟩:∃s,kS (tks l) kOpen s1=s:=⟨_,rfl⟩;rw[hs2] at hl2 hG1 n2;have hl3:=kJ l B.nck hl2;have n3:=mG (l:=tks l) (p:=B.nck) (s:=s2);obtain⟨s3,hs3⟩:∃s,nS B.nck (tks l) s2=s:=⟨_,rfl⟩;obtain⟨mk,hmk⟩:∃n,nmS (nam B.nck (tks l) s2.1) s2.2=n:=⟨_,rfl⟩;rw[hs3] at hl3 hG1 n3;rw[hmk,yA (R:=behR l qH Sf) (d:=d0) (fun _=>(vM hS qH).ne hl3),wL] at hG1;have hlc:=zI l qH hl3;have nc:=yP (l:=tks l) (x:=qH) (s:=s3);have h00:=xX (l:=l) hS hlc;have hlx:=rK (l:=l) hS hlc;have hcS:=cS (kS (tks l) qH s3) hlc fun h0=>by
  obtain⟨a1,b1⟩:=nc h0;obtain⟨a2,b2⟩:=n3 a1;obtain⟨a3,b3⟩:=n2 a2;obtain⟨a4,b4⟩:=n1 a3;exact⟨a4,by have b4:i<s1.1:=b4;omega⟩
 obtain⟨X,hX⟩:∃X,at0 Sf (kS (tks l) qH s3)=X:=⟨_,rfl⟩;rw[hX] at hG1 h00 hlx;rw[jB] at hG1;have hl4:=zI l kShut hlx;have n4:=yP (l:=tks l) (x:=kShut) (s:=stO X);obtain⟨s4,hs4⟩:∃s,kS (tks l) kShut (stO X)=s:=⟨_,rfl⟩;rw[hs4] at hl4 hG1 n4;rw[yA (R:=behR l kEq Mf) (d:=d0) (fun _=>(vM hM kEq).ne hl4),wL] at hG1;have hle:=zI l kEq hl4;have ne:=yP (l:=tks l) (x:=kEq) (s:=s4);have h05:=xX (l:=l) hM hle;have back:s4.2=0->e=0/\i<s4.1/\∃a,X = .inl (a,(stO X).1):=fun h0=>by
  obtain⟨a0,b0⟩:=n4 h0;obtain⟨ax,bx,cx⟩:=h00 a0;obtain⟨a1,b1⟩:=nc ax;obtain⟨a2,b2⟩:=n3 a1;obtain⟨a3,b3⟩:=n2 a2;obtain⟨a4,b4⟩:=n1 a3;exact⟨a4,by have b4:i<s1.1:=b4;omega,cx⟩
 have hcM:=cM (kS (tks l) kEq s4) hle fun h0=>by
  obtain⟨a1,b1⟩:=ne h0;obtain⟨a2,b2,-⟩:=back a1;exact⟨a2,by omega⟩
 have cB:=mH P 21 #[.agg #[.pointer (some ⟨b,0,none⟩)]] #[] _ (by simp) zWl Mf kEq s4.1 s4.2 hl4 hcM;obtain⟨Y,hY⟩:∃Y,at0 Mf (kS (tks l) kEq s4)=Y:=⟨_,rfl⟩;rw[hY] at hG1 h05;rw[show at0 Mf (kS (tks l) kEq (s4.1,s4.2))=Y from hY] at cB;rw[hG];have cU:=fun(nm:ByteArray) (B1 B2 Bm:Nat) (W0 w:World) hn1 hn2 hn3 hn4 hn5 hb0 c1 c2 nd gW h hu hVW=>zQ7 P Sf s2 hl2 nm B1 B2 Bm W0 w hn1 hn2 hn3 hn4 hn5 hb0 c1 c2 nd gW h hu hVW (by rw[hs3];exact hcS)
 rw[hs3,hmk,hX] at cU;have e2:neI s1.1 (tkB (tks l) s1.1 s1.2 kOpen)=s2.1:=congrArg Prod.fst hs2;have e3:neE s1.2 (tkB (tks l) s1.1 s1.2 kOpen)=s2.2:=congrArg Prod.snd hs2;have e4:neI (stO X).1 (tkB (tks l) (stO X).1 (stO X).2 kShut)=s4.1:=congrArg Prod.fst hs4;have e5:neE (stO X).2 (tkB (tks l) (stO X).1 (stO X).2 kShut)=s4.2:=congrArg Prod.snd hs4;have HG1:=Lib.hid hG1;have CB:=Lib.hid cB;have CU:=Lib.hid cU;have BACK:=Lib.hid back;have H05:=Lib.hid h05;have E2:=Lib.hid e2;have E3:=Lib.hid e3;have E4:=Lib.hid e4;have E5:=Lib.hid e5;obtain⟨i0,hi0,hz0,hz1,hz2⟩:=info_parts xT;have HPX:=Lib.hid P;have HGU:=Lib.hid hgU;have HGB:=Lib.hid hgB;have HW0:=Lib.hid hW0;have U0:=Lib.hid u0;have B1:=Lib.hid b1;have P0:=Lib.hid p0;clear hW0 u0 b1 h hu P hgU hgB p0;clear hG hG1 hs1 hs2 hs3 hs4 hnm hmk cB cU back h00 h05 hX hY e2 e3 e4 e5 n1 n2 n3 n4 nc ne hcS hcM cS cM
 go_enter Tryz.func87,Tryz.ntmps87
 go_wp2_with fail;rw[HW0.out];refine c1.mono ?_;rintro en w1 ⟨rfl,g1,p1⟩;have k1:=HGB.out w1 g1;have G1:=Lib.hid g1;have P1:=Lib.hid p1;clear g1 p1 c1;go_wp2_with fail;refine(jH 75 nm none 0 0 w1).mono ?_;rintro en w2 ⟨rfl,hw2⟩;have zz:=G1.out.size;have u2:Up w1 w2:=by rw[hw2];exact(Up.refl _).alloc _
 have nb2:NdM W0 w2 w1.heap.size ⟨75,0,nm,nob⟩ (.slice none 0 0) []:=by rw[hw2];exact NdM.new (x:=⟨75,0,nm,nob⟩) zz
 have g2:=G1.out.trans (Gs.of u2);have k2:=HGB.out w2 g2;have hzw2:w2.heap.size=w1.heap.size+1:=by rw[hw2];simp
 have U2:=Lib.hid u2;have NB2:=Lib.hid nb2;have G2:=Lib.hid g2;obtain⟨w3,hw3⟩:∃x,w2.alloc (.cells #[.pointer (some ⟨w1.heap.size,0,none⟩)] 24)=x:=⟨_,rfl⟩;have u3:Up w2 w3:=by rw[<- hw3];exact(Up.refl _).alloc _
 have k3:(w2.alloc (.cells #[.pointer (some ⟨w1.heap.size,0,none⟩)] 24)).cell? ⟨w.heap.size,0,none⟩=some (.pointer (some ⟨b,0,none⟩)):=by rw[hw3];exact u3.cell k2
 have b3:w3.heap[w1.heap.size+1]? = some (.cells #[.pointer (some ⟨w1.heap.size,0,none⟩)] 24 (0,0)):=by rw[<- hw3];exact yU w2 _ hzw2
 have g3:=G2.out.trans (Gs.of u3);have nd3:=NB2.out.up u3;have p3:=(P1.out.up U2.out).up u3;have hzw3:w3.heap.size=w1.heap.size+2:=by rw[<- hw3];simp;omega
 have hV0:=HGU.out W0 (Gs.refl _ _);have hVz:=hV0.size;have cBt:=zJ (W0:=V0) (l:=tks l) b v s1.1 s1.2 kOpen kShut 131 #[.pointer (some ⟨w.heap.size,0,none⟩),.pointer (some ⟨w1.heap.size+1,0,none⟩)] (fun _ _=>by kernel_rfl) (Two b w1.heap.size) (fun q hq=>by rcases hq with hq | hq<;>omega) hbV (stO X).1 (stO X).2 (P8 b W0 w1.heap.size w3.heap.size ⟨75,0,nm,mk⟩ X) w3
  HPX.out.Q.T p3 (HGU.out w3 g3) (by omega) (by omega) (fun w5 g5 p5=>by
   rw[E2.out,E3.out] at p5;have z5:=g5.size;refine(CU.out nm w.heap.size (w1.heap.size+1) w1.heap.size W0 w5 (by omega) (by omega) (by omega) (by omega) (by omega) (by omega) ((g3.trans g5).row B1.out (by unfold On;omega)) (g5.row b3 (by unfold On;omega)) (nd3.gs g5 (fun k hk=>by unfold On at hk;omega)) (g3.trans g5) p5 (HGU.out w5 (g3.trans g5)) hVz).mono fun en w6 hI=>?_
   obtain⟨h1,h2,h3,vk,ps,h4,h5,h6,h7,h8⟩:=hI;exact⟨h1,h2,h3,vk,ps,h4,h5,fun g hg=>by have:=h6 g hg;omega,h7,h8⟩)
 rw[E4.out,E5.out] at cBt;have HB3:=Lib.hid b3;have HW3:=Lib.hid hw3;clear u2 nb2 g2 hw2 u3 b3 g3 nd3 p3 hw3 CU E2 E3 E4 E5;go_wp2_with fail;rw[HW3.out];refine cBt.mono ?_;rintro en w4 ⟨⟨u,rfl⟩,w5,w6,g5,g6,⟨vk,ps,nd6,hlen,hfr,gW6,kd6⟩,g7,p4⟩;have nd4:=nd6.gs g7 (fun k hk=>by unfold On at hk;omega);have kd4:∀t j,X = .inl (t,j)->KdM W0 w4 w1.heap.size vk ps (fr1 t):=fun t j h=>(kd6 t j h).gs g7 (fun k hk=>by unfold On at hk;omega)
 have gW4:=gW6.trans g7;have k1:=HGB.out w4 gW4;have b4:=g7.row (g6.row (g5.row HB3.out (by unfold On;omega)) (by unfold Two;omega)) (by unfold On;omega);have k2:w4.cell? ⟨w1.heap.size+1,0,none⟩=some (.pointer (some ⟨w1.heap.size,0,none⟩)):=cell_of_row w4 _ 0 _ _ _ b4;have hb4:=qC b4;have c4:=nd4.node.cell.1;have u4:=HGU.out w4 gW4;have CB4:Hid (∀w',Up w4 w'->Calls Tryz.prog 47 #[.agg #[.pointer (some ⟨b,0,none⟩)],.string kEq,.func (.func 21) #[.agg #[.pointer (some ⟨b,0,none⟩)]] #[]] w' (PaT (On b) b v Y (fun _ _=>True) w')):=Lib.hid fun w' u=>CB.out w' (u4.trans u) (p4.up u)
 have HNL7:=Lib.hid hlen;have hne:∀k,k<w3.heap.size->vk.ownBlock≠some k:=fun k hk e=>by have:=hfr k e;omega
 obtain⟨B1,hB1⟩:∃x,w.heap.size=x:=⟨_,rfl⟩;obtain⟨Bm,hBm⟩:∃x,w1.heap.size=x:=⟨_,rfl⟩;rw[hB1] at k1;rw[hBm] at k2 nd4 kd4 c4 hzw3;obtain⟨B2,hB2⟩:∃x,Bm+1=x:=⟨_,rfl⟩;rw[hB2] at k2;have hW0B:W0.heap.size=B1+1:=by omega
 have hBB:W0.heap.size<=Bm:=by omega
 have HEND:Hid (∀(A:Option Addr) (w7 w8:World) (g cap:Nat),ApR b v W0 w4 Bm ⟨75,0,nm,mk⟩ vk ps 1 Y A w7 w8 g cap->PaT (On b) b v G (fun _ _=>True) w (.returned (.pointer (some ⟨Bm,0,none⟩))) (apW Bm w8 g 1 cap)):=Lib.hid fun A w7 w8 g cap hR=>by
  obtain⟨ndF,gF,pF,kdF⟩:=hR.fin hlen (by omega) (qC nd4.node) gW4.size fun g hg=>(World.ownsRow.lt nd4.own g hg).2
  rw[HG1.out];have est:=qY ((⟨75,0,nm,mk⟩,fr2 (valD d0 X) (valD d0 Y)):Tr) (stO Y);refine PaT.mk ((Gs.of U0.out).trans gF) (by rw[show rI _=_ from congrArg Prod.fst est,show rE _=_ from congrArg Prod.snd est];exact pF) fun t j ht=>?_
  obtain⟨h0,rfl⟩:=yY _ _ ht;obtain⟨h5,-,a,ha⟩:=H05.out h0;obtain⟨-,-,c,hc⟩:=BACK.out (yP h5).1;rw[yD _ ha,yD _ hc];exact(ndF.tree (kdF (fr1 c) a _ ha (kd4 c _ hc))).base U0.out.size
 have ND4:=Lib.hid nd4;have GW4:=Lib.hid gW4;have HNE:=Lib.hid hne;rw[hB1,hBm,hB2];have q21:=And.intro k2 k1;clear nd6 gW6 kd6 g5 g6 g7 p4 nd4 kd4 gW4 b4 u4 hfr hne hlen cBt CB HB3;go_wp2_with fail;refine wp_region_held_drew (S:=fun w'=>w'.cell? ⟨B2,0,none⟩=some (.pointer (some ⟨Bm,0,none⟩))/\w'.cell? ⟨B1,0,none⟩=some (.pointer (some ⟨b,0,none⟩))) (by kernel_rfl) (q21) (fun hHeld=>?_);refine wpAnyH_take (i:=0) (oi:={dst:=some 12,op:=Op.load 24 (Operand.tmp 3),type:=24,pos:= "parse.go:171",after:=#[],guard:=none}) (v:=?_) rfl (by kernel_rfl) (by kernel_rfl) (by kernel_rfl) (fun _ _ _ h=>h) (Or.inl ⟨by rfl,?_⟩) (by assumption) ?_
 rotate_left
 ·(intro w' hSw;(try dsimp only at hSw);go_simp;with_reducible rfl)
 (try simp only[Act.put,List.setIfInBounds_toArray,List.set_cons_zero,List.set_cons_succ])
 refine wpAnyH_take (i:=1) (oi:={dst:=some 13,op:=Op.load 24 (Operand.tmp 3),type:=24,pos:= "parse.go:171",after:=#[],guard:=none}) (v:=?_) rfl (by kernel_rfl) (by kernel_rfl) (by kernel_rfl) (fun _ _ _ h=>h) (Or.inl ⟨by rfl,?_⟩) (by assumption) ?_
 rotate_left
 ·(intro w' hSw;(try dsimp only at hSw);go_simp;with_reducible rfl)
 (try simp only[Act.put,List.setIfInBounds_toArray,List.set_cons_zero,List.set_cons_succ])
 refine wpAnyH_take (i:=2) (oi:={dst:=some 14,op:=Op.nilCheck (Operand.tmp 13),type:=0,pos:= "parse.go:171",after:=#[{on:=1,ground:=Ground.data}],guard:=none}) (v:=?_) rfl (by kernel_rfl) (by kernel_rfl) (by kernel_rfl) (fun _ _ _ h=>h) (Or.inl ⟨by rfl,?_⟩) (by assumption) ?_
 rotate_left
 ·(intro w' hSw;(try dsimp only at hSw);go_simp;with_reducible rfl)
 (try simp only[Act.put,List.setIfInBounds_toArray,List.set_cons_zero,List.set_cons_succ])
 refine wpAnyH_take (i:=3) (oi:={dst:=some 15,op:=Op.fieldAddr 44 (Operand.tmp 14) 4,type:=0,pos:= "parse.go:171",after:=#[{on:=2,ground:=Ground.data}],guard:=none}) (v:=?_) rfl (by kernel_rfl) (by kernel_rfl) (by kernel_rfl) (fun _ _ _ h=>h) (Or.inl ⟨by rfl,?_⟩) (by assumption) ?_
 rotate_left
 ·(intro w' hSw;(try dsimp only at hSw);go_simp;with_reducible rfl)
 (try simp only[Act.put,List.setIfInBounds_toArray,List.set_cons_zero,List.set_cons_succ])
 refine wpAnyH_take (i:=5) (oi:={dst:=some 17,op:=Op.load 51 (Operand.tmp 1),type:=51,pos:= "parse.go:171",after:=#[],guard:=none}) (v:=?_) rfl (by kernel_rfl) (by kernel_rfl) (by kernel_rfl) (fun _ _ _ h=>h) (Or.inl ⟨by rfl,?_⟩) (by assumption) ?_
 rotate_left
 ·(intro w' hSw;(try dsimp only at hSw);go_simp;with_reducible rfl)
 (try simp only[Act.put,List.setIfInBounds_toArray,List.set_cons_zero,List.set_cons_succ])
 refine wpAnyH_take (i:=6) (oi:={dst:=some 18,op:=Op.load 51 (Operand.tmp 1),type:=51,pos:= "parse.go:171",after:=#[],guard:=none}) (v:=?_) rfl (by kernel_rfl) (by kernel_rfl) (by kernel_rfl) (fun _ _ _ h=>h) (Or.inl ⟨by rfl,?_⟩) (by assumption) ?_
 rotate_left
 ·(intro w' hSw;(try dsimp only at hSw);go_simp;with_reducible rfl)
 (try simp only[Act.put,List.setIfInBounds_toArray,List.set_cons_zero,List.set_cons_succ])
 refine wpAnyH_take (i:=7) (oi:={dst:=some 19,op:=Op.makeFunc (Fn.func 21) #[Operand.tmp 18] #[],type:=52,pos:= "parse.go:171",after:=#[{on:=6,ground:=Ground.data}],guard:=none}) (v:=?_) rfl (by kernel_rfl) (by kernel_rfl) (by kernel_rfl) (fun _ _ _ h=>h) (Or.inl ⟨by rfl,?_⟩) (by assumption) ?_
 rotate_left
 ·(intro w' hSw;(try dsimp only at hSw);go_simp;with_reducible rfl)
 (try simp only[Act.put,List.setIfInBounds_toArray,List.set_cons_zero,List.set_cons_succ])
 refine wpAnyH_ready (rs:=[4,8]) (by kernel_rfl) (by simp) (AllReadyH.cons (o:={dst:=some 16,op:=Op.load 33 (Operand.tmp 15),type:=33,pos:= "parse.go:171",after:=#[{on:=3,ground:=Ground.data}],guard:=none}) rfl (fun K hK=>?_) (AllReadyH.cons (o:={dst:=some 20,op:=Op.call {callee:=Callee.value (Operand.func 47),args:=#[Operand.tmp 17,Operand.const (Value.string {data:=#[61]}),Operand.tmp 19],argTypes:=#[51,9,52]},type:=24,pos:= "parse.go:171",after:=#[{on:=5,ground:=Ground.data},{on:=7,ground:=Ground.data}],guard:=none}) rfl (fun K hK=>?_) AllReadyH.nil))
 go_simp
 refine hK.out _ _ (by assumption) (fun hHeld=>?_);clear hK K
 (try simp only[Act.put,List.setIfInBounds_toArray,List.set_cons_zero,List.set_cons_succ])
 refine wpAnyH_ready (rs:=[8]) (by kernel_rfl) (by simp) (AllReadyH.cons (o:={dst:=some 20,op:=Op.call {callee:=Callee.value (Operand.func 47),args:=#[Operand.tmp 17,Operand.const (Value.string {data:=#[61]}),Operand.tmp 19],argTypes:=#[51,9,52]},type:=24,pos:= "parse.go:171",after:=#[{on:=5,ground:=Ground.data},{on:=7,ground:=Ground.data}],guard:=none}) rfl (fun K hK=>?_) AllReadyH.nil)
 go_simp
 go_at_call 47
 refine(CB4.out _ (by first | exact Below.refl _ _ | exact qE (Below.refl _ _) 1)).mono ?_
 rintro e9 w7 hP;obtain⟨A7,rfl,g9,p9,n9⟩:=hP.psr;have g9:Gs (On b) w4 w7:=⟨g9.os,g9.tape,g9.output,g9.size,g9.block⟩;have n9:∀t j,Y = .inl (t,j)->NewT w4 w7 (.pointer A7) t:=n9;have zc7:=g9.size;have nd9:=ND4.out.gs g9 (fun k hk=>by unfold On at hk;omega);have r9:w7.cell? ⟨B2,0,none⟩=some (.pointer (some ⟨Bm,0,none⟩))/\w7.cell? ⟨B1,0,none⟩=some (.pointer (some ⟨b,0,none⟩)):=⟨g9.cell k2 (by show ¬(B2=b);omega),g9.cell k1 (by show ¬(B1=b);omega)⟩;have c7:=nd9.node.cell.1;have u9:=(Up.refl w7).alloc (.cells #[.pointer A7] 24);have ka7:(w7.alloc (.cells #[.pointer A7] 24)).cell? ⟨B2,0,none⟩=some (.pointer (some ⟨Bm,0,none⟩))/\(w7.alloc (.cells #[.pointer A7] 24)).cell? ⟨B1,0,none⟩=some (.pointer (some ⟨b,0,none⟩)):=⟨u9.cell r9.1,u9.cell r9.2⟩;have ca7:=u9.cell c7;have ow9:=(nd9.up u9).own;rw[HNL7.out] at ow9;have OW7:=Lib.hid ow9;have ND7:=Lib.hid (nd9.up u9);have GC7:=Lib.hid (GW4.out.trans g9);have GO7:=Lib.hid g9;have PC7:=Lib.hid p9;have NC7:=Lib.hid n9;have HE7:=Lib.hid (cell_one_new w7 (.pointer A7) 24);have hza7:(w7.alloc (.cells #[.pointer A7] 24)).heap.size=w7.heap.size+1:=by simp
 have hzb7:W0.heap.size<=(w7.alloc (.cells #[.pointer A7] 24)).heap.size:=by have:=GC7.out.size;omega
 clear g9 p9 n9 nd9 u9 ow9 hP;go_wp2_with fail;refine hK.out _ _ r9 (fun hHeld=>?_);clear hK K
 (try simp only[Act.put,List.setIfInBounds_toArray,List.set_cons_zero,List.set_cons_succ])
 refine wpAnyH_ready (rs:=[9]) (by kernel_rfl) (by simp) (AllReadyH.cons (o:={dst:=some 21,op:=Op.buildSlice 33 1 #[(0,Operand.tmp 20)],type:=33,pos:= "parse.go:171",after:=#[{on:=8,ground:=Ground.data}],guard:=none}) rfl (fun K hK=>?_) AllReadyH.nil)
 go_simp
 refine hK.out _ _ (ka7) (fun hHeld=>?_);clear hK K
 (try simp only[Act.put,List.setIfInBounds_toArray,List.set_cons_zero,List.set_cons_succ])
 rotate_left
 go_simp
 go_at_call 47
 refine(CB4.out _ (by first | exact Below.refl _ _ | exact qE (Below.refl _ _) 1)).mono ?_
 rintro e9 w7 hP;obtain⟨A7,rfl,g9,p9,n9⟩:=hP.psr;have g9:Gs (On b) w4 w7:=⟨g9.os,g9.tape,g9.output,g9.size,g9.block⟩;have n9:∀t j,Y = .inl (t,j)->NewT w4 w7 (.pointer A7) t:=n9;have zc7:=g9.size;have nd9:=ND4.out.gs g9 (fun k hk=>by unfold On at hk;omega);have r9:w7.cell? ⟨B2,0,none⟩=some (.pointer (some ⟨Bm,0,none⟩))/\w7.cell? ⟨B1,0,none⟩=some (.pointer (some ⟨b,0,none⟩)):=⟨g9.cell k2 (by show ¬(B2=b);omega),g9.cell k1 (by show ¬(B1=b);omega)⟩;have c7:=nd9.node.cell.1;have u9:=(Up.refl w7).alloc (.cells #[.pointer A7] 24);have ka7:(w7.alloc (.cells #[.pointer A7] 24)).cell? ⟨B2,0,none⟩=some (.pointer (some ⟨Bm,0,none⟩))/\(w7.alloc (.cells #[.pointer A7] 24)).cell? ⟨B1,0,none⟩=some (.pointer (some ⟨b,0,none⟩)):=⟨u9.cell r9.1,u9.cell r9.2⟩;have ca7:=u9.cell c7;have ow9:=(nd9.up u9).own;rw[HNL7.out] at ow9;have OW7:=Lib.hid ow9;have ND7:=Lib.hid (nd9.up u9);have GC7:=Lib.hid (GW4.out.trans g9);have GO7:=Lib.hid g9;have PC7:=Lib.hid p9;have NC7:=Lib.hid n9;have HE7:=Lib.hid (cell_one_new w7 (.pointer A7) 24);have hza7:(w7.alloc (.cells #[.pointer A7] 24)).heap.size=w7.heap.size+1:=by simp
 have hzb7:W0.heap.size<=(w7.alloc (.cells #[.pointer A7] 24)).heap.size:=by have:=GC7.out.size;omega
 clear g9 p9 n9 nd9 u9 ow9 hP;go_wp2_with fail;refine hK.out _ _ r9 (fun hHeld=>?_);clear hK K
 (try simp only[Act.put,List.setIfInBounds_toArray,List.set_cons_zero,List.set_cons_succ])
 refine wpAnyH_ready (rs:=[4,9]) (by kernel_rfl) (by simp) (AllReadyH.cons (o:={dst:=some 16,op:=Op.load 33 (Operand.tmp 15),type:=33,pos:= "parse.go:171",after:=#[{on:=3,ground:=Ground.data}],guard:=none}) rfl (fun K hK=>?_) (AllReadyH.cons (o:={dst:=some 21,op:=Op.buildSlice 33 1 #[(0,Operand.tmp 20)],type:=33,pos:= "parse.go:171",after:=#[{on:=8,ground:=Ground.data}],guard:=none}) rfl (fun K hK=>?_) AllReadyH.nil))
 go_simp
 refine hK.out _ _ (by assumption) (fun hHeld=>?_);clear hK K
 (try simp only[Act.put,List.setIfInBounds_toArray,List.set_cons_zero,List.set_cons_succ])
 refine wpAnyH_ready (rs:=[9]) (by kernel_rfl) (by simp) (AllReadyH.cons (o:={dst:=some 21,op:=Op.buildSlice 33 1 #[(0,Operand.tmp 20)],type:=33,pos:= "parse.go:171",after:=#[{on:=8,ground:=Ground.data}],guard:=none}) rfl (fun K hK=>?_) AllReadyH.nil)
 go_simp
 refine hK.out _ _ (ka7) (fun hHeld=>?_);clear hK K
 (try simp only[Act.put,List.setIfInBounds_toArray,List.set_cons_zero,List.set_cons_succ])
 rotate_left
 go_simp
 refine hK.out _ _ (ka7) (fun hHeld=>?_);clear hK K
 (try simp only[Act.put,List.setIfInBounds_toArray,List.set_cons_zero,List.set_cons_succ])
 refine wpAnyH_ready (rs:=[4]) (by kernel_rfl) (by simp) (AllReadyH.cons (o:={dst:=some 16,op:=Op.load 33 (Operand.tmp 15),type:=33,pos:= "parse.go:171",after:=#[{on:=3,ground:=Ground.data}],guard:=none}) rfl (fun K hK=>?_) AllReadyH.nil)
 go_simp
 refine hK.out _ _ (by assumption) (fun hHeld=>?_);clear hK K
 (try simp only[Act.put,List.setIfInBounds_toArray,List.set_cons_zero,List.set_cons_succ])
 all_goals
  refine wpAnyH_ready (rs:=[10]) (by kernel_rfl) (by simp) (AllReadyH.cons (o:={dst:=some 22,op:=Op.call {callee:=Callee.builtin Builtin.append,args:=#[Operand.tmp 16,Operand.tmp 21],argTypes:=#[33,33]},type:=33,pos:= "parse.go:171",after:=#[{on:=4,ground:=Ground.data},{on:=9,ground:=Ground.data},{on:=8,ground:=Ground.chain}],guard:=none}) rfl (fun K hK=>?_) AllReadyH.nil);refine step_append_lies _ (by rfl) _ _ _ (by rfl) W0.heap.size 24 i0 _ 1 8 Tryz.underlying33 hi0 hz0 hz1 hz2 rfl (by omega) vk 1 ps (by rfl) OW7.out ⟨w7.heap.size,0,none⟩ 1 1 [.pointer A7] (by rfl) (by rfl) HE7.out (by intro u hu;rw[List.mem_singleton.1 hu];rfl) (by omega) (by unfold maxLen;omega) (by omega) hzb7 (w7.heap.size+1) hza7 ?_;intro g8 cap8 w8 ho9 hg9 hat9 hlt9;have nb9:=mJ ND7.out hg9;have c8:=nb9.cell.1;have f8:=nb9.cell.2;have hb8:=qC nb9;have kb9:w8.cell? ⟨B2,0,none⟩=some (.pointer (some ⟨Bm,0,none⟩))/\w8.cell? ⟨B1,0,none⟩=some (.pointer (some ⟨b,0,none⟩)):=⟨(World.cell?_of_block (hg9.block B2 (zZ ka7.1) (fun e=>HNE.out B2 (by omega) e.symm))).trans ka7.1,(World.cell?_of_block (hg9.block B1 (zZ ka7.2) (fun e=>by have:=(World.ownsRow.lt OW7.out _ e.symm).1;omega))).trans ka7.2⟩;have HO8:=Lib.hid ho9;have HG8:=Lib.hid hg9;have HA8:=Lib.hid hat9;have KB8:=Lib.hid kb9;clear ho9 hg9 hat9 hlt9 nb9;refine hK.out _ _ (kb9) (fun hHeld=>?_);clear hK K
  (try simp only[Act.put,List.setIfInBounds_toArray,List.set_cons_zero,List.set_cons_succ])
  refine wpAnyH_take (i:=11) (oi:={dst:=some 23,op:=Op.nilCheck (Operand.tmp 12),type:=0,pos:= "parse.go:171",after:=#[{on:=0,ground:=Ground.data},{on:=0,ground:=Ground.phase},{on:=1,ground:=Ground.phase},{on:=2,ground:=Ground.phase},{on:=3,ground:=Ground.phase},{on:=4,ground:=Ground.phase},{on:=5,ground:=Ground.phase},{on:=6,ground:=Ground.phase},{on:=7,ground:=Ground.phase},{on:=8,ground:=Ground.phase},{on:=9,ground:=Ground.phase},{on:=10,ground:=Ground.phase}],guard:=none}) (v:=?_) rfl (by kernel_rfl) (by kernel_rfl) (by kernel_rfl) (fun _ _ _ h=>h) (Or.inl ⟨by rfl,?_⟩) (by assumption) ?_
  rotate_left
  ·(intro w' hSw;(try dsimp only at hSw);go_simp;with_reducible rfl)
  (try simp only[Act.put,List.setIfInBounds_toArray,List.set_cons_zero,List.set_cons_succ])
  refine wpAnyH_take (i:=12) (oi:={dst:=some 24,op:=Op.fieldAddr 44 (Operand.tmp 23) 4,type:=0,pos:= "parse.go:171",after:=#[{on:=11,ground:=Ground.data},{on:=0,ground:=Ground.phase},{on:=1,ground:=Ground.phase},{on:=2,ground:=Ground.phase},{on:=3,ground:=Ground.phase},{on:=4,ground:=Ground.phase},{on:=5,ground:=Ground.phase},{on:=6,ground:=Ground.phase},{on:=7,ground:=Ground.phase},{on:=8,ground:=Ground.phase},{on:=9,ground:=Ground.phase},{on:=10,ground:=Ground.phase}],guard:=none}) (v:=?_) rfl (by kernel_rfl) (by kernel_rfl) (by kernel_rfl) (fun _ _ _ h=>h) (Or.inl ⟨by rfl,?_⟩) (by assumption) ?_
  rotate_left
  ·(intro w' hSw;(try dsimp only at hSw);go_simp;with_reducible rfl)
  (try simp only[Act.put,List.setIfInBounds_toArray,List.set_cons_zero,List.set_cons_succ])
  refine wpAnyH_ready (rs:=[13]) (by kernel_rfl) (by simp) (AllReadyH.cons (o:={dst:=none,op:=Op.store 33 (Operand.tmp 24) (Operand.tmp 22),type:=0,pos:= "parse.go:171",after:=#[{on:=12,ground:=Ground.data},{on:=10,ground:=Ground.data},{on:=10,ground:=Ground.chain},{on:=0,ground:=Ground.phase},{on:=1,ground:=Ground.phase},{on:=2,ground:=Ground.phase},{on:=3,ground:=Ground.phase},{on:=4,ground:=Ground.phase},{on:=5,ground:=Ground.phase},{on:=6,ground:=Ground.phase},{on:=7,ground:=Ground.phase},{on:=8,ground:=Ground.phase},{on:=9,ground:=Ground.phase},{on:=10,ground:=Ground.phase}],guard:=none}) rfl (fun K hK=>?_) AllReadyH.nil)
  go_simp
  refine hK.out _ _ (⟨(World.cell?_setCell_far _ _ _ _ (fun e=>by simp only at e;omega)).trans KB8.out.1,(World.cell?_setCell_far _ _ _ _ (fun e=>by simp only at e;omega)).trans KB8.out.2⟩) (fun hHeld=>?_);clear hK K;refine wpAnyH_done (by kernel_rfl) ?_ _
 all_goals have hR:=HEND.out A7 w7 w8 g8 cap8 ⟨ND7.out,GC7.out,GO7.out,PC7.out,NC7.out,HO8.out,HG8.out,HA8.out⟩
 all_goals have kF:(w8.setCell ⟨Bm,4,none⟩ (.slice (some ⟨g8,0,none⟩) (1+1) cap8)).cell? ⟨B2,0,none⟩=some (.pointer (some ⟨Bm,0,none⟩)):=(World.cell?_setCell_far _ _ _ _ (fun e=>by simp only at e;omega)).trans KB8.out.1
 all_goals clear HEND ND7 GC7 GO7 PC7 NC7 HO8 HG8 HA8 OW7 HE7 KB8
 all_goals go_wp2_with fail
 all_goals go_ret
 all_goals exact hR
end
end Go.Proofs.YtgeghilbikljcaaGreatDoor
