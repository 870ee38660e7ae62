/-
  Layer 7, the program's arms: behind a node's kids.
-/
import Derived.Test.YtgeghilbikljcaaGreatDoorGj19
import Derived.Test.YtgeghilbikljcaaGreatDoorGj21
set_option maxHeartbeats 40000000
set_option maxRecDepth 100000
namespace Go.Proofs.YtgeghilbikljcaaGreatDoor
open Go.RowKit
def Thr (a b c:Nat) (q:Nat):Prop:=q=a\/q=b\/q=c
theorem PtF.both {w:World} {S:Nat->Prop}:∀{us vs:List Value} {f g:Fr},PtF w S us f->PtF w S vs g->PtF w S (us++vs) (f.app g)
 | [],_,.nil,_,_,k=>k
 | [],_,.cons _ _ _,_,h,_=>h.elim
 | _::_,_,.nil,_,h,_=>h.elim
 | _::us,_,.cons _ _ fs,_,h,k=>⟨h.1,PtF.both (us:=us) (f:=fs) h.2 k⟩
def PA (B0 Bn:Nat) (x:Nod) (C:Rs Fr) (T0:Fr->Prop) (w':World):Prop:=∃g cp ps,w'.ownsRow B0 24 1 (.slice (some ⟨g,0,none⟩) ps.length cp) ps.length ps/\Nb w' Bn x (.slice (some ⟨g,0,none⟩) ps.length cp)/\g≠Bn/\∀f0 f j,T0 f0->C = .inl (f,j)->PtF w' (fun q=>B0<=q/\q<w'.heap.size/\q≠Bn/\q≠g) ps (f0.app f)
theorem zQ0 {w w6 w7:World} {b Bn K B0 g6 cp6 g7 cap7 k0:Nat} {v vk u:Value} {x:Nod} {ps0 ps6:List Value} {C:Rs Fr} (_hb:b<w.heap.size) (hbn:b≠Bn) (hbK:b≠K) (hB0:b<B0) (hBn:Bn<w.heap.size) (hKn:K≠Bn) (hK:K<w.heap.size) (hBK:B0<=K) (_hB0w:B0<=w.heap.size)
  (hob:vk.ownBlock=some K) (hl0:ps0.length=k0) (G6:Gs (On b) w w6) (_hg6:w.heap.size<=g6) (hR:match C with
  | .inl (f,j)=>RwT w w6 (.slice (some ⟨g6,0,none⟩) ps6.length cp6) ps6 f/\Psr w6 b v j 0/\True
  | .inr (p,r)=>Psr w6 b v p r) (NB7:Nb w7 Bn x vk) (OW7:w7.ownsRow B0 24 1 (.slice (some ⟨g7,0,none⟩) (k0+ps6.length) cap7) (k0+ps6.length) (ps0++ps6)) (GR7:w6.grownBy w7 vk.ownBlock) (AT7:vk.ownBlock=some g7\/g7=w6.heap.size) :
  InL (Thr b Bn K) b v (rI C) (rE C) (PA B0 Bn x C fun f0=>PtF w (fun q=>B0<=q/\q<w.heap.size/\q≠Bn/\q≠K) ps0 f0) w (.returned u) (w7.setCell ⟨Bn,4,none⟩ (.slice (some ⟨g7,0,none⟩) (k0+ps6.length) cap7)):=by
 have z6:=G6.size;have z7:=GR7.size;have hgK:g7=K\/g7=w6.heap.size:=by
  rcases AT7 with h | h
  ·rw[hob] at h;injection h with h;exact .inl h.symm
  ·exact .inr h
 have h67:∀q,q<w6.heap.size->q≠K->w7.heap[q]? = w6.heap[q]?:=fun q hq hn=>GR7.block q hq fun e=>by rw[hob] at e;injection e with e;exact hn e
 obtain⟨WF,hWF⟩:∃WF,w7.setCell ⟨Bn,4,none⟩ (.slice (some ⟨g7,0,none⟩) (k0+ps6.length) cap7)=WF:=⟨_,rfl⟩;have gF:Gs (Thr b Bn K) w WF:=by
  rw[<- hWF];exact((G6.wide (S':=Thr b Bn K) fun k _ hq=>.inl hq).grown GR7 fun g hg=>by rw[hob] at hg;injection hg with hg;exact .inl (.inr (.inr hg.symm))).set _ _ (.inl (.inr (.inl rfl)))
 have nF:Nb WF Bn x (.slice (some ⟨g7,0,none⟩) (k0+ps6.length) cap7):=by rw[<- hWF];exact NB7.store _
 have hne:∀q,q≠Bn->WF.heap[q]? = w7.heap[q]?:=fun q hq=>by rw[<- hWF];exact Below.heap_setCell _ _ _ _ hq
 have zF:WF.heap.size=w7.heap.size:=by rw[<- hWF];simp[World.setCell]
 have oF:WF.ownsRow B0 24 1 (.slice (some ⟨g7,0,none⟩) (k0+ps6.length) cap7) (k0+ps6.length) (ps0++ps6):=by
  rw[<- hWF];exact jD OW7 _ _ fun g' e=>by injection e with e;subst e;simp only;omega
 rw[hWF];have hlen:(ps0++ps6).length=k0+ps6.length:=by rw[List.length_append,hl0]
 rw[<- hlen] at oF nF;have pr:∀{p:Nat} {r:Int},Psr w6 b v p r->Psr WF b v p r:=fun h=>((hne b hbn).trans (h67 b (by omega) hbK)).trans h
 refine⟨⟨_,rfl⟩,gF,?_,g7,cap7,_,oF,nF,by omega,fun f0 f j h0 hC=>?_⟩
 ·cases C with
  | inl r=>exact pr hR.2.1
  | inr r=>exact pr hR
 ·subst hC
  have hT:RwT w w6 (.slice (some ⟨g6,0,none⟩) ps6.length cp6) ps6 f:=hR.1;refine PtF.both (PtF.keep (fun q hq=>⟨hq.1,by have:=hq.2.1;omega,hq.2.2.1,by have:=hq.2.1;have:=hq.2.2.2;omega⟩) (fun q hq=>?_) h0) (PtF.keep (fun q hq=>by have h1:=hq.1.1;have h2:=hq.1.2;exact⟨by omega,by omega,by omega,by omega⟩) (fun q hq=>by have h1:=hq.1.1;have h2:=hq.1.2;exact(hne q (by omega)).trans (h67 q h2 (by omega))) hT);exact((hne q hq.2.2.1).trans (h67 q (by have:=hq.2.1;omega) hq.2.2.2)).trans (G6.block q hq.2.1 (by have:=hq.1;unfold On;omega))
section
variable {V0:World} {v:Value} {l:List Te} {b:Nat}
theorem zQ1 (_P:Px9 V0 v l b) (C:Rs Fr) (B1 B2 Bn K B0 k0:Nat) (x:Nod) (vk:Value) (ps0:List Value) (w:World) (hbn:b≠Bn) (hbK:b≠K) (hB0:b<B0) (hKn:K≠Bn) (hBK:B0<=K) (hB0w:B0<=w.heap.size) (h1b:B1≠b) (h2b:B2≠b) (h1n:B1≠Bn) (h1K:B1≠K) (h2K:B2≠K) (hob:vk.ownBlock=some K) (hk2:k0<=2) (hl0:ps0.length=k0)
  (c1:w.heap[B1]? = some (.cells #[.pointer (some ⟨Bn,0,none⟩)] 24 (0,0))) (c2:w.heap[B2]? = some (.cells #[.pointer (some ⟨b,0,none⟩)] 183 (0,0))) (nb:Nb w Bn x vk) (ow:w.ownsRow B0 24 1 vk k0 ps0) (hb:b<w.heap.size)
  (cR:∀w',Up w w'->Calls Tryz.prog 179 #[.pointer (some ⟨b,0,none⟩),.string kBar,.func (.func 235) #[.agg #[.pointer (some ⟨b,0,none⟩)]] #[]] w' (RowP (On b) b v C (fun _ _=>True) w')) :
  Calls Tryz.prog 234 #[.pointer (some ⟨B1,0,none⟩),.pointer (some ⟨B2,0,none⟩)] w (InL (Thr b Bn K) b v (rI C) (rE C) (PA B0 Bn x C fun f0=>PtF w (fun q=>B0<=q/\q<w.heap.size/\q≠Bn/\q≠K) ps0 f0) w):=by
 have k1:w.cell? ⟨B1,0,none⟩=some (.pointer (some ⟨Bn,0,none⟩)):=cell_of_row w B1 0 _ _ _ c1;have k2:w.cell? ⟨B2,0,none⟩=some (.pointer (some ⟨b,0,none⟩)):=cell_of_row w B2 0 _ _ _ c2;have c4:w.cell? ⟨Bn,4,none⟩=some vk:=nb.cell.1;have f4:w.frozen? ⟨Bn,4,none⟩=false:=nb.cell.2;have hb1:=qC c1;have hb2:=qC c2;have hbnw:=qC nb;have hKw:K<w.heap.size:=(ow.lt K hob).2;have h2n:B2≠Bn:=fun e=>by
  subst e;have h:=c2.symm.trans nb;injection h with h;injection h with h;exact absurd (show(1:Nat)=5 from congrArg Array.size h) (by decide)
 have HC1:=Lib.hid c1;have HC2:=Lib.hid c2;have HNB:=Lib.hid nb;have HOW:=Lib.hid ow;have HOB:=Lib.hid hob;have CR:=Lib.hid cR;have e1:some Bn≠vk.ownBlock:=fun e=>by rw[hob] at e;injection e with e;omega
 have e2:some B1≠vk.ownBlock:=fun e=>by rw[hob] at e;injection e with e;omega
 have e3:some B2≠vk.ownBlock:=fun e=>by rw[hob] at e;injection e with e;omega
 clear c1 c2 nb ow hob cR;obtain⟨i0,hi0,hz0,hz1,hz2⟩:=info_parts xT
 go_enter Tryz.func234,Tryz.ntmps234
 go_wp2_with fail;refine wp_region_held_drew (S:=fun w'=>w'.cell? ⟨B1,0,none⟩=some (.pointer (some ⟨Bn,0,none⟩))/\w'.cell? ⟨B2,0,none⟩=some (.pointer (some ⟨b,0,none⟩))) (by kernel_rfl) (by go_keep) (fun hHeld=>?_);refine wpAnyH_take (i:=0) (oi:={dst:=some 2,op:=.load 24 (.tmp 0),type:=24,pos:= "parse.go:63",after:=#[],guard:=none}) (v:=?_) rfl (by kernel_rfl) (by kernel_rfl) (by kernel_rfl) (fun _ _ _ h=>h) (Or.inl ⟨by rfl,?_⟩) (by assumption) ?_
 rotate_left
 ·(intro w' hSw;(try dsimp only at hSw);go_simp;with_reducible rfl)
 (try simp only[Act.put,List.setIfInBounds_toArray,List.set_cons_zero,List.set_cons_succ])
 refine wpAnyH_take (i:=1) (oi:={dst:=some 3,op:=.load 24 (.tmp 0),type:=24,pos:= "parse.go:63",after:=#[],guard:=none}) (v:=?_) rfl (by kernel_rfl) (by kernel_rfl) (by kernel_rfl) (fun _ _ _ h=>h) (Or.inl ⟨by rfl,?_⟩) (by assumption) ?_
 rotate_left
 ·(intro w' hSw;(try dsimp only at hSw);go_simp;with_reducible rfl)
 (try simp only[Act.put,List.setIfInBounds_toArray,List.set_cons_zero,List.set_cons_succ])
 refine wpAnyH_take (i:=2) (oi:={dst:=some 4,op:=.nilCheck (.tmp 3),type:=0,pos:= "parse.go:63",after:=#[{on:=1,ground:=.data}],guard:=none}) (v:=?_) rfl (by kernel_rfl) (by kernel_rfl) (by kernel_rfl) (fun _ _ _ h=>h) (Or.inl ⟨by rfl,?_⟩) (by assumption) ?_
 rotate_left
 ·(intro w' hSw;(try dsimp only at hSw);go_simp;with_reducible rfl)
 (try simp only[Act.put,List.setIfInBounds_toArray,List.set_cons_zero,List.set_cons_succ])
 refine wpAnyH_take (i:=3) (oi:={dst:=some 5,op:=.fieldAddr 44 (.tmp 4) 4,type:=0,pos:= "parse.go:63",after:=#[{on:=2,ground:=.data}],guard:=none}) (v:=?_) rfl (by kernel_rfl) (by kernel_rfl) (by kernel_rfl) (fun _ _ _ h=>h) (Or.inl ⟨by rfl,?_⟩) (by assumption) ?_
 rotate_left
 ·(intro w' hSw;(try dsimp only at hSw);go_simp;with_reducible rfl)
 (try simp only[Act.put,List.setIfInBounds_toArray,List.set_cons_zero,List.set_cons_succ])
 refine wpAnyH_take (i:=5) (oi:={dst:=some 7,op:=.fieldAddr 183 (.tmp 1) 0,type:=0,pos:= "parse.go:63",after:=#[],guard:=none}) (v:=?_) rfl (by kernel_rfl) (by kernel_rfl) (by kernel_rfl) (fun _ _ _ h=>h) (Or.inl ⟨by rfl,?_⟩) (by assumption) ?_
 rotate_left
 ·(intro w' hSw;(try dsimp only at hSw);go_simp;with_reducible rfl)
 (try simp only[Act.put,List.setIfInBounds_toArray,List.set_cons_zero,List.set_cons_succ])
 refine wpAnyH_take (i:=6) (oi:={dst:=some 8,op:=.load 49 (.tmp 7),type:=49,pos:= "parse.go:63",after:=#[{on:=5,ground:=.data}],guard:=none}) (v:=?_) rfl (by kernel_rfl) (by kernel_rfl) (by kernel_rfl) (fun _ _ _ h=>h) (Or.inl ⟨by rfl,?_⟩) (by assumption) ?_
 rotate_left
 ·(intro w' hSw;(try dsimp only at hSw);go_simp;with_reducible rfl)
 (try simp only[Act.put,List.setIfInBounds_toArray,List.set_cons_zero,List.set_cons_succ])
 refine wpAnyH_take (i:=7) (oi:={dst:=some 9,op:=.load 183 (.tmp 1),type:=183,pos:= "parse.go:63",after:=#[],guard:=none}) (v:=?_) rfl (by kernel_rfl) (by kernel_rfl) (by kernel_rfl) (fun _ _ _ h=>h) (Or.inl ⟨by rfl,?_⟩) (by assumption) ?_
 rotate_left
 ·(intro w' hSw;(try dsimp only at hSw);go_simp;with_reducible rfl)
 (try simp only[Act.put,List.setIfInBounds_toArray,List.set_cons_zero,List.set_cons_succ])
 refine wpAnyH_take (i:=8) (oi:={dst:=some 10,op:=.makeFunc (.func 235) #[.tmp 9] #[],type:=52,pos:= "parse.go:63",after:=#[{on:=7,ground:=.data}],guard:=none}) (v:=?_) rfl (by kernel_rfl) (by kernel_rfl) (by kernel_rfl) (fun _ _ _ h=>h) (Or.inl ⟨by rfl,?_⟩) (by assumption) ?_
 rotate_left
 ·(intro w' hSw;(try dsimp only at hSw);go_simp;with_reducible rfl)
 (try simp only[Act.put,List.setIfInBounds_toArray,List.set_cons_zero,List.set_cons_succ])
 refine wpAnyH_ready (rs:=[4,9]) (by kernel_rfl) (by simp) (AllReadyH.cons (o:={dst:=some 6,op:=.load 33 (.tmp 5),type:=33,pos:= "parse.go:63",after:=#[{on:=3,ground:=.data}],guard:=none}) rfl (fun K hK=>?_) (AllReadyH.cons (o:={dst:=some 11,op:=.call {callee:=.value (.func 179),args:=#[.tmp 8,.const (.string ⟨#[124]⟩),.tmp 10],argTypes:=#[49,9,52]},type:=33,pos:= "parse.go:63",after:=#[{on:=6,ground:=.data},{on:=8,ground:=.data}],guard:=none}) rfl (fun K hK=>?_) AllReadyH.nil))
 rotate_left
 go_simp
 go_at_call 179
 refine(CR.out _ (by first | exact Below.refl _ _ | exact qE (Below.refl _ _) 1)).mono ?_
 rintro e9 w6 ⟨vo6,ps6,rfl,⟨ho6,hpt6⟩,hp06,hpl6,g6,hR6⟩;have g6:Gs (On b) w w6:=⟨g6.os,g6.tape,g6.output,g6.size,g6.block⟩;obtain⟨n6,cp6,rfl,hbg6,hltg6⟩:=ho6.form hp06;have hbg6:w.heap.size<=n6:=hbg6;have hs6:=g6.size;have CL6:=Lib.hid (ho6.cells rfl);have NB6:=Lib.hid (show Nb w6 Bn x vk from g6.row HNB.out (by unfold On;omega));have T16:=Lib.hid (g6.row HC1.out (by unfold On;omega));have T26:=Lib.hid (g6.row HC2.out (by unfold On;omega));have n61:w6.cell? ⟨B1,0,none⟩=some (.pointer (some ⟨Bn,0,none⟩)):=cell_of_row w6 _ 0 _ _ _ T16.out;have n62:w6.cell? ⟨B2,0,none⟩=some (.pointer (some ⟨b,0,none⟩)):=cell_of_row w6 _ 0 _ _ _ T26.out;have n64:w6.cell? ⟨Bn,4,none⟩=some vk:=NB6.out.cell.1;have OW6:=Lib.hid (kY HOW.out g6 fun k hk=>by rw[hk];exact hB0);have HR6:=Lib.hid hR6;have G6:=Lib.hid g6;have PT6:=Lib.hid hpt6;clear g6 hR6 ho6 hpt6;go_wp2_with fail;refine hK.out _ _ ⟨n61,n62⟩ (fun hHeld=>?_);clear hK K
 (try simp only[Act.put,List.setIfInBounds_toArray,List.set_cons_zero,List.set_cons_succ])
 refine wpAnyH_ready (rs:=[4]) (by kernel_rfl) (by simp) (AllReadyH.cons (o:={dst:=some 6,op:=.load 33 (.tmp 5),type:=33,pos:= "parse.go:63",after:=#[{on:=3,ground:=.data}],guard:=none}) rfl (fun K hK=>?_) AllReadyH.nil)
 go_simp
 refine hK.out _ _ (by assumption) (fun hHeld=>?_);clear hK K
 (try simp only[Act.put,List.setIfInBounds_toArray,List.set_cons_zero,List.set_cons_succ])
 rotate_left
 go_simp
 refine hK.out _ _ (by assumption) (fun hHeld=>?_);clear hK K
 (try simp only[Act.put,List.setIfInBounds_toArray,List.set_cons_zero,List.set_cons_succ])
 refine wpAnyH_ready (rs:=[9]) (by kernel_rfl) (by simp) (AllReadyH.cons (o:={dst:=some 11,op:=.call {callee:=.value (.func 179),args:=#[.tmp 8,.const (.string ⟨#[124]⟩),.tmp 10],argTypes:=#[49,9,52]},type:=33,pos:= "parse.go:63",after:=#[{on:=6,ground:=.data},{on:=8,ground:=.data}],guard:=none}) rfl (fun K hK=>?_) AllReadyH.nil)
 go_simp
 go_at_call 179
 refine(CR.out _ (by first | exact Below.refl _ _ | exact qE (Below.refl _ _) 1)).mono ?_
 rintro e9 w6 ⟨vo6,ps6,rfl,⟨ho6,hpt6⟩,hp06,hpl6,g6,hR6⟩;have g6:Gs (On b) w w6:=⟨g6.os,g6.tape,g6.output,g6.size,g6.block⟩;obtain⟨n6,cp6,rfl,hbg6,hltg6⟩:=ho6.form hp06;have hbg6:w.heap.size<=n6:=hbg6;have hs6:=g6.size;have CL6:=Lib.hid (ho6.cells rfl);have NB6:=Lib.hid (show Nb w6 Bn x vk from g6.row HNB.out (by unfold On;omega));have T16:=Lib.hid (g6.row HC1.out (by unfold On;omega));have T26:=Lib.hid (g6.row HC2.out (by unfold On;omega));have n61:w6.cell? ⟨B1,0,none⟩=some (.pointer (some ⟨Bn,0,none⟩)):=cell_of_row w6 _ 0 _ _ _ T16.out;have n62:w6.cell? ⟨B2,0,none⟩=some (.pointer (some ⟨b,0,none⟩)):=cell_of_row w6 _ 0 _ _ _ T26.out;have n64:w6.cell? ⟨Bn,4,none⟩=some vk:=NB6.out.cell.1;have OW6:=Lib.hid (kY HOW.out g6 fun k hk=>by rw[hk];exact hB0);have HR6:=Lib.hid hR6;have G6:=Lib.hid g6;have PT6:=Lib.hid hpt6;clear g6 hR6 ho6 hpt6;go_wp2_with fail;refine hK.out _ _ ⟨n61,n62⟩ (fun hHeld=>?_);clear hK K
 (try simp only[Act.put,List.setIfInBounds_toArray,List.set_cons_zero,List.set_cons_succ])
 all_goals refine wpAnyH_ready (rs:=[10]) (by kernel_rfl) (by simp) (AllReadyH.cons (o:={dst:=some 12,op:=.call {callee:=.builtin .append,args:=#[.tmp 6,.tmp 11],argTypes:=#[33,33]},type:=33,pos:= "parse.go:63",after:=#[{on:=4,ground:=.data},{on:=9,ground:=.data},{on:=9,ground:=.chain}],guard:=none}) rfl (fun K hK=>?_) AllReadyH.nil)
 all_goals refine step_append_lies _ (by rfl) _ _ _ (by rfl) B0 24 i0 _ 1 8 Tryz.underlying33 hi0 hz0 hz1 hz2 rfl (by omega) vk k0 ps0 (by rfl) OW6.out ⟨n6,0,none⟩ ps6.length cp6 ps6 (by rfl) (by omega) CL6.out (fun x hx=>by obtain⟨A,rfl⟩:=PT6.out x hx;rfl) hp06 (by unfold maxLen;omega) (by omega) (by omega) w6.heap.size rfl ?_
 all_goals intro g7 cap7 w7 hown7 hgrow7 hat7 hlt7
 all_goals have OW7:=Lib.hid hown7
 all_goals have GR7:=Lib.hid hgrow7
 all_goals have AT7:=Lib.hid hat7
 all_goals have nb7:Nb w7 Bn x vk:=(hgrow7.block Bn (by omega) e1).trans NB6.out
 all_goals have hc7:w7.cell? ⟨Bn,4,none⟩=some vk:=nb7.cell.1
 all_goals have hf7:w7.frozen? ⟨Bn,4,none⟩=false:=nb7.cell.2
 all_goals have r7:=(hgrow7.block B1 (by omega) e2).trans T16.out
 all_goals have hc8:w7.cell? ⟨B1,0,none⟩=some (.pointer (some ⟨Bn,0,none⟩)):=cell_of_row w7 _ 0 _ _ _ r7
 all_goals have r8:=(hgrow7.block B2 (by omega) e3).trans T26.out
 all_goals have hc9:w7.cell? ⟨B2,0,none⟩=some (.pointer (some ⟨b,0,none⟩)):=cell_of_row w7 _ 0 _ _ _ r8
 all_goals have NB7:=Lib.hid nb7
 all_goals clear hown7 hgrow7 hat7 nb7 r7 r8
 all_goals refine hK.out _ _ ⟨hc8,hc9⟩ (fun hHeld=>?_)
 all_goals clear hK K
 all_goals (simp only[Act.put,List.setIfInBounds_toArray,List.set_cons_zero,List.set_cons_succ])
 all_goals refine wpAnyH_take (i:=11) (oi:={dst:=some 13,op:=.nilCheck (.tmp 2),type:=0,pos:= "parse.go:63",after:=#[{on:=0,ground:=.data},{on:=0,ground:=.phase},{on:=1,ground:=.phase},{on:=2,ground:=.phase},{on:=3,ground:=.phase},{on:=4,ground:=.phase},{on:=5,ground:=.phase},{on:=6,ground:=.phase},{on:=7,ground:=.phase},{on:=8,ground:=.phase},{on:=9,ground:=.phase},{on:=10,ground:=.phase}],guard:=none}) (v:=.pointer (some ⟨Bn,0,none⟩)) rfl (by kernel_rfl) (by kernel_rfl) (by kernel_rfl) (fun _ _ _ h=>h) (Or.inl ⟨by rfl,fun w' hSw=>by go_simp⟩) (by assumption) ?_
 all_goals (try simp only[Act.put,List.setIfInBounds_toArray,List.set_cons_zero,List.set_cons_succ])
 all_goals refine wpAnyH_take (i:=12) (oi:={dst:=some 14,op:=.fieldAddr 44 (.tmp 13) 4,type:=0,pos:= "parse.go:63",after:=#[{on:=11,ground:=.data},{on:=0,ground:=.phase},{on:=1,ground:=.phase},{on:=2,ground:=.phase},{on:=3,ground:=.phase},{on:=4,ground:=.phase},{on:=5,ground:=.phase},{on:=6,ground:=.phase},{on:=7,ground:=.phase},{on:=8,ground:=.phase},{on:=9,ground:=.phase},{on:=10,ground:=.phase}],guard:=none}) (v:=.pointer (some ⟨Bn,4,none⟩)) rfl (by kernel_rfl) (by kernel_rfl) (by kernel_rfl) (fun _ _ _ h=>h) (Or.inl ⟨by rfl,fun w' hSw=>by go_simp⟩) (by assumption) ?_
 all_goals (try simp only[Act.put,List.setIfInBounds_toArray,List.set_cons_zero,List.set_cons_succ])
 all_goals refine wpAnyH_ready (rs:=[13]) (by kernel_rfl) (by simp) (AllReadyH.cons (o:={dst:=none,op:=.store 33 (.tmp 14) (.tmp 12),type:=0,pos:= "parse.go:63",after:=#[{on:=12,ground:=.data},{on:=10,ground:=.data},{on:=10,ground:=.chain},{on:=0,ground:=.phase},{on:=1,ground:=.phase},{on:=2,ground:=.phase},{on:=3,ground:=.phase},{on:=4,ground:=.phase},{on:=5,ground:=.phase},{on:=6,ground:=.phase},{on:=7,ground:=.phase},{on:=8,ground:=.phase},{on:=9,ground:=.phase},{on:=10,ground:=.phase}],guard:=none}) rfl (fun K hK=>?_) AllReadyH.nil)
 all_goals go_simp
 all_goals refine hK.out _ _ ⟨(World.cell?_setCell_far _ _ _ _ (fun e=>h1n e.symm)).trans hc8,(World.cell?_setCell_far _ _ _ _ (fun e=>h2n e.symm)).trans hc9⟩ (fun hHeld=>?_)
 all_goals clear hK K
 all_goals refine wpAnyH_done (by kernel_rfl) ?_ _
 all_goals go_wp2_with fail
 all_goals go_end0
 all_goals exact zQ0 hb hbn hbK hB0 hbnw hKn hKw hBK hB0w HOB.out hl0 G6.out hbg6 HR6.out NB7.out OW7.out GR7.out AT7.out
end
theorem PA.mono {B0 Bn:Nat} {x:Nod} {C:Rs Fr} {T T':Fr->Prop} {w:World} (h:PA B0 Bn x C T w) (hT:∀f,T' f->T f):PA B0 Bn x C T' w:=by
 obtain⟨g,cp,ps,h1,h2,h3,h4⟩:=h;exact⟨g,cp,ps,h1,h2,h3,fun f0 f j h0=>h4 f0 f j (hT f0 h0)⟩
section
variable {V0:World} {v:Value} {l:List Te} {b:Nat}
theorem pC (P:Px9 V0 v l b) (X:Nat->Nat->Rs Tr) (hX:∀n j,j<=l.length->In l.length j (X n j)) (n:Nat) (s so:SS) (hs:s.1<=l.length) (hso:kS (tks l) kOf s=so) (hn:so.2=0->l.length+1<=n+so.1) (cX:∀(k j:Nat) (e':Int),j<=l.length->(e'=0->so.2=0/\∃a,k+a+1=n/\so.1+a<j)->RuAt V0 v b 191 (X k) j e')
  (C:Rs Fr) (hC:at0 (fun i=>rowA B.nck l X n i .nil) so=C) (Bn K B0 k0:Nat) (x:Nod) (vk:Value) (ps0:List Value) (w:World) (h:Psr w b v s.1 s.2) (hu:Up V0 w) (hbn:b≠Bn) (hB0:b<B0) (hKn:K≠Bn) (hBK:B0<=K) (hBn:B0<=Bn) (_hB0w:B0<=w.heap.size) (hob:vk.ownBlock=some K) (hk2:k0<=2) (hl0:ps0.length=k0) (nb:Nb w Bn x vk) (ow:w.ownsRow B0 24 1 vk k0 ps0) :
  Calls Tryz.prog 218 #[.agg #[.pointer (some ⟨b,0,none⟩)],.pointer (some ⟨Bn,0,none⟩)] w fun en w'=>en = .returned (.pointer (some ⟨Bn,0,none⟩))/\Gs (Thr b Bn K) w w'/\Psr w' b v (kS (tks l) kEnd (stO C)).1 (kS (tks l) kEnd (stO C)).2/\
   ∀f0 f j,PtF w (fun q=>B0<=q/\q<w.heap.size/\q≠Bn/\q≠K) ps0 f0->C = .inl (f,j)->InT w' (fun q=>B0<=q/\q<w'.heap.size) (.pointer (some ⟨Bn,0,none⟩)) (x,f0.app f):=by
 have hll:=P.Q.hl;have hbV:=P.Q.hb;have hb:b<w.heap.size:=qC h;have hbnw:=qC nb;have hKw:K<w.heap.size:=(ow.lt K hob).2;have hz:=hu.size;have lo:so.1<=l.length:=by rw[<- hso];exact zI l _ hs
 have lC:(stO C).1<=l.length:=by
  rw[<- hC]
  by_cases h0:so.2=0
  ·have hso0:so=(so.1,0):=by rw[<- h0]
   rw[hso0,qG];have h1:=sH (nk:=B.nck) hX n so.1 .nil lo
   cases hR:rowA B.nck l X n so.1 .nil with
   | inl r=>rw[hR] at h1;exact h1.2
   | inr r=>rw[hR] at h1;exact h1.2.1
  ·rw[qM _ h0];exact lo
 obtain⟨W0,hW0⟩:∃W0,(w.alloc (.cells #[.pointer (some ⟨b,0,none⟩)] 183)).alloc (.cells #[.pointer (some ⟨Bn,0,none⟩)] 24)=W0:=⟨_,rfl⟩;have z0:W0.heap.size=w.heap.size+2:=by rw[<- hW0];simp
 have b1:W0.heap[w.heap.size]? = some (.cells #[.pointer (some ⟨b,0,none⟩)] 183 (0,0)):=by rw[<- hW0];exact yF _ (heap_alloc_new w _)
 have b2:W0.heap[w.heap.size+1]? = some (.cells #[.pointer (some ⟨Bn,0,none⟩)] 24 (0,0)):=by rw[<- hW0];exact yU _ _ (by simp)
 have u0:Up w W0:=by rw[<- hW0];exact((Up.refl w).alloc _).alloc _
 have cB:=zJ b v s.1 s.2 kOf kEnd 234 #[.pointer (some ⟨w.heap.size+1,0,none⟩),.pointer (some ⟨w.heap.size,0,none⟩)] (fun _ _=>by kernel_rfl) (Thr b Bn K) (fun q hq=>by rcases hq with hq | hq | hq<;>omega) hbV (rI C) (rE C) (PA B0 Bn x C fun f0=>PtF w (fun q=>B0<=q/\q<w.heap.size/\q≠Bn/\q≠K) ps0 f0) W0
  P.Q.T (h.up u0) (hu.trans u0) (by omega) (by have:rI C<=l.length:=lC;omega) (fun w2 g2 h2=>by
   have h2:Psr w2 b v so.1 so.2:=by rw[<- hso];exact h2
   have g02:Gs (On b) w w2:=(Gs.of u0:Gs (On b) w W0).trans g2;have u2:Up V0 w2:=g2.up (hu.trans u0) fun q hq=>by rw[hq];exact hbV
   have z2:=g2.size;have c:=zQ1 P C (w.heap.size+1) w.heap.size Bn K B0 k0 x vk ps0 w2 hbn (by omega) hB0 hKn hBK (by omega) (by omega) (by omega) (by omega) (by omega) (by omega) hob hk2 hl0 (g2.row b2 (by unfold On;omega)) (g2.row b1 (by unfold On;omega)) (g02.row nb (by unfold On;omega)) (kY ow g02 fun k hk=>by rw[hk];exact hB0) (by omega) (fun w' u=>by
    have c:=zNf P X hX n so.1 so.2 lo hn cX w' (h2.up u) (u2.trans u);rw[show at0 (fun i=>rowA B.nck l X n i .nil) (so.1,so.2)=C from hC] at c;exact c)
   exact c.mono fun en w3 ⟨k1,k2,k3,k4⟩=>⟨k1,k2,k3,k4.mono fun f hf=>PtF.keep (fun q hq=>⟨hq.1,by have:=hq.2.1;omega,hq.2.2⟩) (fun q hq=>g02.block q hq.2.1 (by have:=hq.1;unfold On;omega)) hf⟩)
 have k0':W0.cell? ⟨w.heap.size,0,none⟩=some (.pointer (some ⟨b,0,none⟩)):=cell_of_row _ _ 0 _ _ _ b1;have HW0:=Lib.hid hW0;have U0:=Lib.hid u0;have B2:=Lib.hid b2;clear hW0 u0 b1 b2 h hu nb ow cX P hX hC hso hn
 go_enter Tryz.func218,Tryz.ntmps218
 go_wp2_with fail;rw[HW0.out];refine cB.mono ?_;rintro en w4 ⟨⟨u,rfl⟩,w2,w3,g2,g3,⟨g,cp,ps,o3,nb3,hgn,hT3⟩,g4,h4⟩;have z2:=g2.size;have z3:=g3.size;have z4:=g4.size;have r4:=g4.row (g3.row (g2.row B2.out (by unfold On;omega)) (by unfold Thr;omega)) (by unfold On;omega);have c4:w4.cell? ⟨w.heap.size+1,0,none⟩=some (.pointer (some ⟨Bn,0,none⟩)):=cell_of_row w4 _ 0 _ _ _ r4;have gF:Gs (Thr b Bn K) w w4:=(((Gs.of U0.out:Gs (Thr b Bn K) w W0).trans (g2.wide fun k _ hq=>.inl hq)).trans g3).trans (g4.wide fun k _ hq=>.inl hq);have hgB:B0<=g/\g<w3.heap.size:=o3.lt g rfl;have hFin:Psr w4 b v (kS (tks l) kEnd (stO C)).1 (kS (tks l) kEnd (stO C)).2/\∀f0 f j,PtF w (fun q=>B0<=q/\q<w.heap.size/\q≠Bn/\q≠K) ps0 f0->C = .inl (f,j)->InT w4 (fun q=>B0<=q/\q<w4.heap.size) (.pointer (some ⟨Bn,0,none⟩)) (x,f0.app f):=by
  refine⟨h4,fun f0 f j h0 hCj=>?_⟩;have hp:=hT3 f0 f j h0 hCj;have hl:=hp.len;have o4:=kY o3 g4 fun k hk=>by rw[hk];exact hB0
  have n4:Nb w4 Bn x (.slice (some ⟨g,0,none⟩) ps.length cp):=g4.row nb3 (by unfold On;omega);refine OwnT.tree (x:=x) ⟨ps,by rw[<- hl];exact o4,PtF.keep (fun q hq=>⟨hq.1,by have:=hq.2.1;omega⟩) (fun q hq=>g4.block q hq.2.1 (by have:=hq.1;unfold On;omega)) hp⟩ n4 ⟨hBn,by omega⟩ fun g' e=>?_
  injection e with e;have e:g=g':=e;subst e;exact⟨hgB.1,by omega⟩
 have HF:=Lib.hid hFin;have GF:=Lib.hid gF;clear cB g2 g3 o3 nb3 hT3 g4 h4 r4 gF hFin k0' z2 z3;go_wp2_with fail
 go_ret
 exact⟨rfl,GF.out,HF.out.1,HF.out.2⟩
end
section
variable {V0:World} {v:Value} {l:List Te} {b:Nat}
theorem zNg (P:Px9 V0 v l b) (E:Nat->Rs Tr) (hE:∀j,j<=l.length->In l.length j (E j)) (X:Nat->Nat->Rs Tr) (hX:∀n j,j<=l.length->In l.length j (X n j)) (n:Nat) (M:Nat->Fr->Rs Fr) (hM:∀j,M j .nil=thn (rowA B.nck l X n j .nil) fun f j=>thn (keysL (tks l) j [kEnd]) fun _ m=>.inl (f,m)) (i:Nat) (e:Int) (hi:i<=l.length) (hi1:i+1<=l.length) (h1:tkB (tks l) i e kFn=false) (h2:tkB (tks l) i e kLet=false) (h3:tkB (tks l) i e kIf=false) (h4:tkB (tks l) i e kCase=true) (hn:e=0->l.length<=n+i)
  (cX:∀(k j:Nat) (e':Int),j<=l.length->(e'=0->e=0/\∃a,k+a+1=n/\i+1+a<j)->RuAt V0 v b 191 (X k) j e')
  (cE:∀(j:Nat) (e':Int),j<=l.length->(e'=0->e=0/\i<j)->RuAt V0 v b 191 E j e') (w:World) (hu:Up V0 w) (h:Psr w b v i e) :
  Calls Tryz.prog 191 #[.agg #[.pointer (some ⟨b,0,none⟩)]] w (PaT (On b) b v (at0 (caseS l E M) (i+1,e)) (fun _ _=>True) w):=by
 have hb:b<w.heap.size:=qC h;have hll:=P.Q.hl;have hbV:=P.Q.hb;have hCi:∀j,j<=l.length->In l.length j (rowA B.nck l X n j .nil):=fun j hj=>sH hX n j .nil hj
 obtain⟨X1,hX1⟩:∃X,at0 E (i+1,e)=X:=⟨_,rfl⟩;obtain⟨so,hso⟩:∃s,kS (tks l) kOf (stO X1)=s:=⟨_,rfl⟩;obtain⟨C,hC⟩:∃C,at0 (fun i=>rowA B.nck l X n i .nil) so=C:=⟨_,rfl⟩;have r1:rS E (i+1,e)=stO X1:=by unfold rS;rw[hX1]
 have rC:rS (fun i=>rowA B.nck l X n i .nil) so=stO C:=by unfold rS;rw[hC]
 have m1:(stO X1).1<=l.length:=by rw[<- r1];exact pB hE hi1
 have ho0:so.2=0->e=0/\i+1<so.1:=fun h0=>by
  rw[<- hso] at h0;obtain⟨a1,b1⟩:=yP h0;rw[hso] at b1;rw[<- r1] at a1 b1;obtain⟨a2,b2⟩:=rG hE hi1 a1;exact⟨a2,by have b2:i+1<(rS E (i+1,e)).1:=b2;omega⟩
 have hst:stO (at0 (caseS l E M) (i+1,e))=kS (tks l) kEnd (stO C):=by
  rw[<- rC,<- hso,<- r1];exact nK (G:=caseG l E fun i=>rowA B.nck l X n i .nil) ((yR _ _).comp ((kO _).comp ((yR _ _).comp (kO _)))) fun _=>zN2 hE hCi hM hi1
 have hval:∀u j,at0 (caseS l E M) (i+1,e) = .inl (u,j)->∃a f j1 j2,X1 = .inl (a,j1)/\C = .inl (f,j2)/\u=(⟨32,0,nob,nob⟩,(fr1 a).app f):=fun u j hu=>by
  by_cases he:e=0
  ·subst he
   rw[qG] at hu;obtain⟨a,f,j1,j2,j3,a1,a2,a3,rfl⟩:=zR9 hE hCi hM hi1 hu;have q1:X1 = .inl (a,j1):=by rw[<- hX1,qG];exact a1
   have q2:so=(j2,0):=by rw[<- hso,q1];exact a2
   exact⟨a,f,j1,j3,q1,by rw[<- hC,q2,qG];exact a3,rfl⟩
  ·rw[qM _ (show ¬(i+1,e).2=0 from he)] at hu
   cases hu
 obtain⟨W0,hW0⟩:∃W0,w.alloc (.cells #[.pointer (some ⟨b,0,none⟩)] 183)=W0:=⟨_,rfl⟩;have u0:Up w W0:=by rw[<- hW0];exact(Up.refl w).alloc _
 have b1:W0.heap[w.heap.size]? = some (.cells #[.pointer (some ⟨b,0,none⟩)] 183 (0,0)):=by rw[<- hW0];exact heap_alloc_new w _
 have hgU:∀w',Gs (On b) W0 w'->Up V0 w':=fun w' g=>g.up (hu.trans u0) fun q hq=>by rw[hq];exact hbV
 have hgB:∀w',Gs (On b) W0 w'->w'.cell? ⟨w.heap.size,0,none⟩=some (.pointer (some ⟨b,0,none⟩)):=fun w' g=>cell_of_row w' w.heap.size 0 _ _ _ (g.row b1 (by unfold On;omega))
 have c1:=qI P.Q hi kFn h1 W0 (hu.trans u0) (h.up u0);have hz0:W0.heap.size=w.heap.size+1:=by rw[<- hW0];simp
 have HPX:=Lib.hid P;have HCE:=Lib.hid cE;have HGU:=Lib.hid hgU;have HGB:=Lib.hid hgB;have HW0:=Lib.hid hW0;have U0:=Lib.hid u0;have H2:=Lib.hid h2;have H3:=Lib.hid h3;have H4:=Lib.hid h4;have HST:=Lib.hid hst;have HVAL:=Lib.hid hval;have HSO:=Lib.hid hso;have HX1:=Lib.hid hX1;have HC:=Lib.hid hC;have HHX:=Lib.hid hX;have HCX:=Lib.hid cX;have HO0:=Lib.hid ho0;have HN:=Lib.hid hn;clear hW0 u0 b1 h hu cE P hgU hgB h1 h2 h3 h4 hst hval hso hX1 hC hX cX ho0 hn r1 rC hE hCi hM
 go_enter Tryz.func191,Tryz.ntmps191
 go_wp2_with fail;rw[HW0.out];refine c1.mono ?_;rintro en w1 ⟨rfl,g1,p1⟩;have c2:=qI HPX.out.Q hi kLet H2.out w1 (HGU.out w1 g1) p1;have k1:=HGB.out w1 g1;have G1:=Lib.hid g1;clear g1 p1 c1;go_wp2_with fail;refine c2.mono ?_;rintro en w2 ⟨rfl,g2,p2⟩;have g2:=G1.out.trans g2;have c3:=qI HPX.out.Q hi kIf H3.out w2 (HGU.out w2 g2) p2;have k2:=HGB.out w2 g2;have G2:=Lib.hid g2;clear g2 p2 c2;go_wp2_with fail;refine c3.mono ?_;rintro en wq ⟨rfl,gq,pq⟩;have gq:=G2.out.trans gq;have c4:=qN HPX.out.Q hi kCase H4.out wq (HGU.out wq gq) pq;have kq:=HGB.out wq gq;have GQ:=Lib.hid gq;clear gq pq c3;go_wp2_with fail;refine c4.mono ?_;rintro en w3 ⟨rfl,g3,p3⟩;have g3:=GQ.out.trans g3;have z3:=g3.size;have cA:=fun w' (u:Up w3 w')=>HCE.out (i+1) e hi1 (fun h0=>⟨h0,Nat.lt_succ_self i⟩) w' ((HGU.out w3 g3).trans u) (p3.up u)
 rw[HX1.out] at cA;have CA:=Lib.hid cA;have k3:=HGB.out w3 g3;have G3:=Lib.hid g3;have hwl:w.heap.size<w3.heap.size:=by omega
 clear g3 p3 c4 cA;go_wp2_with fail
 go_region_held3 (fun w'=>w'.cell? ⟨w.heap.size,0,none⟩=some (.pointer (some ⟨b,0,none⟩))) (first | go_keep | assumption | exact((Up.refl _).alloc _).cell (by assumption)) (first
  | (go_at_call 191;refine(CA.out _ (by first | exact Below.refl _ _ | exact qE (Below.refl _ _) 1)).mono ?_;rintro e6 w6 hP;obtain⟨A6,rfl,g6,p6,n6⟩:=hP.psr;have g6:Gs (On b) w3 w6:=⟨g6.os,g6.tape,g6.output,g6.size,g6.block⟩;have n6:∀t j,X1 = .inl (t,j)->NewT w3 w6 (.pointer A6) t:=n6;have z6:=g6.size;have hwl6:w.heap.size<w6.heap.size:=(by omega);have k6:=HGB.out w6 (G3.out.trans g6);have G6:=Lib.hid (G3.out.trans g6);have P6:=Lib.hid p6;have N6:=Lib.hid n6;clear g6 p6 n6 hP CA)
  | (go_at_call 217;refine(kL _ _ _ _ _).mono ?_;rintro e9 w9 ⟨rfl,h9⟩;have u9:Up w6 w9:=(by rw[h9];exact((Up.refl w6).alloc _).alloc _);have k9:=u9.cell k6;have z9:w9.heap.size=w6.heap.size+2:=(by rw[h9];simp);have K9:=Lib.hid (show w9.heap[w6.heap.size]? = some (.cells #[.pointer A6] 24 (0,0)) from(by rw[h9];exact yF _ (heap_alloc_new w6 _)));have NB9:=Lib.hid (show Nb w9 (w6.heap.size+1) ⟨32,0,nob,nob⟩ (.slice (some ⟨w6.heap.size,0,none⟩) 1 1) from(by rw[h9];exact yU _ _ (by simp)));have U9:=Lib.hid u9;have CW:=Lib.hid (fun w' (u:Up w9 w')=>pC HPX.out X HHX.out n (stO X1) so m1 HSO.out (fun h0=>by have a:=HO0.out h0;have b:=HN.out a.1;omega) (fun k j e' hj h'=>HCX.out k j e' hj fun h0=>by obtain⟨q0,a,qa,qb⟩:=h' h0;obtain⟨p0,pb⟩:=HO0.out q0;exact⟨p0,a,qa,by omega⟩) C HC.out (w6.heap.size+1) w6.heap.size w3.heap.size 1 ⟨32,0,nob,nob⟩ (.slice (some ⟨w6.heap.size,0,none⟩) 1 1) [.pointer A6] w' ((P6.out.up U9.out).up u) (((HGU.out w6 G6.out).trans U9.out).trans u) (by omega) (by omega) (by omega) (by omega) (by omega) (by have:=u.size;omega) rfl (by omega) rfl (u.row NB9.out) (rH (u.row K9.out) (by omega)));clear h9 u9)
  | (go_at_call 218;refine(CW.out _ (by first | exact Below.refl _ _ | exact qE (Below.refl _ _) 1)).mono ?_;rintro e10 w10 ⟨rfl,g10,p10,t10⟩;have g10:Gs (Thr b (w6.heap.size+1) w6.heap.size) w9 w10:=⟨g10.os,g10.tape,g10.output,g10.size,g10.block⟩;have T10:=Lib.hid (show ∀a f j,NewT w3 w6 (.pointer A6) a->C = .inl (f,j)->InT w10 (fun q=>w3.heap.size<=q/\q<w10.heap.size) (.pointer (some ⟨w6.heap.size+1,0,none⟩)) (⟨32,0,nob,nob⟩,(fr1 a).app f) from fun a f j ha hc=>t10 (fr1 a) f j ⟨InT.keep ha (fun q hq=>⟨hq.1,(by show q<w9.heap.size;have:=hq.2;omega),(by have:=hq.2;omega),(by have:=hq.2;omega)⟩) (fun q hq=>U9.out.block q hq.2),trivial⟩ hc);have gA:Gs (On b) W0 w9:=G6.out.trans (Gs.of U9.out);have zA:=gA.size;have zB:=g10.size;have GX:=Lib.hid (show Gs (On b) W0 w10 from⟨g10.os.trans gA.os,g10.tape.trans gA.tape,g10.output.trans gA.output,Nat.le_trans gA.size g10.size,fun q hq hn=>(g10.block q (by omega) (by unfold Thr;unfold On at hn;omega)).trans (gA.block q hq hn)⟩);have k10:=HGB.out w10 GX.out;have P10:=Lib.hid p10;clear g10 p10 t10 gA CW))
 all_goals go_wp2_with fail
 go_ret
 have e1:rI (at0 (caseS l E M) (i+1,e))=(kS (tks l) kEnd (stO C)).1:=congrArg Prod.fst HST.out;have e2:rE (at0 (caseS l E M) (i+1,e))=(kS (tks l) kEnd (stO C)).2:=congrArg Prod.snd HST.out;refine PaT.mk ((Gs.of U0.out).trans GX.out) (by rw[e1,e2];exact P10.out) fun t j ht=>?_
 obtain⟨a,f,j1,j2,hA,hB,rfl⟩:=HVAL.out t j ht;exact InT.keep (T10.out a f j2 (N6.out a j1 hA) hB) (fun q hq=>⟨by have:=hq.1;omega,hq.2⟩) fun _ _=>rfl
end
theorem zU6 {w:World} {K B0:Nat} {A C:Option Addr} (h:w.heap[K]? = some (.cells #[.pointer A,.pointer C] 24 (0,0))) (hB:B0<=K):w.ownsRow B0 24 1 (.slice (some ⟨K,0,none⟩) 2 2) 2 [.pointer A,.pointer C]:=
 ⟨rfl,.inr ⟨K,2,#[.pointer A,.pointer C],rfl,hB,h,Nat.le_refl _,by unfold maxLen;omega,rfl,rfl⟩⟩
section
variable {V0:World} {v:Value} {l:List Te} {b:Nat}
theorem zNh (P:Px9 V0 v l b) (E:Nat->Rs Tr) (hE:∀j,j<=l.length->In l.length j (E j)) (X:Nat->Nat->Rs Tr) (hX:∀n j,j<=l.length->In l.length j (X n j)) (n:Nat) (M:Nat->Fr->Rs Fr) (hM:∀j,M j .nil=thn (rowA B.nck l X n j .nil) fun f j=>thn (keysL (tks l) j [kEnd]) fun _ m=>.inl (f,m)) (i:Nat) (e:Int) (hi:i<=l.length) (hi1:i+1<=l.length) (h1:tkB (tks l) i e kFn=false) (h2:tkB (tks l) i e kLet=false) (h3:tkB (tks l) i e kIf=false) (h4:tkB (tks l) i e kCase=false) (h5:tkB (tks l) i e kFold=true) (hn:e=0->l.length<=n+i)
  (cX:∀(k j:Nat) (e':Int),j<=l.length->(e'=0->e=0/\∃a,k+a+1=n/\i+1+a<j)->RuAt V0 v b 191 (X k) j e')
  (cE:∀(j:Nat) (e':Int),j<=l.length->(e'=0->e=0/\i<j)->RuAt V0 v b 191 E j e') (w:World) (hu:Up V0 w) (h:Psr w b v i e) :
  Calls Tryz.prog 191 #[.agg #[.pointer (some ⟨b,0,none⟩)]] w (PaT (On b) b v (at0 (foldS B.nck B.long l E M) (i+1,e)) (fun _ _=>True) w):=by
 have hb:b<w.heap.size:=qC h;have hll:=P.Q.hl;have hbV:=P.Q.hb;have hCi:∀j,j<=l.length->In l.length j (rowA B.nck l X n j .nil):=fun j hj=>sH hX n j .nil hj
 obtain⟨X1,hX1⟩:∃X,at0 E (i+1,e)=X:=⟨_,rfl⟩;obtain⟨s1,hs1⟩:∃s,kS (tks l) kTo (stO X1)=s:=⟨_,rfl⟩;obtain⟨Y,hY⟩:∃Y,at0 (typL B.nck B.long (tks l)) s1=Y:=⟨_,rfl⟩;obtain⟨so,hso⟩:∃s,kS (tks l) kOf (stO Y)=s:=⟨_,rfl⟩;have hyt:∀j,j<=l.length->In l.length j (typL B.nck B.long (tks l) j):=fun j hj=>kK hj
 have rY:rS (typL B.nck B.long (tks l)) s1=stO Y:=by unfold rS;rw[hY]
 obtain⟨C,hC⟩:∃C,at0 (fun i=>rowA B.nck l X n i .nil) so=C:=⟨_,rfl⟩;have r1:rS E (i+1,e)=stO X1:=by unfold rS;rw[hX1]
 have rC:rS (fun i=>rowA B.nck l X n i .nil) so=stO C:=by unfold rS;rw[hC]
 have m1:(stO X1).1<=l.length:=by rw[<- r1];exact pB hE hi1
 have l1:s1.1<=l.length:=by rw[<- hs1];exact zI l _ m1
 have mY:(stO Y).1<=l.length:=by rw[<- rY];exact pB hyt l1
 have ho0:so.2=0->e=0/\i+1<so.1:=fun h0=>by
  rw[<- hso] at h0;obtain⟨a1,b1⟩:=yP h0;rw[hso] at b1;rw[<- rY] at a1 b1;obtain⟨a3,b3⟩:=rG hyt l1 a1;rw[<- hs1] at a3;obtain⟨a4,b4⟩:=yP a3;rw[hs1] at b4;rw[<- r1] at a4 b4;obtain⟨a2,b2⟩:=rG hE hi1 a4;exact⟨a2,by have b2:i+1<(rS E (i+1,e)).1:=b2;omega⟩
 have hst:stO (at0 (foldS B.nck B.long l E M) (i+1,e))=kS (tks l) kEnd (stO C):=by
  rw[<- rC,<- hso,<- rY,<- hs1,<- r1];exact nK (G:=foldG B.nck B.long l E fun i=>rowA B.nck l X n i .nil) ((yR _ _).comp ((kO _).comp ((yR _ _).comp ((kO _).comp ((yR _ _).comp (kO _)))))) fun _=>zN3 hE hCi hM hi1
 have hval:∀u j,at0 (foldS B.nck B.long l E M) (i+1,e) = .inl (u,j)->∃a y f j1 jy j2,X1 = .inl (a,j1)/\Y = .inl (y,jy)/\C = .inl (f,j2)/\u=(⟨33,0,nob,nob⟩,(fr2 a y).app f):=fun u j hu=>by
  by_cases he:e=0
  ·subst he
   rw[qG] at hu;obtain⟨a,y,f,j1,j2,j3,j4,j5,a1,a2,a3,a4,a5,rfl⟩:=zRa hE hCi hM hi1 hu;have q1:X1 = .inl (a,j1):=by rw[<- hX1,qG];exact a1
   have q2:s1=(j2,0):=by rw[<- hs1,q1];exact a2
   have q3:Y = .inl (y,j3):=by rw[<- hY,q2,qG];exact a3
   have q4:so=(j4,0):=by rw[<- hso,q3];exact a4
   exact⟨a,y,f,j1,j3,j5,q1,q3,by rw[<- hC,q4,qG];exact a5,rfl⟩
  ·rw[qM _ (show ¬(i+1,e).2=0 from he)] at hu
   cases hu
 obtain⟨W0,hW0⟩:∃W0,w.alloc (.cells #[.pointer (some ⟨b,0,none⟩)] 183)=W0:=⟨_,rfl⟩;have u0:Up w W0:=by rw[<- hW0];exact(Up.refl w).alloc _
 have b1:W0.heap[w.heap.size]? = some (.cells #[.pointer (some ⟨b,0,none⟩)] 183 (0,0)):=by rw[<- hW0];exact heap_alloc_new w _
 have hgU:∀w',Gs (On b) W0 w'->Up V0 w':=fun w' g=>g.up (hu.trans u0) fun q hq=>by rw[hq];exact hbV
 have hgB:∀w',Gs (On b) W0 w'->w'.cell? ⟨w.heap.size,0,none⟩=some (.pointer (some ⟨b,0,none⟩)):=fun w' g=>cell_of_row w' w.heap.size 0 _ _ _ (g.row b1 (by unfold On;omega))
 have c1:=qI P.Q hi kFn h1 W0 (hu.trans u0) (h.up u0);have hz0:W0.heap.size=w.heap.size+1:=by rw[<- hW0];simp
 have HPX:=Lib.hid P;have HCE:=Lib.hid cE;have HGU:=Lib.hid hgU;have HGB:=Lib.hid hgB;have HW0:=Lib.hid hW0;have U0:=Lib.hid u0;have H2:=Lib.hid h2;have H3:=Lib.hid h3;have H4:=Lib.hid h4;have H5:=Lib.hid h5;have HS1:=Lib.hid hs1;have HY:=Lib.hid hY;have HST:=Lib.hid hst;have HVAL:=Lib.hid hval;have HSO:=Lib.hid hso;have HX1:=Lib.hid hX1;have HC:=Lib.hid hC;have HHX:=Lib.hid hX;have HCX:=Lib.hid cX;have HO0:=Lib.hid ho0;have HN:=Lib.hid hn;clear hW0 u0 b1 h hu cE P hgU hgB h1 h2 h3 h4 h5 hs1 hY hyt rY hst hval hso hX1 hC hX cX ho0 hn r1 rC hE hCi hM
 go_enter Tryz.func191,Tryz.ntmps191
 go_wp2_with fail;rw[HW0.out];refine c1.mono ?_;rintro en w1 ⟨rfl,g1,p1⟩;have c2:=qI HPX.out.Q hi kLet H2.out w1 (HGU.out w1 g1) p1;have k1:=HGB.out w1 g1;have G1:=Lib.hid g1;clear g1 p1 c1;go_wp2_with fail;refine c2.mono ?_;rintro en w2 ⟨rfl,g2,p2⟩;have g2:=G1.out.trans g2;have c3:=qI HPX.out.Q hi kIf H3.out w2 (HGU.out w2 g2) p2;have k2:=HGB.out w2 g2;have G2:=Lib.hid g2;clear g2 p2 c2;go_wp2_with fail;refine c3.mono ?_;rintro en wq ⟨rfl,gq,pq⟩;have gq:=G2.out.trans gq;have c4:=qI HPX.out.Q hi kCase H4.out wq (HGU.out wq gq) pq;have kq:=HGB.out wq gq;have GQ:=Lib.hid gq;clear gq pq c3;go_wp2_with fail;refine c4.mono ?_;rintro en wr ⟨rfl,gr,pr⟩;have gr:=GQ.out.trans gr;have c5:=qN HPX.out.Q hi kFold H5.out wr (HGU.out wr gr) pr;have kr:=HGB.out wr gr;have GQ:=Lib.hid gr;clear gr pr c4;go_wp2_with fail;refine c5.mono ?_;rintro en w3 ⟨rfl,g3,p3⟩;have g3:=GQ.out.trans g3;have z3:=g3.size;have cA:=fun w' (u:Up w3 w')=>HCE.out (i+1) e hi1 (fun h0=>⟨h0,Nat.lt_succ_self i⟩) w' ((HGU.out w3 g3).trans u) (p3.up u)
 rw[HX1.out] at cA;have CA:=Lib.hid cA;have k3:=HGB.out w3 g3;have G3:=Lib.hid g3;have hwl:w.heap.size<w3.heap.size:=by omega
 clear g3 p3 c5 cA;go_wp2_with fail
 go_region_held3 (fun w'=>w'.cell? ⟨w.heap.size,0,none⟩=some (.pointer (some ⟨b,0,none⟩))) (first | go_keep | assumption | exact((Up.refl _).alloc _).cell (by assumption)) (first
  | (go_at_call 191;refine(CA.out _ (by first | exact Below.refl _ _ | exact qE (Below.refl _ _) 1)).mono ?_;rintro e6 w6 hP;obtain⟨A6,rfl,g6,p6,n6⟩:=hP.psr;have g6:Gs (On b) w3 w6:=⟨g6.os,g6.tape,g6.output,g6.size,g6.block⟩;have n6:∀t j,X1 = .inl (t,j)->NewT w3 w6 (.pointer A6) t:=n6;have z6:=g6.size;have hwl6:w.heap.size<w6.heap.size:=(by omega);have k6:=HGB.out w6 (G3.out.trans g6);have G6:=Lib.hid (G3.out.trans g6);have P6:=Lib.hid p6;have N6:=Lib.hid n6;clear g6 p6 n6 hP CA)
  | (go_at_call 219;have q6:=P6.out;refine(fA HPX.out kTo (rI X1) (rE X1) m1 _ (by first | exact P6.out | exact P6.out.up (qE (Below.refl _ _) 1)) (by first | exact HGU.out w6 G6.out | exact(HGU.out w6 G6.out).trans (qE (Below.refl _ _) 1))).mono ?_;rintro e7 w7 hP;rw[show at0 (typL B.nck B.long (tks l)) (kS (tks l) kTo (rI X1,rE X1))=Y from by rw[show kS (tks l) kTo (rI X1,rE X1)=s1 from HS1.out];exact HY.out] at hP;obtain⟨A7,rfl,g7,p7,n7⟩:=hP.psr;have g7:Gs (On b) w6 w7:=⟨g7.os,g7.tape,g7.output,g7.size,g7.block⟩;have n7:∀t j,Y = .inl (t,j)->NewT w6 w7 (.pointer A7) t:=n7;have z7:=g7.size;have hwl7:w.heap.size<w7.heap.size:=(by omega);have k7:=HGB.out w7 (G6.out.trans g7);have G7:=Lib.hid (G6.out.trans g7);have P7:=Lib.hid p7;have N7:=Lib.hid n7;have N67:=Lib.hid (show ∀t j,X1 = .inl (t,j)->NewT w3 w7 (.pointer A6) t from fun t j hx=>(N6.out t j hx).gsb g7 (by omega));clear g7 p7 n7 hP P6 q6)
  | (go_at_call 217;refine(kL _ _ _ _ _).mono ?_;rintro e9 w9 ⟨rfl,h9⟩;have u9:Up w7 w9:=(by rw[h9];exact((Up.refl w7).alloc _).alloc _);have k9:=u9.cell k7;have z9:w9.heap.size=w7.heap.size+2:=(by rw[h9];simp);have K9:=Lib.hid (show w9.heap[w7.heap.size]? = some (.cells #[.pointer A6,.pointer A7] 24 (0,0)) from(by rw[h9];exact yF _ (heap_alloc_new w7 _)));have NB9:=Lib.hid (show Nb w9 (w7.heap.size+1) ⟨33,0,nob,nob⟩ (.slice (some ⟨w7.heap.size,0,none⟩) 2 2) from(by rw[h9];exact yU _ _ (by simp)));have U9:=Lib.hid u9;have CW:=Lib.hid (fun w' (u:Up w9 w')=>pC HPX.out X HHX.out n (stO Y) so mY HSO.out (fun h0=>by have a:=HO0.out h0;have b:=HN.out a.1;omega) (fun k j e' hj h'=>HCX.out k j e' hj fun h0=>by obtain⟨q0,a,qa,qb⟩:=h' h0;obtain⟨p0,pb⟩:=HO0.out q0;exact⟨p0,a,qa,by omega⟩) C HC.out (w7.heap.size+1) w7.heap.size w3.heap.size 2 ⟨33,0,nob,nob⟩ (.slice (some ⟨w7.heap.size,0,none⟩) 2 2) [.pointer A6,.pointer A7] w' ((P7.out.up U9.out).up u) (((HGU.out w7 G7.out).trans U9.out).trans u) (by omega) (by omega) (by omega) (by omega) (by omega) (by have:=u.size;omega) rfl (by omega) rfl (u.row NB9.out) (zU6 (u.row K9.out) (by omega)));clear h9 u9)
  | (go_at_call 218;refine(CW.out _ (by first | exact Below.refl _ _ | exact qE (Below.refl _ _) 1)).mono ?_;rintro e10 w10 ⟨rfl,g10,p10,t10⟩;have g10:Gs (Thr b (w7.heap.size+1) w7.heap.size) w9 w10:=⟨g10.os,g10.tape,g10.output,g10.size,g10.block⟩;have T10:=Lib.hid (show ∀a y f j,NewT w3 w7 (.pointer A6) a->NewT w3 w7 (.pointer A7) y->C = .inl (f,j)->InT w10 (fun q=>w3.heap.size<=q/\q<w10.heap.size) (.pointer (some ⟨w7.heap.size+1,0,none⟩)) (⟨33,0,nob,nob⟩,(fr2 a y).app f) from fun a y f j ha hy hc=>t10 (fr2 a y) f j ⟨InT.keep ha (fun q hq=>⟨hq.1,(by show q<w9.heap.size;have:=hq.2;omega),(by have:=hq.2;omega),(by have:=hq.2;omega)⟩) (fun q hq=>U9.out.block q hq.2),InT.keep hy (fun q hq=>⟨(by have:=hq.1;omega),(by show q<w9.heap.size;have:=hq.2;omega),(by have:=hq.2;omega),(by have:=hq.2;omega)⟩) (fun q hq=>U9.out.block q hq.2),trivial⟩ hc);have gA:Gs (On b) W0 w9:=G7.out.trans (Gs.of U9.out);have zA:=gA.size;have zB:=g10.size;have GX:=Lib.hid (show Gs (On b) W0 w10 from⟨g10.os.trans gA.os,g10.tape.trans gA.tape,g10.output.trans gA.output,Nat.le_trans gA.size g10.size,fun q hq hn=>(g10.block q (by omega) (by unfold Thr;unfold On at hn;omega)).trans (gA.block q hq hn)⟩);have k10:=HGB.out w10 GX.out;have P10:=Lib.hid p10;clear g10 p10 t10 gA CW))
 all_goals go_wp2_with fail
 go_ret
 have e1:rI (at0 (foldS B.nck B.long l E M) (i+1,e))=(kS (tks l) kEnd (stO C)).1:=congrArg Prod.fst HST.out;have e2:rE (at0 (foldS B.nck B.long l E M) (i+1,e))=(kS (tks l) kEnd (stO C)).2:=congrArg Prod.snd HST.out;refine PaT.mk ((Gs.of U0.out).trans GX.out) (by rw[e1,e2];exact P10.out) fun t j ht=>?_
 obtain⟨a,y,f,j1,jy,j2,hA,hY,hB,rfl⟩:=HVAL.out t j ht;exact InT.keep (T10.out a y f j2 (N67.out a j1 hA) ((N7.out y jy hY).base (by omega)) hB) (fun q hq=>⟨by have:=hq.1;omega,hq.2⟩) fun _ _=>rfl
end
section
variable {nk lg:ByteArray->Bool} {l:List Te}
theorem zQ2 (n j:Nat) (h:(hdE lg l j).any=false):qV nk lg l n j = .inr (j,6):=by
 cases n with
 | zero=>rw[qV]
 | succ n=>
  rw[kE];unfold zO
  cases hd:hdE lg l j with
  | no=>rfl
  | num n=>rw[hd] at h;cases h
  | var n=>rw[hd] at h;cases h
  | boo n=>rw[hd] at h;cases h
  | sel n=>rw[hd] at h;cases h
  | opn=>rw[hd] at h;cases h
theorem In.low {α:Type} {N i:Nat} {R:Rs α} (h:In N i R):i<=rI R:=by
 cases R with
 | inl r=>exact Nat.le_of_lt h.1
 | inr r=>exact h.1
theorem zU7 (n j:Nat) (h:(hdE lg l j).any=true):j<rI (qV nk lg l (n+1) j):=by
 have hl:j+1<=l.length:=wC (lg:=lg) h;obtain⟨hE,hA,-⟩:=lK (nk:=nk) (lg:=lg) (l:=l) n;rw[kE];unfold zO
 cases hd:hdE lg l j with
 | no=>rw[hd] at h;cases h
 | num n=>exact Nat.lt_succ_self j
 | var n=>exact Nat.lt_succ_self j
 | boo n=>exact Nat.lt_succ_self j
 | sel k=>
  have h1:In l.length (j+1) (thn (qV nk lg l n (j+1)) fun a m=>.inl (nd k nob (fr1 a),m)):=(hA (j+1) hl).bnd0 fun a m _ _ hm=>qR (Nat.le_refl _) hm
  exact h1.low
 | opn=>
  simp only
  split
  ·show j<j+2
   omega
  ·have h1:=(hE (j+1) hl).bnd0 (f:=fun a m=>if key (tks l) m yN=true then thn (thenK (tks l) (exprF nk lg l n (m+1)) [kShut]) fun b m=>.inl (nd 26 nob (fr2 a b),m) else thn (keysL (tks l) m [kShut]) fun _ m=>.inl (a,m)) fun a m _ _ hm=>by
    split
    ·rename_i hk
     exact(((qL (hE (m+1) (qF hk))).bnd0 fun _ _ _ _ hm=>qR (Nat.le_refl _) hm).weak).down (Nat.le_succ m)
    ·exact(yB _ m hm).bnd fun _ _ _ _ hm=>qR (Nat.le_refl _) hm
   exact h1.low
end
section
variable {V0:World} {v:Value} {l:List Te} {b:Nat}
theorem zWh (P:Px9 V0 v l b) (n m i:Nat) (e:Int) (hi:i<=l.length) (hn:e=0->l.length-i+1<=n) (hm:e=0->2*(l.length-i)+1<=m+1) (cE:∀k j,k<m+1->e=0->i<j->j<=l.length->2*(l.length-j)+2<=k->RuAt V0 v b 191 (exprF B.nck B.long l k) j 0) :
  RuAt V0 v b 220 (cmpS B.long l n (qV B.nck B.long l (m+1))) i e:=by
 have hA:=(lK (nk:=B.nck) (lg:=B.long) (l:=l) (m+1)).2.1;exact zKn P.Q n _ hA i e hi fun j e' hj he'=>zKm P.Q n _ hA j e' hj (fun h0=>by have:=hn (he' h0).1;have:=(he' h0).2;omega) fun j2 e2 hj2 he2=>
  zKo P.Q n _ hA (fun j=>zQ2 (m+1) j) (fun j=>zU7 m j) j2 e2 hj2 (fun h0=>by have a:=he2 h0;have a1:=he' a.1;have:=hn a1.1;have:=a.2;have:=a1.2;omega) fun j3 e3 w' hj3 he3 u p=>
   zNd P.Q P.K (m+1) j3 e3 hj3 (fun h0=>by have a3:=he3 h0;have a:=he2 a3.1;have a1:=he' a.1;have:=hm a1.1;have:=a.2;have:=a1.2;have:=a3.2;omega) w' p u fun k j hk h0 hj' hjl hb=>by
    have a3:=he3 h0;have a:=he2 a3.1;have a1:=he' a.1;exact cE k j hk a1.1 (by have:=a.2;have:=a1.2;have:=a3.2;omega) hjl hb
theorem uZ (P:Px9 V0 v l b) (R:Nat->Rs Tr) (i:Nat) (e:Int) (he:¬e=0) (hi:i<=l.length):RuAt V0 v b 191 R i e:=fun w hu h=>by
 have c:=zRz P.Q _ i e hi (zE he) (zE he) (zE he) (zE he) (zE he) (zWh P 1 0 i e hi (fun h0=>absurd h0 he) (fun h0=>absurd h0 he) fun _ _ _ h0=>absurd h0 he) w hu h;rw[qM _ (show ¬(i,e).2=0 from he)] at c ⊢;exact c
theorem zQ3 (P:Px9 V0 v l b):∀(m i:Nat) (e:Int),i<=l.length->(e=0->2*(l.length-i)+2<=m)->RuAt V0 v b 191 (exprF B.nck B.long l m) i e:=by
 intro m
 induction m using Nat.strongRecOn with
 | _ m ih=>
 intro i e hi hm
 by_cases he:e=0
 ·subst he
  have hm:=hm rfl;obtain⟨n,rfl⟩:∃n,m=n+2:=⟨m-2,by omega⟩;have hE:∀j,j<=l.length->In l.length j (exprF B.nck B.long l (n+1) j):=fun j hj=>vI hj
  have cE:∀(j:Nat) (e':Int),j<=l.length->(e'=0->(0:Int)=0/\i<j)->RuAt V0 v b 191 (exprF B.nck B.long l (n+1)) j e':=fun j e' hj he'=>ih (n+1) (by omega) j e' hj fun h0=>by have:=(he' h0).2;omega
  have cX:∀(k j:Nat) (e':Int),j<=l.length->(e'=0->(0:Int)=0/\∃a,k+a+1=n+1/\i+1+a<j)->RuAt V0 v b 191 (exprF B.nck B.long l k) j e':=fun k j e' hj he'=>by
   by_cases h0:e'=0
   ·obtain⟨-,a,h1,h2⟩:=he' h0
    exact ih k (by omega) j e' hj fun _=>by omega
   ·exact uZ P _ j e' h0 hj
  intro w hu h;rw[qG,gR];unfold exprS
  by_cases h1:key (tks l) i kFn=true
  ·rw[if_pos h1]
   have c:=ex_fn P.Q _ i 0 hi (by rw[qQ];exact h1) (uV P _ hE (i+1) 0 (qF h1) fun j e' hj he'=>cE j e' hj fun h0=>⟨rfl,by have:=(he' h0).2;omega⟩) w hu h;rw[qG] at c;exact c
  have h1:=eq_false_of_ne_true h1;rw[if_neg (by rw[h1];exact Bool.false_ne_true)]
  by_cases h2:key (tks l) i kLet=true
  ·rw[if_pos h2]
   have c:=zKw P _ hE i 0 hi (qF h2) (by rw[qQ];exact h1) (by rw[qQ];exact h2) cE w hu h;rw[qG] at c;exact c
  have h2:=eq_false_of_ne_true h2;rw[if_neg (by rw[h2];exact Bool.false_ne_true)]
  by_cases h3:key (tks l) i kIf=true
  ·rw[if_pos h3]
   have c:=ex_if P _ hE i 0 hi (qF h3) (by rw[qQ];exact h1) (by rw[qQ];exact h2) (by rw[qQ];exact h3) cE w hu h;rw[qG] at c;exact c
  have h3:=eq_false_of_ne_true h3;rw[if_neg (by rw[h3];exact Bool.false_ne_true)]
  by_cases h4:key (tks l) i kCase=true
  ·rw[if_pos h4]
   have c:=zNg P _ hE (exprF B.nck B.long l) (fun n j hj=>vI hj) (n+1) (armsF B.nck B.long l (n+1)) (fun j=>lR (n+1) j .nil) i 0 hi (qF h4) (by rw[qQ];exact h1) (by rw[qQ];exact h2) (by rw[qQ];exact h3) (by rw[qQ];exact h4) (fun _=>by omega) cX cE w hu h;rw[qG] at c;exact c
  have h4:=eq_false_of_ne_true h4;rw[if_neg (by rw[h4];exact Bool.false_ne_true)]
  by_cases h5:key (tks l) i kFold=true
  ·rw[if_pos h5]
   have c:=zNh P _ hE (exprF B.nck B.long l) (fun n j hj=>vI hj) (n+1) (armsF B.nck B.long l (n+1)) (fun j=>lR (n+1) j .nil) i 0 hi (qF h5) (by rw[qQ];exact h1) (by rw[qQ];exact h2) (by rw[qQ];exact h3) (by rw[qQ];exact h4) (by rw[qQ];exact h5) (fun _=>by omega) cX cE w hu h;rw[qG] at c;exact c
  have h5:=eq_false_of_ne_true h5;rw[if_neg (by rw[h5];exact Bool.false_ne_true)];have c:=zRz P.Q _ i 0 hi (by rw[qQ];exact h1) (by rw[qQ];exact h2) (by rw[qQ];exact h3) (by rw[qQ];exact h4) (by rw[qQ];exact h5) (zWh P (n+2) n i 0 hi (fun _=>by omega) (fun _=>by omega) fun k j hk _ hij hj hb=>ih k (by omega) j 0 hj fun _=>hb) w hu h;rw[qG] at c;exact c
 ·exact uZ P _ i e he hi
end
end Go.Proofs.YtgeghilbikljcaaGreatDoor
namespace Go.Proofs.YtgeghilbikljcaaGreatDoor
def ne (s:ByteArray):Te:=⟨nmT s,0⟩
section
variable (nb:Int->ByteArray)
end
section
variable {nk lg:ByteArray->Bool} {l:List Te}
end
end Go.Proofs.YtgeghilbikljcaaGreatDoor
namespace Go.Proofs.YtgeghilbikljcaaGreatDoor
open Go.RowKit
def expZ (nk lg:ByteArray->Bool) (l:List Te) (n:Nat) (i:Int):Rs Tr:=if i<0\/(l.length:Int)<i then .inr (0,2) else exprF nk lg l n i.toNat
end Go.Proofs.YtgeghilbikljcaaGreatDoor
