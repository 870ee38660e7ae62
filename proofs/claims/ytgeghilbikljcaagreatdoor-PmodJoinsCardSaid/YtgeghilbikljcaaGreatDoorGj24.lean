/-
  Layer 8, the program: value (written by gmd.py).
-/
import Derived.Test.YtgeghilbikljcaaGreatDoorGj23
set_option maxHeartbeats 40000000
set_option maxRecDepth 100000
namespace Go.Proofs.YtgeghilbikljcaaGreatDoor
open Go.RowKit
structure ApR (b:Nat) (v:Value) (W0 w3:World) (Bm:Nat) (x:Nod) (vk:Value) (ps:List Value) (n:Nat) (X:Rs Tr) (A:Option Addr) (w4 w5:World) (g cap:Nat):Prop where
 nd:NdM W0 (w4.alloc (.cells #[.pointer A] 24)) Bm x vk ps
 gc:Gs (On b) W0 w4
 go:Gs (On b) w3 w4
 p:Psr w4 b v (rI X) (rE X)
 new:∀t j,X = .inl (t,j)->NewT w3 w4 (.pointer A) t
 ho:w5.ownsRow W0.heap.size 24 1 (.slice (some ⟨g,0,none⟩) (n+1) cap) (n+1) (ps++[.pointer A])
 hg:(w4.alloc (.cells #[.pointer A] 24)).grownBy w5 vk.ownBlock
 ha:vk.ownBlock=some g\/g=w4.heap.size+1
def apW (Bm:Nat) (w5:World) (g n cap:Nat):World:=w5.setCell ⟨Bm,4,none⟩ (.slice (some ⟨g,0,none⟩) (n+1) cap)
theorem ApR.fin {b:Nat} {v:Value} {W0 w3:World} {Bm:Nat} {x:Nod} {vk:Value} {ps:List Value} {n:Nat} {X:Rs Tr} {A:Option Addr} {w4 w5:World} {g cap:Nat} (h:ApR b v W0 w3 Bm x vk ps n X A w4 w5 g cap) (hl:ps.length=n) (hb:b<W0.heap.size) (hB:Bm<w3.heap.size) (hW:W0.heap.size<=w3.heap.size) (hlt:∀g,vk.ownBlock=some g->g<w3.heap.size) :
  NdM W0 (apW Bm w5 g n cap) Bm x (.slice (some ⟨g,0,none⟩) (n+1) cap) (ps++[.pointer A])/\Gs (On b) W0 (apW Bm w5 g n cap)/\Psr (apW Bm w5 g n cap) b v (stO X).1 (stO X).2/\∀f t j,X = .inl (t,j)->KdM W0 w3 Bm vk ps f->KdM W0 (apW Bm w5 g n cap) Bm (.slice (some ⟨g,0,none⟩) (n+1) cap) (ps++[.pointer A]) (f.app (fr1 t)):=by
 have hz:(w4.alloc (.cells #[.pointer A] 24)).heap.size=w4.heap.size+1:=by simp
 have hat:vk.ownBlock=some g\/g=(w4.alloc (.cells #[.pointer A] 24)).heap.size:=by rw[hz];exact h.ha
 refine⟨h.nd.more (us:=[.pointer A]) (n:=n+1) (fun u hu=>⟨_,List.mem_singleton.1 hu⟩) (by rw[List.length_append,hl];rfl) h.ho h.hg rfl hat,h.nd.gmore (h.gc.alloc _) (Nat.le_refl _) h.hg,(h.nd.wmore h.hg).row (h.p.up ((Up.refl _).alloc _)) (by unfold FromW;omega),fun f t j hX hk=>?_⟩;exact KdM.more ((hk.gs h.go (fun k hk=>by unfold On at hk;omega)).up ((Up.refl _).alloc _)) h.hg rfl hat (PtF.one1 ((h.new t j hX).up ((Up.refl _).alloc _))) hW hB hlt
section
variable {V0:World} {v:Value} {l:List Te} {b:Nat}
theorem zQ6 (P:Px9 V0 v l b) (m:Nat) (hm:2*l.length+2<=m) (i:Nat) (e:Int) (hi:i<=l.length):FnAt V0 v b 84 #[.agg #[.pointer (some ⟨b,0,none⟩)]] (valR B.nck l (typL B.nck B.long (tks l)) (exprF B.nck B.long l m)) (i,e):=fun w hu h=>by
 have hb:b<w.heap.size:=qC h;have hbV:=P.Q.hb;have hll:=P.Q.hl;obtain⟨W0,hW0⟩:∃W0,w.alloc (.cells #[.pointer (some ⟨b,0,none⟩)] 51)=W0:=⟨_,rfl⟩;have u0:Up w W0:=by rw[<- hW0];exact(Up.refl w).alloc _
 have b1:W0.heap[w.heap.size]? = some (.cells #[.pointer (some ⟨b,0,none⟩)] 51 (0,0)):=by rw[<- hW0];exact heap_alloc_new w _
 have hgU:∀w',Gs (On b) W0 w'->Up V0 w':=fun w' g=>g.up (hu.trans u0) fun q hq=>by rw[hq];exact hbV
 have hgB:∀w',Gs (On b) W0 w'->w'.cell? ⟨w.heap.size,0,none⟩=some (.pointer (some ⟨b,0,none⟩)):=fun w' g=>cell_of_row w' w.heap.size 0 _ _ _ (g.row b1 (by unfold On;omega))
 have hzW0:W0.heap.size=w.heap.size+1:=by rw[<- hW0];simp
 have k0:=hgB W0 (Gs.refl _ _);have p0:=h.up u0;have hl1:=kJ l B.nck (s:=(i,e)) hi;obtain⟨G,hG⟩:∃G,at0 (valR B.nck l (typL B.nck B.long (tks l)) (exprF B.nck B.long l m)) (i,e)=G:=⟨_,rfl⟩;have hG1:=hG.symm;unfold valR at hG1;rw[yJ,zYk] at hG1;obtain⟨s1,hs1⟩:∃s1,nS B.nck (tks l) (i,e)=s1:=⟨_,rfl⟩;have c1:=xK P i e hi W0 p0 (hgU W0 (Gs.refl _ _));obtain⟨nm,hnm⟩:∃nm,nmS (nam B.nck (tks l) i) e=nm:=⟨_,rfl⟩;rw[hs1] at c1 hl1 hG1;rw[hnm] at c1;obtain⟨d0,hd0⟩:∃d:Tr,nd 0 nob .nil=d:=⟨_,rfl⟩;have hlc:=zI l qH hl1;have hle:=fun(s:SS) (hs:s.1<=l.length)=>yA (R:=behR l kEq (exprF B.nck B.long l m)) (d:=d0) (s:=s) (f:=fun x q=>(.inl (nd 70 nm (fr1 x),q):Rs Tr)) fun _=>(vM (iH m) kEq).ne hs
 have hle2:=fun(t:Tr) (s:SS) (hs:s.1<=l.length)=>yA (R:=behR l kEq (exprF B.nck B.long l m)) (d:=d0) (s:=s) (f:=fun x q=>(.inl (nd 70 nm (fr2 t x),q):Rs Tr)) fun _=>(vM (iH m) kEq).ne hs
 rw[show nmS (nam B.nck (tks l) (i,e).1) (i,e).2=nm from hnm,yA (R:=behR l qH (typL B.nck B.long (tks l))) (d:=d0) (fun _=>(vM jC qH).ne hl1),wL,hle s1 hl1,wL] at hG1;have h00:=xX (l:=l) jC hlc;have hlx:=rK (l:=l) jC hlc;have cB:=fun w' (u:Up V0 w') (p:Psr w' b v s1.1 s1.2)=>behT P qH s1 hl1 w' u p
 obtain⟨X,hX⟩:∃X,at0 (typL B.nck B.long (tks l)) (kS (tks l) qH s1)=X:=⟨_,rfl⟩;rw[hX] at hG1 cB h00 hlx;rw[hle2 _ _ hlx,wL] at hG1;obtain⟨d,hd⟩:∃d,tkB (tks l) s1.1 s1.2 qH=d:=⟨_,rfl⟩;rw[hd] at hG1;rw[hG];have HEQ:Hid (∀(w':World) (s:SS),s.1<=l.length->Up V0 w'->Psr w' b v s.1 s.2->Calls Tryz.prog 47 #[.agg #[.pointer (some ⟨b,0,none⟩)],.string kEq,.func (.func 128) #[.agg #[.pointer (some ⟨b,0,none⟩)]] #[]] w' (PaT (On b) b v (at0 (exprF B.nck B.long l m) (kS (tks l) kEq s)) (fun _ _=>True) w')):=Lib.hid fun w' s hs u p=>behE P m hm kEq s hs w' u p
 have HE0:Hid (∀s:SS,s.1<=l.length->(stO (at0 (exprF B.nck B.long l m) (kS (tks l) kEq s))).2=0->s.2=0/\∃a,at0 (exprF B.nck B.long l m) (kS (tks l) kEq s) = .inl (a,(stO (at0 (exprF B.nck B.long l m) (kS (tks l) kEq s))).1)):=Lib.hid fun s hs h0=>by
  obtain⟨a1,-,a3⟩:=xX (iH m) (zI l kEq hs) h0;exact⟨(yP a1).1,a3⟩
 have HG1:=Lib.hid hG1;have CB:=Lib.hid cB;have H00:=Lib.hid h00;have HD:=Lib.hid hd;obtain⟨i0,hi0,hz0,hz1,hz2⟩:=info_parts xT;have HPX:=Lib.hid P;have HGU:=Lib.hid hgU;have HGB:=Lib.hid hgB;have HW0:=Lib.hid hW0;have U0:=Lib.hid u0;have B1:=Lib.hid b1;have P0:=Lib.hid p0;clear hW0 u0 b1 h hu P hgU hgB p0;clear hG hG1 hs1 hnm cB h00 hX hd hle hle2
 go_enter Tryz.func84,Tryz.ntmps84
 go_wp2_with fail;rw[HW0.out];refine c1.mono ?_;rintro en w1 ⟨rfl,g1,p1⟩;have k1:=HGB.out w1 g1;have G1:=Lib.hid g1;have P1:=Lib.hid p1;clear g1 p1 c1;go_wp2_with fail;refine(jH 70 nm none 0 0 w1).mono ?_;rintro en w2 ⟨rfl,hw2⟩;have zz:=G1.out.size;have u2:Up w1 w2:=by rw[hw2];exact(Up.refl _).alloc _
 have nb2:NdM W0 w2 w1.heap.size ⟨70,0,nm,nob⟩ (.slice none 0 0) []:=by rw[hw2];exact NdM.new (x:=⟨70,0,nm,nob⟩) zz
 have g2:=G1.out.trans (Gs.of u2);have k2:=HGB.out w2 g2;have cS:=yW b v s1.1 s1.2 qH w2 HPX.out.Q.T (P1.out.up u2) (HGU.out w2 g2);rw[HD.out] at cS;have U2:=Lib.hid u2;have NB2:=Lib.hid nb2;have G2:=Lib.hid g2;clear u2 nb2 g2 hw2;go_wp2_with fail;refine cS.mono ?_;rintro en w3 ⟨rfl,u3⟩;have u3:Up w2 w3:=u3;have g3:=G2.out.trans (Gs.of u3);have P3:=Lib.hid ((P1.out.up U2.out).up u3);have ND3:=Lib.hid (NB2.out.up u3);have G3:=Lib.hid g3;have k3:=HGB.out w3 g3;have c3:=(NB2.out.up u3).node.cell.1;obtain⟨Bm,hBm⟩:∃Bm,w1.heap.size=Bm:=⟨_,rfl⟩;have hWB:W0.heap.size<=Bm:=by omega
 rw[hBm] at ND3 c3 ⊢;clear u3 g3 cS NB2 hBm
 rcases d with _ | _
 focus
  obtain⟨w6,rfl⟩:∃x,x=w3:=⟨_,rfl⟩;obtain⟨s5,rfl⟩:∃x,x=s1:=⟨_,rfl⟩;obtain⟨vk,hvk⟩:∃x,Value.slice none 0 0=x:=⟨_,rfl⟩;obtain⟨ps,hps⟩:∃x:List Value,[]=x:=⟨_,rfl⟩;obtain⟨f,hf⟩:∃x:Fr,.nil=x:=⟨_,rfl⟩;obtain⟨n,hn⟩:∃n:Nat,0=n:=⟨_,rfl⟩;have HGE:Hid (G=at0 (fun q=>.inl ((⟨70,0,nm,nob⟩,f.app (fr1 (valD d0 (at0 (exprF B.nck B.long l m) (kS (tks l) kEq s5))))),q)) (stO (at0 (exprF B.nck B.long l m) (kS (tks l) kEq s5)))):=Lib.hid (by rw[<- hf];exact HG1.out);have KD6:Hid (s5.2=0->KdM W0 w6 Bm vk ps f):=Lib.hid fun _=>by rw[<- hvk,<- hps,<- hf];exact KdM.nil
  have HNL7:Hid (ps.length=n):=Lib.hid (by rw[<- hps,<- hn];rfl);have hnn:n<=1:=by omega
  have hl5:s5.1<=l.length:=hl1;have hBw:Bm<w6.heap.size:=qC ND3.out.node;rw[hvk] at c3;have ND6:Hid (NdM W0 w6 Bm ⟨70,0,nm,nob⟩ vk ps):=Lib.hid (by rw[<- hvk,<- hps];exact ND3.out);have P6:=P3;have G6:=G3;have k6:=k3;have c6:=c3;clear HG1 HD H00 CB hvk hps hf hn k3 c3 ND3
 rotate_left
 focus
  have CB3:Hid (∀w',Up w3 w'->Calls Tryz.prog 47 #[.agg #[.pointer (some ⟨b,0,none⟩)],.string qH,.func (.func 48) #[.agg #[.pointer (some ⟨b,0,none⟩)]] #[]] w' (PaT (On b) b v X (fun _ _=>True) w')):=Lib.hid fun w' u=>CB.out w' ((HGU.out w3 G3.out).trans u) (P3.out.up u)
  have HNL4:Hid (([]:List Value).length=0):=Lib.hid rfl;go_wp2_with fail;refine Code.wp_mono (Q:=fun ex a' w'=>ex = .normal/\∃(A:Option Addr) (w4 w5:World) (g cap:Nat),a'=⟨#[.agg #[.pointer (some ⟨b,0,none⟩)],.pointer (some ⟨w.heap.size,0,none⟩),.pointer none,.pointer (some ⟨Bm,0,none⟩),.pointer (some ⟨w.heap.size,0,none⟩),.pointer (some ⟨b,0,none⟩),.string nm,.pointer (some ⟨Bm,0,none⟩),.pointer (some ⟨w.heap.size,0,none⟩),.pointer (some ⟨b,0,none⟩),.bool true,.pointer (some ⟨Bm,0,none⟩),.pointer (some ⟨Bm,0,none⟩),.pointer (some ⟨Bm,0,none⟩),.pointer (some ⟨Bm,4,none⟩),.slice none 0 0,.agg #[.pointer (some ⟨b,0,none⟩)],.agg #[.pointer (some ⟨b,0,none⟩)],.func (.func 48) #[.agg #[.pointer (some ⟨b,0,none⟩)]] #[],.pointer A,.slice (some ⟨w4.heap.size,0,none⟩) 1 1,.slice (some ⟨g,0,none⟩) 1 cap,.pointer (some ⟨Bm,0,none⟩),.pointer (some ⟨Bm,4,none⟩),undef,undef,undef,undef,undef,undef,undef,undef,undef,undef,undef,undef,undef,undef],[]⟩/\w'=apW Bm w5 g 0 cap/\ApR b v W0 w3 Bm ⟨70,0,nm,nob⟩ (.slice none 0 0) [] 0 X A w4 w5 g cap) (fun ex a' w' hq=>?_) ?_
  rotate_left
  ·skip
   refine wp_region_held_drew (S:=fun w'=>w'.cell? ⟨w.heap.size,0,none⟩=some (.pointer (some ⟨b,0,none⟩))) (by kernel_rfl) (k3) (fun hHeld=>?_);refine wpAnyH_take (i:=0) (oi:={dst:=some 11,op:=Op.move (Operand.tmp 3),type:=24,pos:= "parse.go:159",after:=#[],guard:=none}) (v:=?_) rfl (by kernel_rfl) (by kernel_rfl) (by kernel_rfl) (fun _ _ _ h=>(by cases h.1)) (Or.inl ⟨by rfl,?_⟩) (by assumption) ?_
   rotate_left
   ·(intro w' hSw;(try dsimp only at hSw);go_simp;with_reducible rfl)
   (try simp only[Act.put,List.setIfInBounds_toArray,List.set_cons_zero,List.set_cons_succ])
   refine wpAnyH_take (i:=1) (oi:={dst:=some 12,op:=Op.move (Operand.tmp 3),type:=24,pos:= "parse.go:159",after:=#[],guard:=none}) (v:=?_) rfl (by kernel_rfl) (by kernel_rfl) (by kernel_rfl) (fun _ _ _ h=>(by cases h.1)) (Or.inl ⟨by rfl,?_⟩) (by assumption) ?_
   rotate_left
   ·(intro w' hSw;(try dsimp only at hSw);go_simp;with_reducible rfl)
   (try simp only[Act.put,List.setIfInBounds_toArray,List.set_cons_zero,List.set_cons_succ])
   refine wpAnyH_take (i:=2) (oi:={dst:=some 13,op:=Op.nilCheck (Operand.tmp 12),type:=0,pos:= "parse.go:159",after:=#[{on:=1,ground:=Ground.data}],guard:=none}) (v:=?_) rfl (by kernel_rfl) (by kernel_rfl) (by kernel_rfl) (fun _ _ _ h=>(by cases h.1)) (Or.inl ⟨by rfl,?_⟩) (by assumption) ?_
   rotate_left
   ·(intro w' hSw;(try dsimp only at hSw);go_simp;with_reducible rfl)
   (try simp only[Act.put,List.setIfInBounds_toArray,List.set_cons_zero,List.set_cons_succ])
   refine wpAnyH_take (i:=3) (oi:={dst:=some 14,op:=Op.fieldAddr 44 (Operand.tmp 13) 4,type:=0,pos:= "parse.go:159",after:=#[{on:=2,ground:=Ground.data}],guard:=none}) (v:=?_) rfl (by kernel_rfl) (by kernel_rfl) (by kernel_rfl) (fun _ _ _ h=>(by cases h.1)) (Or.inl ⟨by rfl,?_⟩) (by assumption) ?_
   rotate_left
   ·(intro w' hSw;(try dsimp only at hSw);go_simp;with_reducible rfl)
   (try simp only[Act.put,List.setIfInBounds_toArray,List.set_cons_zero,List.set_cons_succ])
   refine wpAnyH_take (i:=5) (oi:={dst:=some 16,op:=Op.load 51 (Operand.tmp 1),type:=51,pos:= "parse.go:159",after:=#[],guard:=none}) (v:=?_) rfl (by kernel_rfl) (by kernel_rfl) (by kernel_rfl) (fun _ _ _ h=>(by cases h.1)) (Or.inl ⟨by rfl,?_⟩) (by assumption) ?_
   rotate_left
   ·(intro w' hSw;(try dsimp only at hSw);go_simp;with_reducible rfl)
   (try simp only[Act.put,List.setIfInBounds_toArray,List.set_cons_zero,List.set_cons_succ])
   refine wpAnyH_take (i:=6) (oi:={dst:=some 17,op:=Op.load 51 (Operand.tmp 1),type:=51,pos:= "parse.go:159",after:=#[],guard:=none}) (v:=?_) rfl (by kernel_rfl) (by kernel_rfl) (by kernel_rfl) (fun _ _ _ h=>(by cases h.1)) (Or.inl ⟨by rfl,?_⟩) (by assumption) ?_
   rotate_left
   ·(intro w' hSw;(try dsimp only at hSw);go_simp;with_reducible rfl)
   (try simp only[Act.put,List.setIfInBounds_toArray,List.set_cons_zero,List.set_cons_succ])
   refine wpAnyH_take (i:=7) (oi:={dst:=some 18,op:=Op.makeFunc (Fn.func 48) #[Operand.tmp 17] #[],type:=52,pos:= "parse.go:159",after:=#[{on:=6,ground:=Ground.data}],guard:=none}) (v:=?_) rfl (by kernel_rfl) (by kernel_rfl) (by kernel_rfl) (fun _ _ _ h=>(by cases h.1)) (Or.inl ⟨by rfl,?_⟩) (by assumption) ?_
   rotate_left
   ·(intro w' hSw;(try dsimp only at hSw);go_simp;with_reducible rfl)
   (try simp only[Act.put,List.setIfInBounds_toArray,List.set_cons_zero,List.set_cons_succ])
   refine wpAnyH_ready (rs:=[4,8]) (by kernel_rfl) (by simp) (AllReadyH.cons (o:={dst:=some 15,op:=Op.load 33 (Operand.tmp 14),type:=33,pos:= "parse.go:159",after:=#[{on:=3,ground:=Ground.data}],guard:=none}) rfl (fun K hK=>?_) (AllReadyH.cons (o:={dst:=some 19,op:=Op.call {callee:=Callee.value (Operand.func 47),args:=#[Operand.tmp 16,Operand.const (Value.string {data:=#[58]}),Operand.tmp 18],argTypes:=#[51,9,52]},type:=24,pos:= "parse.go:159",after:=#[{on:=5,ground:=Ground.data},{on:=7,ground:=Ground.data}],guard:=none}) rfl (fun K hK=>?_) AllReadyH.nil))
   go_simp
   refine hK.out _ _ (by assumption) (fun hHeld=>?_);clear hK K
   (try simp only[Act.put,List.setIfInBounds_toArray,List.set_cons_zero,List.set_cons_succ])
   refine wpAnyH_ready (rs:=[8]) (by kernel_rfl) (by simp) (AllReadyH.cons (o:={dst:=some 19,op:=Op.call {callee:=Callee.value (Operand.func 47),args:=#[Operand.tmp 16,Operand.const (Value.string {data:=#[58]}),Operand.tmp 18],argTypes:=#[51,9,52]},type:=24,pos:= "parse.go:159",after:=#[{on:=5,ground:=Ground.data},{on:=7,ground:=Ground.data}],guard:=none}) rfl (fun K hK=>?_) AllReadyH.nil)
   go_simp
   go_at_call 47
   refine(CB3.out _ (by first | exact Below.refl _ _ | exact qE (Below.refl _ _) 1)).mono ?_
   rintro e9 w4 hP;obtain⟨A4,rfl,g9,p9,n9⟩:=hP.psr;have g9:Gs (On b) w3 w4:=⟨g9.os,g9.tape,g9.output,g9.size,g9.block⟩;have n9:∀t j,X = .inl (t,j)->NewT w3 w4 (.pointer A4) t:=n9;have zc4:=g9.size;have nd9:=ND3.out.gs g9 (fun k hk=>by unfold On at hk;omega);have k4:=HGB.out w4 (G3.out.trans g9);have c4:=nd9.node.cell.1;have u9:=(Up.refl w4).alloc (.cells #[.pointer A4] 24);have ka4:=u9.cell k4;have ca4:=u9.cell c4;have ow9:=(nd9.up u9).own;rw[HNL4.out] at ow9;have OW4:=Lib.hid ow9;have ND4:=Lib.hid (nd9.up u9);have GC4:=Lib.hid (G3.out.trans g9);have GO4:=Lib.hid g9;have PC4:=Lib.hid p9;have NC4:=Lib.hid n9;have HE4:=Lib.hid (cell_one_new w4 (.pointer A4) 24);have hza4:(w4.alloc (.cells #[.pointer A4] 24)).heap.size=w4.heap.size+1:=by simp
   have hzb4:W0.heap.size<=(w4.alloc (.cells #[.pointer A4] 24)).heap.size:=by have:=GC4.out.size;omega
   clear g9 p9 n9 nd9 u9 ow9 hP;go_wp2_with fail;refine hK.out _ _ k4 (fun hHeld=>?_);clear hK K
   (try simp only[Act.put,List.setIfInBounds_toArray,List.set_cons_zero,List.set_cons_succ])
   refine wpAnyH_ready (rs:=[9]) (by kernel_rfl) (by simp) (AllReadyH.cons (o:={dst:=some 20,op:=Op.buildSlice 33 1 #[(0,Operand.tmp 19)],type:=33,pos:= "parse.go:159",after:=#[{on:=8,ground:=Ground.data}],guard:=none}) rfl (fun K hK=>?_) AllReadyH.nil)
   go_simp
   refine hK.out _ _ (ka4) (fun hHeld=>?_);clear hK K
   (try simp only[Act.put,List.setIfInBounds_toArray,List.set_cons_zero,List.set_cons_succ])
   rotate_left
   go_simp
   go_at_call 47
   refine(CB3.out _ (by first | exact Below.refl _ _ | exact qE (Below.refl _ _) 1)).mono ?_
   rintro e9 w4 hP;obtain⟨A4,rfl,g9,p9,n9⟩:=hP.psr;have g9:Gs (On b) w3 w4:=⟨g9.os,g9.tape,g9.output,g9.size,g9.block⟩;have n9:∀t j,X = .inl (t,j)->NewT w3 w4 (.pointer A4) t:=n9;have zc4:=g9.size;have nd9:=ND3.out.gs g9 (fun k hk=>by unfold On at hk;omega);have k4:=HGB.out w4 (G3.out.trans g9);have c4:=nd9.node.cell.1;have u9:=(Up.refl w4).alloc (.cells #[.pointer A4] 24);have ka4:=u9.cell k4;have ca4:=u9.cell c4;have ow9:=(nd9.up u9).own;rw[HNL4.out] at ow9;have OW4:=Lib.hid ow9;have ND4:=Lib.hid (nd9.up u9);have GC4:=Lib.hid (G3.out.trans g9);have GO4:=Lib.hid g9;have PC4:=Lib.hid p9;have NC4:=Lib.hid n9;have HE4:=Lib.hid (cell_one_new w4 (.pointer A4) 24);have hza4:(w4.alloc (.cells #[.pointer A4] 24)).heap.size=w4.heap.size+1:=by simp
   have hzb4:W0.heap.size<=(w4.alloc (.cells #[.pointer A4] 24)).heap.size:=by have:=GC4.out.size;omega
   clear g9 p9 n9 nd9 u9 ow9 hP;go_wp2_with fail;refine hK.out _ _ k4 (fun hHeld=>?_);clear hK K
   (try simp only[Act.put,List.setIfInBounds_toArray,List.set_cons_zero,List.set_cons_succ])
   refine wpAnyH_ready (rs:=[4,9]) (by kernel_rfl) (by simp) (AllReadyH.cons (o:={dst:=some 15,op:=Op.load 33 (Operand.tmp 14),type:=33,pos:= "parse.go:159",after:=#[{on:=3,ground:=Ground.data}],guard:=none}) rfl (fun K hK=>?_) (AllReadyH.cons (o:={dst:=some 20,op:=Op.buildSlice 33 1 #[(0,Operand.tmp 19)],type:=33,pos:= "parse.go:159",after:=#[{on:=8,ground:=Ground.data}],guard:=none}) rfl (fun K hK=>?_) AllReadyH.nil))
   go_simp
   refine hK.out _ _ (by assumption) (fun hHeld=>?_);clear hK K
   (try simp only[Act.put,List.setIfInBounds_toArray,List.set_cons_zero,List.set_cons_succ])
   refine wpAnyH_ready (rs:=[9]) (by kernel_rfl) (by simp) (AllReadyH.cons (o:={dst:=some 20,op:=Op.buildSlice 33 1 #[(0,Operand.tmp 19)],type:=33,pos:= "parse.go:159",after:=#[{on:=8,ground:=Ground.data}],guard:=none}) rfl (fun K hK=>?_) AllReadyH.nil)
   go_simp
   refine hK.out _ _ (ka4) (fun hHeld=>?_);clear hK K
   (try simp only[Act.put,List.setIfInBounds_toArray,List.set_cons_zero,List.set_cons_succ])
   rotate_left
   go_simp
   refine hK.out _ _ (ka4) (fun hHeld=>?_);clear hK K
   (try simp only[Act.put,List.setIfInBounds_toArray,List.set_cons_zero,List.set_cons_succ])
   refine wpAnyH_ready (rs:=[4]) (by kernel_rfl) (by simp) (AllReadyH.cons (o:={dst:=some 15,op:=Op.load 33 (Operand.tmp 14),type:=33,pos:= "parse.go:159",after:=#[{on:=3,ground:=Ground.data}],guard:=none}) rfl (fun K hK=>?_) AllReadyH.nil)
   go_simp
   refine hK.out _ _ (by assumption) (fun hHeld=>?_);clear hK K
   (try simp only[Act.put,List.setIfInBounds_toArray,List.set_cons_zero,List.set_cons_succ])
   all_goals
    refine wpAnyH_ready (rs:=[10]) (by kernel_rfl) (by simp) (AllReadyH.cons (o:={dst:=some 21,op:=Op.call {callee:=Callee.builtin Builtin.append,args:=#[Operand.tmp 15,Operand.tmp 20],argTypes:=#[33,33]},type:=33,pos:= "parse.go:159",after:=#[{on:=4,ground:=Ground.data},{on:=9,ground:=Ground.data},{on:=8,ground:=Ground.chain}],guard:=none}) rfl (fun K hK=>?_) AllReadyH.nil);refine step_append_lies _ (by rfl) _ _ _ (by rfl) W0.heap.size 24 i0 _ 1 8 Tryz.underlying33 hi0 hz0 hz1 hz2 rfl (by omega) (.slice none 0 0) 0 [] (by rfl) OW4.out ⟨w4.heap.size,0,none⟩ 1 1 [.pointer A4] (by rfl) (by rfl) HE4.out (by intro u hu;rw[List.mem_singleton.1 hu];rfl) (by omega) (by unfold maxLen;omega) (by omega) hzb4 (w4.heap.size+1) hza4 ?_;intro g5 cap5 w5 ho9 hg9 hat9 hlt9;have nb9:=mJ ND4.out hg9;have c5:=nb9.cell.1;have f5:=nb9.cell.2;have hb5:=qC nb9;have kb9:w5.cell? ⟨w.heap.size,0,none⟩=some (.pointer (some ⟨b,0,none⟩)):=(World.cell?_of_block (hg9.block w.heap.size (by have:=zZ ka4;exact this) (fun e=>by have:=(World.ownsRow.lt OW4.out _ e.symm).1;omega))).trans ka4;have HO5:=Lib.hid ho9;have HG5:=Lib.hid hg9;have HA5:=Lib.hid hat9;have KB5:=Lib.hid kb9;clear ho9 hg9 hat9 hlt9 nb9;refine hK.out _ _ (kb9) (fun hHeld=>?_);clear hK K
    (try simp only[Act.put,List.setIfInBounds_toArray,List.set_cons_zero,List.set_cons_succ])
    refine wpAnyH_take (i:=11) (oi:={dst:=some 22,op:=Op.nilCheck (Operand.tmp 11),type:=0,pos:= "parse.go:159",after:=#[{on:=0,ground:=Ground.data},{on:=0,ground:=Ground.phase},{on:=1,ground:=Ground.phase},{on:=2,ground:=Ground.phase},{on:=3,ground:=Ground.phase},{on:=4,ground:=Ground.phase},{on:=5,ground:=Ground.phase},{on:=6,ground:=Ground.phase},{on:=7,ground:=Ground.phase},{on:=8,ground:=Ground.phase},{on:=9,ground:=Ground.phase},{on:=10,ground:=Ground.phase}],guard:=none}) (v:=?_) rfl (by kernel_rfl) (by kernel_rfl) (by kernel_rfl) (fun _ _ _ h=>(by cases h.1)) (Or.inl ⟨by rfl,?_⟩) (by assumption) ?_
    rotate_left
    ·(intro w' hSw;(try dsimp only at hSw);go_simp;with_reducible rfl)
    (try simp only[Act.put,List.setIfInBounds_toArray,List.set_cons_zero,List.set_cons_succ])
    refine wpAnyH_take (i:=12) (oi:={dst:=some 23,op:=Op.fieldAddr 44 (Operand.tmp 22) 4,type:=0,pos:= "parse.go:159",after:=#[{on:=11,ground:=Ground.data},{on:=0,ground:=Ground.phase},{on:=1,ground:=Ground.phase},{on:=2,ground:=Ground.phase},{on:=3,ground:=Ground.phase},{on:=4,ground:=Ground.phase},{on:=5,ground:=Ground.phase},{on:=6,ground:=Ground.phase},{on:=7,ground:=Ground.phase},{on:=8,ground:=Ground.phase},{on:=9,ground:=Ground.phase},{on:=10,ground:=Ground.phase}],guard:=none}) (v:=?_) rfl (by kernel_rfl) (by kernel_rfl) (by kernel_rfl) (fun _ _ _ h=>(by cases h.1)) (Or.inl ⟨by rfl,?_⟩) (by assumption) ?_
    rotate_left
    ·(intro w' hSw;(try dsimp only at hSw);go_simp;with_reducible rfl)
    (try simp only[Act.put,List.setIfInBounds_toArray,List.set_cons_zero,List.set_cons_succ])
    refine wpAnyH_ready (rs:=[13]) (by kernel_rfl) (by simp) (AllReadyH.cons (o:={dst:=none,op:=Op.store 33 (Operand.tmp 23) (Operand.tmp 21),type:=0,pos:= "parse.go:159",after:=#[{on:=12,ground:=Ground.data},{on:=10,ground:=Ground.data},{on:=10,ground:=Ground.chain},{on:=0,ground:=Ground.phase},{on:=1,ground:=Ground.phase},{on:=2,ground:=Ground.phase},{on:=3,ground:=Ground.phase},{on:=4,ground:=Ground.phase},{on:=5,ground:=Ground.phase},{on:=6,ground:=Ground.phase},{on:=7,ground:=Ground.phase},{on:=8,ground:=Ground.phase},{on:=9,ground:=Ground.phase},{on:=10,ground:=Ground.phase}],guard:=none}) rfl (fun K hK=>?_) AllReadyH.nil)
    go_simp
    refine hK.out _ _ ((World.cell?_setCell_far _ _ _ _ (fun e=>by simp only at e;omega)).trans KB5.out) (fun hHeld=>?_);clear hK K;refine wpAnyH_done (by kernel_rfl) ?_ _
   all_goals (exact⟨rfl,A4,w4,w5,g5,cap5,rfl,rfl,ND4.out,GC4.out,GO4.out,PC4.out,NC4.out,HO5.out,HG5.out,HA5.out⟩)
  obtain⟨rfl,A4,w4,w5,g5,cap5,rfl,rfl,hR⟩:=hq;have hB3:Bm<w3.heap.size:=qC ND3.out.node;obtain⟨nd6,g6,p6,kd6⟩:=hR.fin rfl (by omega) hB3 G3.out.size (fun g hg=>by cases hg);clear hR;obtain⟨w6,hw6⟩:∃w6,apW Bm w5 g5 0 cap5=w6:=⟨_,rfl⟩;rw[hw6] at nd6 g6 p6 kd6 ⊢;have kd6:(stO X).2=0->KdM W0 w6 Bm (.slice (some ⟨g5,0,none⟩) (0+1) cap5) ([]++[.pointer A4]) (fr1 (valD d0 X)):=fun h0=>by
   obtain⟨-,-,a,ha⟩:=H00.out h0;rw[yD _ ha];exact kd6 .nil a _ ha KdM.nil
  obtain⟨s5,hs5⟩:∃x,stO X=x:=⟨_,rfl⟩;obtain⟨vk,hvk⟩:∃x,Value.slice (some ⟨g5,0,none⟩) (0+1) cap5=x:=⟨_,rfl⟩;obtain⟨ps,hps⟩:∃x:List Value,[]++[.pointer A4]=x:=⟨_,rfl⟩;obtain⟨f,hf⟩:∃x:Fr,fr1 (valD d0 X)=x:=⟨_,rfl⟩;obtain⟨n,hn⟩:∃n:Nat,1=n:=⟨_,rfl⟩;have HGE:Hid (G=at0 (fun q=>.inl ((⟨70,0,nm,nob⟩,f.app (fr1 (valD d0 (at0 (exprF B.nck B.long l m) (kS (tks l) kEq s5))))),q)) (stO (at0 (exprF B.nck B.long l m) (kS (tks l) kEq s5)))):=Lib.hid (by rw[<- hf,<- hs5];exact HG1.out);have HNL7:Hid (ps.length=n):=Lib.hid (by rw[<- hps,<- hn];rfl);have hnn:n<=1:=by omega
  rw[hs5] at p6 kd6 hlx;rw[hvk,hps] at kd6 nd6;rw[hf] at kd6;have hl5:s5.1<=l.length:=hlx;have hBw:Bm<w6.heap.size:=qC nd6.node;have c6:=nd6.node.cell.1;have k6:=HGB.out w6 g6;have KD6:=Lib.hid kd6;have ND6:=Lib.hid nd6;have P6:=Lib.hid p6;have G6:=Lib.hid g6;clear HG1 HD H00 CB hvk hps hf hn hs5 hw6 nd6 g6 p6 kd6 k3 c3 ND3 hlx
 all_goals
  obtain⟨Y,hY⟩:∃Y,at0 (exprF B.nck B.long l m) (kS (tks l) kEq s5)=Y:=⟨_,rfl⟩;have CB6:Hid (∀w',Up w6 w'->Calls Tryz.prog 47 #[.agg #[.pointer (some ⟨b,0,none⟩)],.string kEq,.func (.func 128) #[.agg #[.pointer (some ⟨b,0,none⟩)]] #[]] w' (PaT (On b) b v Y (fun _ _=>True) w')):=Lib.hid fun w' u=>by
   rw[<- hY];exact HEQ.out w' s5 hl5 ((HGU.out w6 G6.out).trans u) (P6.out.up u)
  have H05:=HE0.out s5 hl5;rw[hY] at HGE H05;have HEND:Hid (∀(A:Option Addr) (w7 w8:World) (g cap:Nat),ApR b v W0 w6 Bm ⟨70,0,nm,nob⟩ vk ps n Y A w7 w8 g cap->PaT (On b) b v G (fun _ _=>True) w (.returned (.pointer (some ⟨Bm,0,none⟩))) (apW Bm w8 g n cap)):=Lib.hid fun A w7 w8 g cap hR=>by
   obtain⟨ndF,gF,pF,kdF⟩:=hR.fin HNL7.out (by omega) hBw G6.out.size fun g hg=>(World.ownsRow.lt ND6.out.own g hg).2
   rw[HGE.out];have est:=qY ((⟨70,0,nm,nob⟩,f.app (fr1 (valD d0 Y))):Tr) (stO Y);refine PaT.mk ((Gs.of U0.out).trans gF) (by rw[show rI _=_ from congrArg Prod.fst est,show rE _=_ from congrArg Prod.snd est];exact pF) fun t j ht=>?_
   obtain⟨h0,rfl⟩:=yY _ _ ht;obtain⟨h5,a,ha⟩:=H05 h0;rw[yD _ ha];exact(ndF.tree (kdF f a _ ha (KD6.out h5))).base U0.out.size
  clear hY H05 HGE;go_wp2_with fail;refine wp_region_held_drew (S:=fun w'=>w'.cell? ⟨w.heap.size,0,none⟩=some (.pointer (some ⟨b,0,none⟩))) (by kernel_rfl) (k6) (fun hHeld=>?_);refine wpAnyH_take (i:=0) (oi:={dst:=some 24,op:=Op.move (Operand.tmp 3),type:=24,pos:= "parse.go:161",after:=#[],guard:=none}) (v:=?_) rfl (by kernel_rfl) (by kernel_rfl) (by kernel_rfl) (fun _ _ _ h=>h) (Or.inl ⟨by rfl,?_⟩) (by assumption) ?_
  rotate_left
  ·(intro w' hSw;(try dsimp only at hSw);go_simp;with_reducible rfl)
  (try simp only[Act.put,List.setIfInBounds_toArray,List.set_cons_zero,List.set_cons_succ])
  refine wpAnyH_take (i:=1) (oi:={dst:=some 25,op:=Op.move (Operand.tmp 3),type:=24,pos:= "parse.go:161",after:=#[],guard:=none}) (v:=?_) rfl (by kernel_rfl) (by kernel_rfl) (by kernel_rfl) (fun _ _ _ h=>h) (Or.inl ⟨by rfl,?_⟩) (by assumption) ?_
  rotate_left
  ·(intro w' hSw;(try dsimp only at hSw);go_simp;with_reducible rfl)
  (try simp only[Act.put,List.setIfInBounds_toArray,List.set_cons_zero,List.set_cons_succ])
  refine wpAnyH_take (i:=2) (oi:={dst:=some 26,op:=Op.nilCheck (Operand.tmp 25),type:=0,pos:= "parse.go:161",after:=#[{on:=1,ground:=Ground.data}],guard:=none}) (v:=?_) rfl (by kernel_rfl) (by kernel_rfl) (by kernel_rfl) (fun _ _ _ h=>h) (Or.inl ⟨by rfl,?_⟩) (by assumption) ?_
  rotate_left
  ·(intro w' hSw;(try dsimp only at hSw);go_simp;with_reducible rfl)
  (try simp only[Act.put,List.setIfInBounds_toArray,List.set_cons_zero,List.set_cons_succ])
  refine wpAnyH_take (i:=3) (oi:={dst:=some 27,op:=Op.fieldAddr 44 (Operand.tmp 26) 4,type:=0,pos:= "parse.go:161",after:=#[{on:=2,ground:=Ground.data}],guard:=none}) (v:=?_) rfl (by kernel_rfl) (by kernel_rfl) (by kernel_rfl) (fun _ _ _ h=>h) (Or.inl ⟨by rfl,?_⟩) (by assumption) ?_
  rotate_left
  ·(intro w' hSw;(try dsimp only at hSw);go_simp;with_reducible rfl)
  (try simp only[Act.put,List.setIfInBounds_toArray,List.set_cons_zero,List.set_cons_succ])
  refine wpAnyH_take (i:=5) (oi:={dst:=some 29,op:=Op.load 51 (Operand.tmp 1),type:=51,pos:= "parse.go:161",after:=#[],guard:=none}) (v:=?_) rfl (by kernel_rfl) (by kernel_rfl) (by kernel_rfl) (fun _ _ _ h=>h) (Or.inl ⟨by rfl,?_⟩) (by assumption) ?_
  rotate_left
  ·(intro w' hSw;(try dsimp only at hSw);go_simp;with_reducible rfl)
  (try simp only[Act.put,List.setIfInBounds_toArray,List.set_cons_zero,List.set_cons_succ])
  refine wpAnyH_take (i:=6) (oi:={dst:=some 30,op:=Op.load 51 (Operand.tmp 1),type:=51,pos:= "parse.go:161",after:=#[],guard:=none}) (v:=?_) rfl (by kernel_rfl) (by kernel_rfl) (by kernel_rfl) (fun _ _ _ h=>h) (Or.inl ⟨by rfl,?_⟩) (by assumption) ?_
  rotate_left
  ·(intro w' hSw;(try dsimp only at hSw);go_simp;with_reducible rfl)
  (try simp only[Act.put,List.setIfInBounds_toArray,List.set_cons_zero,List.set_cons_succ])
  refine wpAnyH_take (i:=7) (oi:={dst:=some 31,op:=Op.makeFunc (Fn.func 128) #[Operand.tmp 30] #[],type:=52,pos:= "parse.go:161",after:=#[{on:=6,ground:=Ground.data}],guard:=none}) (v:=?_) rfl (by kernel_rfl) (by kernel_rfl) (by kernel_rfl) (fun _ _ _ h=>h) (Or.inl ⟨by rfl,?_⟩) (by assumption) ?_
  rotate_left
  ·(intro w' hSw;(try dsimp only at hSw);go_simp;with_reducible rfl)
  (try simp only[Act.put,List.setIfInBounds_toArray,List.set_cons_zero,List.set_cons_succ])
  refine wpAnyH_ready (rs:=[4,8]) (by kernel_rfl) (by simp) (AllReadyH.cons (o:={dst:=some 28,op:=Op.load 33 (Operand.tmp 27),type:=33,pos:= "parse.go:161",after:=#[{on:=3,ground:=Ground.data}],guard:=none}) rfl (fun K hK=>?_) (AllReadyH.cons (o:={dst:=some 32,op:=Op.call {callee:=Callee.value (Operand.func 47),args:=#[Operand.tmp 29,Operand.const (Value.string {data:=#[61]}),Operand.tmp 31],argTypes:=#[51,9,52]},type:=24,pos:= "parse.go:161",after:=#[{on:=5,ground:=Ground.data},{on:=7,ground:=Ground.data}],guard:=none}) rfl (fun K hK=>?_) AllReadyH.nil))
  go_simp
  refine hK.out _ _ (by assumption) (fun hHeld=>?_);clear hK K
  (try simp only[Act.put,List.setIfInBounds_toArray,List.set_cons_zero,List.set_cons_succ])
  refine wpAnyH_ready (rs:=[8]) (by kernel_rfl) (by simp) (AllReadyH.cons (o:={dst:=some 32,op:=Op.call {callee:=Callee.value (Operand.func 47),args:=#[Operand.tmp 29,Operand.const (Value.string {data:=#[61]}),Operand.tmp 31],argTypes:=#[51,9,52]},type:=24,pos:= "parse.go:161",after:=#[{on:=5,ground:=Ground.data},{on:=7,ground:=Ground.data}],guard:=none}) rfl (fun K hK=>?_) AllReadyH.nil)
  go_simp
  go_at_call 47
  refine(CB6.out _ (by first | exact Below.refl _ _ | exact qE (Below.refl _ _) 1)).mono ?_
  rintro e9 w7 hP;obtain⟨A7,rfl,g9,p9,n9⟩:=hP.psr;have g9:Gs (On b) w6 w7:=⟨g9.os,g9.tape,g9.output,g9.size,g9.block⟩;have n9:∀t j,Y = .inl (t,j)->NewT w6 w7 (.pointer A7) t:=n9;have zc7:=g9.size;have nd9:=ND6.out.gs g9 (fun k hk=>by unfold On at hk;omega);have k7:=HGB.out w7 (G6.out.trans g9);have c7:=nd9.node.cell.1;have u9:=(Up.refl w7).alloc (.cells #[.pointer A7] 24);have ka7:=u9.cell k7;have ca7:=u9.cell c7;have ow9:=(nd9.up u9).own;rw[HNL7.out] at ow9;have OW7:=Lib.hid ow9;have ND7:=Lib.hid (nd9.up u9);have GC7:=Lib.hid (G6.out.trans g9);have GO7:=Lib.hid g9;have PC7:=Lib.hid p9;have NC7:=Lib.hid n9;have HE7:=Lib.hid (cell_one_new w7 (.pointer A7) 24);have hza7:(w7.alloc (.cells #[.pointer A7] 24)).heap.size=w7.heap.size+1:=by simp
  have hzb7:W0.heap.size<=(w7.alloc (.cells #[.pointer A7] 24)).heap.size:=by have:=GC7.out.size;omega
  clear g9 p9 n9 nd9 u9 ow9 hP;go_wp2_with fail;refine hK.out _ _ k7 (fun hHeld=>?_);clear hK K
  (try simp only[Act.put,List.setIfInBounds_toArray,List.set_cons_zero,List.set_cons_succ])
  refine wpAnyH_ready (rs:=[9]) (by kernel_rfl) (by simp) (AllReadyH.cons (o:={dst:=some 33,op:=Op.buildSlice 33 1 #[(0,Operand.tmp 32)],type:=33,pos:= "parse.go:161",after:=#[{on:=8,ground:=Ground.data}],guard:=none}) rfl (fun K hK=>?_) AllReadyH.nil)
  go_simp
  refine hK.out _ _ (ka7) (fun hHeld=>?_);clear hK K
  (try simp only[Act.put,List.setIfInBounds_toArray,List.set_cons_zero,List.set_cons_succ])
  rotate_left
  go_simp
  go_at_call 47
  refine(CB6.out _ (by first | exact Below.refl _ _ | exact qE (Below.refl _ _) 1)).mono ?_
  rintro e9 w7 hP;obtain⟨A7,rfl,g9,p9,n9⟩:=hP.psr;have g9:Gs (On b) w6 w7:=⟨g9.os,g9.tape,g9.output,g9.size,g9.block⟩;have n9:∀t j,Y = .inl (t,j)->NewT w6 w7 (.pointer A7) t:=n9;have zc7:=g9.size;have nd9:=ND6.out.gs g9 (fun k hk=>by unfold On at hk;omega);have k7:=HGB.out w7 (G6.out.trans g9);have c7:=nd9.node.cell.1;have u9:=(Up.refl w7).alloc (.cells #[.pointer A7] 24);have ka7:=u9.cell k7;have ca7:=u9.cell c7;have ow9:=(nd9.up u9).own;rw[HNL7.out] at ow9;have OW7:=Lib.hid ow9;have ND7:=Lib.hid (nd9.up u9);have GC7:=Lib.hid (G6.out.trans g9);have GO7:=Lib.hid g9;have PC7:=Lib.hid p9;have NC7:=Lib.hid n9;have HE7:=Lib.hid (cell_one_new w7 (.pointer A7) 24);have hza7:(w7.alloc (.cells #[.pointer A7] 24)).heap.size=w7.heap.size+1:=by simp
  have hzb7:W0.heap.size<=(w7.alloc (.cells #[.pointer A7] 24)).heap.size:=by have:=GC7.out.size;omega
  clear g9 p9 n9 nd9 u9 ow9 hP;go_wp2_with fail;refine hK.out _ _ k7 (fun hHeld=>?_);clear hK K
  (try simp only[Act.put,List.setIfInBounds_toArray,List.set_cons_zero,List.set_cons_succ])
  refine wpAnyH_ready (rs:=[4,9]) (by kernel_rfl) (by simp) (AllReadyH.cons (o:={dst:=some 28,op:=Op.load 33 (Operand.tmp 27),type:=33,pos:= "parse.go:161",after:=#[{on:=3,ground:=Ground.data}],guard:=none}) rfl (fun K hK=>?_) (AllReadyH.cons (o:={dst:=some 33,op:=Op.buildSlice 33 1 #[(0,Operand.tmp 32)],type:=33,pos:= "parse.go:161",after:=#[{on:=8,ground:=Ground.data}],guard:=none}) rfl (fun K hK=>?_) AllReadyH.nil))
  go_simp
  refine hK.out _ _ (by assumption) (fun hHeld=>?_);clear hK K
  (try simp only[Act.put,List.setIfInBounds_toArray,List.set_cons_zero,List.set_cons_succ])
  refine wpAnyH_ready (rs:=[9]) (by kernel_rfl) (by simp) (AllReadyH.cons (o:={dst:=some 33,op:=Op.buildSlice 33 1 #[(0,Operand.tmp 32)],type:=33,pos:= "parse.go:161",after:=#[{on:=8,ground:=Ground.data}],guard:=none}) rfl (fun K hK=>?_) AllReadyH.nil)
  go_simp
  refine hK.out _ _ (ka7) (fun hHeld=>?_);clear hK K
  (try simp only[Act.put,List.setIfInBounds_toArray,List.set_cons_zero,List.set_cons_succ])
  rotate_left
  go_simp
  refine hK.out _ _ (ka7) (fun hHeld=>?_);clear hK K
  (try simp only[Act.put,List.setIfInBounds_toArray,List.set_cons_zero,List.set_cons_succ])
  refine wpAnyH_ready (rs:=[4]) (by kernel_rfl) (by simp) (AllReadyH.cons (o:={dst:=some 28,op:=Op.load 33 (Operand.tmp 27),type:=33,pos:= "parse.go:161",after:=#[{on:=3,ground:=Ground.data}],guard:=none}) rfl (fun K hK=>?_) AllReadyH.nil)
  go_simp
  refine hK.out _ _ (by assumption) (fun hHeld=>?_);clear hK K
  (try simp only[Act.put,List.setIfInBounds_toArray,List.set_cons_zero,List.set_cons_succ])
  all_goals
   refine wpAnyH_ready (rs:=[10]) (by kernel_rfl) (by simp) (AllReadyH.cons (o:={dst:=some 34,op:=Op.call {callee:=Callee.builtin Builtin.append,args:=#[Operand.tmp 28,Operand.tmp 33],argTypes:=#[33,33]},type:=33,pos:= "parse.go:161",after:=#[{on:=4,ground:=Ground.data},{on:=9,ground:=Ground.data},{on:=8,ground:=Ground.chain}],guard:=none}) rfl (fun K hK=>?_) AllReadyH.nil);refine step_append_lies _ (by rfl) _ _ _ (by rfl) W0.heap.size 24 i0 _ 1 8 Tryz.underlying33 hi0 hz0 hz1 hz2 rfl (by omega) vk n ps (by rfl) OW7.out ⟨w7.heap.size,0,none⟩ 1 1 [.pointer A7] (by rfl) (by rfl) HE7.out (by intro u hu;rw[List.mem_singleton.1 hu];rfl) (by omega) (by unfold maxLen;omega) (by omega) hzb7 (w7.heap.size+1) hza7 ?_;intro g8 cap8 w8 ho9 hg9 hat9 hlt9;have nb9:=mJ ND7.out hg9;have c8:=nb9.cell.1;have f8:=nb9.cell.2;have hb8:=qC nb9;have kb9:w8.cell? ⟨w.heap.size,0,none⟩=some (.pointer (some ⟨b,0,none⟩)):=(World.cell?_of_block (hg9.block w.heap.size (by have:=zZ ka7;exact this) (fun e=>by have:=(World.ownsRow.lt OW7.out _ e.symm).1;omega))).trans ka7;have HO8:=Lib.hid ho9;have HG8:=Lib.hid hg9;have HA8:=Lib.hid hat9;have KB8:=Lib.hid kb9;clear ho9 hg9 hat9 hlt9 nb9;refine hK.out _ _ (kb9) (fun hHeld=>?_);clear hK K
   (try simp only[Act.put,List.setIfInBounds_toArray,List.set_cons_zero,List.set_cons_succ])
   refine wpAnyH_take (i:=11) (oi:={dst:=some 35,op:=Op.nilCheck (Operand.tmp 24),type:=0,pos:= "parse.go:161",after:=#[{on:=0,ground:=Ground.data},{on:=0,ground:=Ground.phase},{on:=1,ground:=Ground.phase},{on:=2,ground:=Ground.phase},{on:=3,ground:=Ground.phase},{on:=4,ground:=Ground.phase},{on:=5,ground:=Ground.phase},{on:=6,ground:=Ground.phase},{on:=7,ground:=Ground.phase},{on:=8,ground:=Ground.phase},{on:=9,ground:=Ground.phase},{on:=10,ground:=Ground.phase}],guard:=none}) (v:=?_) rfl (by kernel_rfl) (by kernel_rfl) (by kernel_rfl) (fun _ _ _ h=>h) (Or.inl ⟨by rfl,?_⟩) (by assumption) ?_
   rotate_left
   ·(intro w' hSw;(try dsimp only at hSw);go_simp;with_reducible rfl)
   (try simp only[Act.put,List.setIfInBounds_toArray,List.set_cons_zero,List.set_cons_succ])
   refine wpAnyH_take (i:=12) (oi:={dst:=some 36,op:=Op.fieldAddr 44 (Operand.tmp 35) 4,type:=0,pos:= "parse.go:161",after:=#[{on:=11,ground:=Ground.data},{on:=0,ground:=Ground.phase},{on:=1,ground:=Ground.phase},{on:=2,ground:=Ground.phase},{on:=3,ground:=Ground.phase},{on:=4,ground:=Ground.phase},{on:=5,ground:=Ground.phase},{on:=6,ground:=Ground.phase},{on:=7,ground:=Ground.phase},{on:=8,ground:=Ground.phase},{on:=9,ground:=Ground.phase},{on:=10,ground:=Ground.phase}],guard:=none}) (v:=?_) rfl (by kernel_rfl) (by kernel_rfl) (by kernel_rfl) (fun _ _ _ h=>h) (Or.inl ⟨by rfl,?_⟩) (by assumption) ?_
   rotate_left
   ·(intro w' hSw;(try dsimp only at hSw);go_simp;with_reducible rfl)
   (try simp only[Act.put,List.setIfInBounds_toArray,List.set_cons_zero,List.set_cons_succ])
   refine wpAnyH_ready (rs:=[13]) (by kernel_rfl) (by simp) (AllReadyH.cons (o:={dst:=none,op:=Op.store 33 (Operand.tmp 36) (Operand.tmp 34),type:=0,pos:= "parse.go:161",after:=#[{on:=12,ground:=Ground.data},{on:=10,ground:=Ground.data},{on:=10,ground:=Ground.chain},{on:=0,ground:=Ground.phase},{on:=1,ground:=Ground.phase},{on:=2,ground:=Ground.phase},{on:=3,ground:=Ground.phase},{on:=4,ground:=Ground.phase},{on:=5,ground:=Ground.phase},{on:=6,ground:=Ground.phase},{on:=7,ground:=Ground.phase},{on:=8,ground:=Ground.phase},{on:=9,ground:=Ground.phase},{on:=10,ground:=Ground.phase}],guard:=none}) rfl (fun K hK=>?_) AllReadyH.nil)
   go_simp
   refine hK.out _ _ ((World.cell?_setCell_far _ _ _ _ (fun e=>by simp only at e;omega)).trans KB8.out) (fun hHeld=>?_);clear hK K;refine wpAnyH_done (by kernel_rfl) ?_ _
  all_goals have hR:=HEND.out A7 w7 w8 g8 cap8 ⟨ND7.out,GC7.out,GO7.out,PC7.out,NC7.out,HO8.out,HG8.out,HA8.out⟩
  all_goals clear HEND ND7 GC7 GO7 PC7 NC7 HO8 HG8 HA8 OW7 HE7 KB8
  all_goals go_wp2_with fail
  all_goals go_ret
  all_goals exact hR
end
end Go.Proofs.YtgeghilbikljcaaGreatDoor
