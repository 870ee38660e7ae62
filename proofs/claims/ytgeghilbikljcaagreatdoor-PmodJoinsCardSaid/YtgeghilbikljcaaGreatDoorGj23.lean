/-
  Layer 7, the program's Expr: the document's expression.
-/
import Derived.Test.YtgeghilbikljcaaGreatDoorGj22
set_option maxHeartbeats 40000000
set_option maxRecDepth 100000
namespace Go.Proofs.YtgeghilbikljcaaGreatDoor
open Go.RowKit
theorem exLit (b:Nat) (P:Option Addr->World->Prop) (w:World) (cA:Calls Tryz.prog 191 #[.agg #[.pointer (some ⟨b,0,none⟩)]] w fun e w'=>∃A,e = .returned (.pointer A)/\P A w') :
  Calls Tryz.prog 190 #[.pointer (some ⟨b,0,none⟩)] w fun e w'=>∃A,e = .returned (.pointer A)/\P A w':=by
 go_enter Tryz.func190,Tryz.ntmps190
 go_wp2_with fail;refine cA.mono ?_;rintro en w1 ⟨A,rfl,h⟩;have H:=Lib.hid h;clear h;go_wp2_with fail
 go_ret
 exact⟨A,rfl,H.out⟩
theorem zU8 (v:Value) (i:Int) (P:Value->Int->Int->World->Prop) (w:World) (cP:Calls Tryz.prog 19 #[v,.int .i64 i,.func (.func 190) #[] #[]] w fun e w'=>∃u j r,e = .returned (.tuple #[u,.int .i64 j,.int .i64 r])/\P u j r w') :
  Calls Tryz.prog 162 #[v,.int .i64 i] w fun e w'=>∃u j r,e = .returned (.tuple #[u,.int .i64 j,.int .i64 r])/\P u j r w':=by
 go_enter Tryz.func162,Tryz.ntmps162
 go_wp2_with fail;refine cP.mono ?_;rintro en w1 ⟨u,j,r,rfl,h⟩;have H:=Lib.hid h;clear h;go_wp2_with fail
 go_ret3
 exact⟨u,j,r,rfl,H.out⟩
theorem pExpr (l:List Te) (i:Int) (hl:l.length<=100000) (hz:∀t∈l,t.t.s.size<=1000000000) (m:Nat) (hm:2*l.length+2<=m) (w:World) (v:Value) (hv:Tke w v l) (hx:B.Nx w) (hp:Pl w) (ho:Op7 w) :
  Calls Tryz.prog 162 #[v,.int .i64 i] w (lO (expZ B.nck B.long l m i) w):=by
 have hv0:=hv;obtain⟨A,c,rfl,-⟩:=hv;have key:Calls Tryz.prog 162 #[.slice A l.length c,.int .i64 i] w fun e w'=>∃u j r,e = .returned (.tuple #[u,.int .i64 j,.int .i64 r])/\RtV (expZ B.nck B.long l m i) w w' u j r/\Up w w':=by
  refine zU8 _ i (fun u j r w'=>RtV (expZ B.nck B.long l m i) w w' u j r/\Up w w') w ?_
  by_cases h:i<0\/(l.length:Int)<i
  ·unfold expZ
   rw[if_pos h];exact(wJ A l.length c i _ w h).mono fun e w' ⟨h1,h2⟩=>⟨_,_,_,h1,⟨rfl,rfl,rfl⟩,h2⟩
  ·have he:expZ B.nck B.long l m i=exprF B.nck B.long l m i.toNat:=if_neg h
   rw[he];obtain⟨k,rfl⟩:=Int.eq_ofNat_of_zero_le (by omega:0<=i);have hk:k<=l.length:=by omega
   rw[Int.toNat_natCast];have hzt:∀t∈tks l,t.s.size<=1000000000:=fun t ht=>by
    obtain⟨u,hu,rfl⟩:=List.mem_map.1 ht;exact hz u hu
   have Q:Px9 w (.slice A l.length c) l w.heap.size:=⟨⟨mE hv0.tkm hzt hx,ho,Nat.le_refl _,hl⟩,hv0,hx,hp,hz⟩;have up:=mF w (.slice A l.length c) k;have cA:=zQ3 Q m k 0 hk (fun _=>by omega) _ up (wH w _ k);rw[qG] at cA;have hin:=vI (nk:=B.nck) (lg:=B.long) (l:=l) (n:=m) hk;have gu:∀w',Gs (On w.heap.size) (parW w (.slice A l.length c) k) w'->Up w w':=fun w' g=>g.up up fun q hq=>by rw[hq];exact Nat.le_refl _
   cases hT:exprF B.nck B.long l m k with
   | inr e=>
    obtain⟨p,r⟩:=e;rw[hT] at cA;have hr:¬r=0:=hin.ne hT;refine(wK A l.length c k p r 190 (fun _ _=>by kernel_rfl) w hk hr ?_).mono fun e w' ⟨h1,h2⟩=>⟨_,_,_,h1,⟨rfl,rfl,rfl⟩,h2⟩
    refine(exLit w.heap.size (fun _ w'=>Up w w'/\Psr w' w.heap.size (.slice A l.length c) p r) _ (cA.mono fun e w' ⟨B,h1,g,h2⟩=>⟨B,h1,gu w' g,h2⟩)).mono fun e w' ⟨B,h1,h2,h3⟩=>⟨⟨_,h1⟩,h2,h3⟩
   | inl e=>
    obtain⟨t,j⟩:=e;rw[hT] at cA;refine(fL A l.length c k j 190 (fun _ _=>by kernel_rfl) (fun u w'=>NewT w w' u t) w hk ?_ (fun u w' q h=>h.drewN q)).mono fun e w' ⟨u,h1,h2,h3⟩=>⟨_,_,_,h1,⟨h2,rfl,rfl⟩,h3⟩
    refine(exLit w.heap.size (fun B w'=>NewT w w' (.pointer B) t/\Up w w'/\Psr w' w.heap.size (.slice A l.length c) j 0) _ (cA.mono fun e w' ⟨B,h1,g,h2,h3,_⟩=>⟨B,h1,h2.base up.size,gu w' g,h3⟩)).mono fun e w' ⟨B,h1,h2,h3,h4⟩=>⟨⟨_,h1,h2⟩,h3,h4⟩
 exact key.mono fun e w' ⟨u,j,r,h1,h2,h3⟩=>⟨u,j,r,h1,h2,h3⟩
theorem iG {W w:World} {vt:Value} {t:Tr} (x:Nod) (hW:W.heap.size<=w.heap.size) (ht:NewT W w vt t) :
  NewT W ((w.alloc (.cells #[vt] 24)).alloc (.cells #[.int .i64 x.k,.int .i64 x.n,.string x.a,.string x.m,.slice (some ⟨w.heap.size,0,none⟩) 1 1] 44)) (.pointer (some ⟨w.heap.size+1,0,none⟩)) (x,fr1 t):=by
 have e1:(w.alloc (.cells #[vt] 24)).heap.size=w.heap.size+1:=by simp
 rw[<- e1];obtain⟨W1,hW1⟩:∃W1,w.alloc (.cells #[vt] 24)=W1:=⟨_,rfl⟩;have s1:W1.heap[w.heap.size]? = some (.cells #[vt] 24 (0,0)):=by rw[<- hW1];exact heap_alloc_new w _
 have u1:Up w W1:=by rw[<- hW1];exact(Up.refl w).alloc _
 have z1:=u1.size;rw[hW1];obtain⟨W2,hW2⟩:∃W2,W1.alloc (.cells #[.int .i64 x.k,.int .i64 x.n,.string x.a,.string x.m,.slice (some ⟨w.heap.size,0,none⟩) 1 1] 44)=W2:=⟨_,rfl⟩;have s2:W2.heap[W1.heap.size]? = some (.cells #[.int .i64 x.k,.int .i64 x.n,.string x.a,.string x.m,.slice (some ⟨w.heap.size,0,none⟩) 1 1] 44 (0,0)):=by rw[<- hW2];exact heap_alloc_new W1 _
 have u2:Up W1 W2:=by rw[<- hW2];exact(Up.refl W1).alloc _
 have s3:W2.heap[w.heap.size]? = some (.cells #[vt] 24 (0,0)):=u2.row s1;rw[hW2];exact yV (x:=x) (f:=fr1 t) s2 rfl (Nat.le_refl _) ⟨by omega,qC s2⟩ ⟨hW,qC s3⟩ ⟨⟨_,cell_of_row W2 w.heap.size 0 _ _ _ s3,ht.up (u1.trans u2)⟩,trivial⟩
theorem rJ {W w:World} {va vb:Value} {a b:Tr} (x:Nod) (hW:W.heap.size<=w.heap.size) (ha:NewT W w va a) (hb:NewT W w vb b) :
  NewT W ((w.alloc (.cells #[va,vb] 24)).alloc (.cells #[.int .i64 x.k,.int .i64 x.n,.string x.a,.string x.m,.slice (some ⟨w.heap.size,0,none⟩) 2 2] 44)) (.pointer (some ⟨w.heap.size+1,0,none⟩)) (x,fr2 a b):=by
 have e1:(w.alloc (.cells #[va,vb] 24)).heap.size=w.heap.size+1:=by simp
 rw[<- e1];obtain⟨W1,hW1⟩:∃W1,w.alloc (.cells #[va,vb] 24)=W1:=⟨_,rfl⟩;have s1:W1.heap[w.heap.size]? = some (.cells #[va,vb] 24 (0,0)):=by rw[<- hW1];exact heap_alloc_new w _
 have u1:Up w W1:=by rw[<- hW1];exact(Up.refl w).alloc _
 have z1:=u1.size;rw[hW1];obtain⟨W2,hW2⟩:∃W2,W1.alloc (.cells #[.int .i64 x.k,.int .i64 x.n,.string x.a,.string x.m,.slice (some ⟨w.heap.size,0,none⟩) 2 2] 44)=W2:=⟨_,rfl⟩;have s2:W2.heap[W1.heap.size]? = some (.cells #[.int .i64 x.k,.int .i64 x.n,.string x.a,.string x.m,.slice (some ⟨w.heap.size,0,none⟩) 2 2] 44 (0,0)):=by rw[<- hW2];exact heap_alloc_new W1 _
 have u2:Up W1 W2:=by rw[<- hW2];exact(Up.refl W1).alloc _
 have s3:W2.heap[w.heap.size]? = some (.cells #[va,vb] 24 (0,0)):=u2.row s1;rw[hW2];exact yV (x:=x) (f:=fr2 a b) s2 rfl (Nat.le_refl _) ⟨by omega,qC s2⟩ ⟨hW,qC s3⟩ ⟨⟨_,cell_of_row W2 w.heap.size 0 _ _ _ s3,ha.up (u1.trans u2)⟩,⟨_,cell_of_row W2 w.heap.size 1 _ _ _ s3,hb.up (u1.trans u2)⟩,trivial⟩
theorem jH (k:Int) (s:ByteArray) (A:Option Addr) (n c:Nat) (w:World) :
  Calls Tryz.prog 46 #[.int .i64 k,.string s,.slice A n c] w fun e w'=>e = .returned (.pointer (some ⟨w.heap.size,0,none⟩))/\w'=w.alloc (.cells #[.int .i64 k,.int .i64 0,.string s,.string ⟨#[]⟩,.slice A n c] 44):=by
 go_enter Tryz.func46,Tryz.ntmps46
 go_wp2_with fail
 go_ret
 exact⟨rfl,rfl⟩
theorem zWi (n:Int) (a b:Option Addr) (w:World) :
  Calls Tryz.prog 39 #[.int .i64 n,.pointer a,.pointer b] w fun e w'=>e = .returned (.pointer (some ⟨w.heap.size+1,0,none⟩))/\w'=(w.alloc (.cells #[.pointer a,.pointer b] 24)).alloc (.cells #[.int .i64 43,.int .i64 n,.string ⟨#[]⟩,.string ⟨#[]⟩,.slice (some ⟨w.heap.size,0,none⟩) 2 2] 44):=by
 go_enter Tryz.func39,Tryz.ntmps39
 go_wp2_with fail
 go_ret
 exact⟨rfl,rfl⟩
def NewC (W w:World) (v:Value) (f:Fr):Prop:=∃g c,v = .slice (some ⟨g,0,none⟩) f.len c/\f.len<=c/\NewS W w g/\0<f.len/\InF w (NewS W w) f g 0
def CoT (b:Nat) (v:Value) (R:Rs Fr) (w:World) (en:Ending) (w':World):Prop:=∃A n c,en = .returned (.slice A n c)/\Gs (On b) w w'/\Psr w' b v (rI R) (rE R)/\∀f j,R = .inl (f,j)->NewC w w' (.slice A n c) f
def FnAt (V0:World) (v:Value) (b:Nat) (k:FuncId) (args:Array Value) (R:Nat->Rs Tr) (s:SS):Prop:=∀w,Up V0 w->Psr w b v s.1 s.2->Calls Tryz.prog k args w (PaT (On b) b v (at0 R s) (fun _ _=>True) w)
section
variable {l:List Te}
def kB {α:Type} (l:List Te) (R:Nat->Rs α):Prop:=∀j,j<=l.length->In0 l.length j (R j)
theorem kB.ne {α:Type} {R:Nat->Rs α} (h:kB l R) {j:Nat} (hj:j<=l.length):NeO (R j):=NeO.of_in0 (h j hj)
theorem rK {α:Type} {R:Nat->Rs α} (hR:kB l R) {s:SS} (h:s.1<=l.length):(stO (at0 R s)).1<=l.length:=by
 unfold at0
 split
 ·have h1:=hR s.1 h
  cases hX:R s.1 with
  | inl r=>rw[hX] at h1;exact h1.2
  | inr r=>rw[hX] at h1;exact h1.2.1
 ·exact h
theorem xX {α:Type} {R:Nat->Rs α} (hR:kB l R) {s:SS} (hs:s.1<=l.length) (h:(stO (at0 R s)).2=0):s.2=0/\s.1<=(stO (at0 R s)).1/\∃a,at0 R s = .inl (a,(stO (at0 R s)).1):=by
 obtain⟨h0,a,j,hj⟩:=zKh (fun _=>hR.ne hs) h;refine⟨h0,?_,a,by rw[hj];rfl⟩;have h1:=hR s.1 hs;unfold at0 at hj ⊢;rw[if_pos h0] at hj ⊢;rw[hj] at h1 ⊢;exact h1.1
theorem vM {R:Nat->Rs Tr} (hR:kB l R) (x:ByteArray):kB l (behR l x R):=fun j hj=>(yB [x] j hj).bnd fun _ m _ _ hm=>hR m hm
theorem wL (x:ByteArray) (R:Nat->Rs Tr) (s:SS):at0 (behR l x R) s=at0 R (kS (tks l) x s):=jB x (fun _=>R) s
end
section
variable {V0:World} {v:Value} {l:List Te} {b:Nat}
theorem Px9.exp (P:Px9 V0 v l b) (m:Nat) (hm:2*l.length+2<=m) (i:Nat) (hi:i<=l.length) (w:World) (hu:Up V0 w):Calls Tryz.prog 162 #[v,.int .i64 (i:Int)] w (lO (exprF B.nck B.long l m i) w):=by
 have c:=pExpr l (i:Int) P.Q.hl P.Z m hm w v (P.K.up hu) (Nx.up P.X hu) (P.L.up hu) (P.Q.O.up hu);have e:expZ B.nck B.long l m (i:Int)=exprF B.nck B.long l m i:=by
  unfold expZ;rw[if_neg (by omega),Int.toNat_natCast]
 rw[e] at c;exact c
theorem Px9.con (P:Px9 V0 v l b) (i:Nat) (hi:i<=l.length) (w:World) (hu:Up V0 w):Calls Tryz.prog 130 #[v,.int .i64 (i:Int)] w (zR5 (consL B.nck B.long (tks l) i .nil) w):=by
 have c:=pCons (tks l) (i:Int) (by rw[qK];exact P.Q.hl) (fun t ht=>by
  obtain⟨u,hu,rfl⟩:=List.mem_map.1 ht;exact P.Z u hu) w v (P.K.tkm.up hu) (Nx.up P.X hu) (P.L.up hu)
 have e:consZ B.nck B.long (tks l) (i:Int)=consL B.nck B.long (tks l) i .nil:=by
  unfold consZ;rw[if_neg (by rw[qK];omega),Int.toNat_natCast]
 rw[e] at c;exact c
theorem zNi (P:Px9 V0 v l b) (m:Nat) (hm:2*l.length+2<=m) (i:Nat) (e:Int) (hi:i<=l.length) (w:World) (h:Psr w b v i e) (hu:Up V0 w) :
  Calls Tryz.prog 78 #[.pointer (some ⟨b,0,none⟩),.func (.func 162) #[] #[]] w (PaT (On b) b v (at0 (exprF B.nck B.long l m) (i,e)) (fun _ _=>True) w):=by
 obtain⟨c0,c1,c2,f1,f2⟩:=h.cells;have hb:b<w.heap.size:=qC h;have H:=Lib.hid h
 by_cases he:e=0
 ·subst he
  rw[qG];have cY:=fun w' (u:Up w w')=>P.exp m hm i hi w' (hu.trans u)
  have CY:=Lib.hid cY;obtain⟨R,hR⟩:∃R,exprF B.nck B.long l m i=R:=⟨_,rfl⟩;rw[hR] at CY ⊢;clear h hu cY hR f1 f2
  go_enter Tryz.func78,Tryz.ntmps78
  go_wp2_with fail
  go_region_with (first
   | (go_at_call 162;refine(CY.out _ (by first | exact Below.refl _ _ | exact qE (Below.refl _ _) 1)).mono ?_;rintro e2 w6 ⟨va,ja,ea,rfl,hV,u6⟩;have u6:Up w w6:=⟨u6.os,u6.tape,u6.output,u6.size,u6.block⟩;have h6:=H.out.up u6;obtain⟨d0,d1,d2,g1,g2⟩:=h6.cells;have hb6:=qC h6;have H6:=Lib.hid h6;have U6:=Lib.hid u6;have HV:=Lib.hid hV;clear h6 u6 hV d0))
  all_goals go_wp2_with fail
  all_goals go_ret
  all_goals
   have hV:=HV.out;have g6:Gs (On b) w6 ((w6.setCell ⟨b,1,none⟩ (.int .i64 ja)).setCell ⟨b,2,none⟩ (.int .i64 ea)):=((Gs.refl (On b) w6).set ⟨b,1,none⟩ _ (.inl rfl)).set ⟨b,2,none⟩ _ (.inl rfl)
   cases R with
   | inl r=>
    obtain⟨t,q⟩:=r;obtain⟨h1,rfl,rfl⟩:=hV;obtain⟨o,p,rfl⟩:=InT.ptr h1;exact⟨_,rfl,(Gs.of U6.out).trans g6,h1.gsb g6 hb,(H6.out.at _ _ rfl).er _,trivial⟩
   | inr r=>
    obtain⟨p,q⟩:=r;obtain⟨rfl,rfl,rfl⟩:=hV;exact⟨none,rfl,(Gs.of U6.out).trans g6,(H6.out.at _ _ rfl).er _⟩
 ·rw[qM _ (show ¬(i,e).2=0 from he)]
  clear h hu
  go_enter Tryz.func78,Tryz.ntmps78
  go_wp2_with fail
  go_ret
  exact⟨none,rfl,Gs.refl _ _,H.out⟩
theorem zNj (P:Px9 V0 v l b) (i:Nat) (e:Int) (hi:i<=l.length) (w:World) (h:Psr w b v i e) (hu:Up V0 w) :
  Calls Tryz.prog 129 #[.pointer (some ⟨b,0,none⟩),.func (.func 130) #[] #[]] w (CoT b v (at0 (fun j=>consL B.nck B.long (tks l) j .nil) (i,e)) w):=by
 obtain⟨c0,c1,c2,f1,f2⟩:=h.cells;have hb:b<w.heap.size:=qC h;have H:=Lib.hid h
 by_cases he:e=0
 ·subst he
  rw[qG];have cY:=fun w' (u:Up w w')=>P.con i hi w' (hu.trans u)
  have CY:=Lib.hid cY;obtain⟨R,hR⟩:∃R,consL B.nck B.long (tks l) i .nil=R:=⟨_,rfl⟩;rw[hR] at CY ⊢;clear h hu cY hR f1 f2
  go_enter Tryz.func129,Tryz.ntmps129
  go_wp2_with fail
  go_region_with (first
   | (go_at_call 130;refine(CY.out _ (by first | exact Below.refl _ _ | exact qE (Below.refl _ _) 1)).mono ?_;rintro e2 w6 ⟨va,ja,ea,rfl,hV,u6⟩;have u6:Up w w6:=⟨u6.os,u6.tape,u6.output,u6.size,u6.block⟩;have h6:=H.out.up u6;obtain⟨d0,d1,d2,g1,g2⟩:=h6.cells;have hb6:=qC h6;have H6:=Lib.hid h6;have U6:=Lib.hid u6;have HV:=Lib.hid hV;clear h6 u6 hV d0))
  all_goals go_wp2_with fail
  all_goals go_ret
  all_goals
   have hV:=HV.out;have g6:Gs (On b) w6 ((w6.setCell ⟨b,1,none⟩ (.int .i64 ja)).setCell ⟨b,2,none⟩ (.int .i64 ea)):=((Gs.refl (On b) w6).set ⟨b,1,none⟩ _ (.inl rfl)).set ⟨b,2,none⟩ _ (.inl rfl)
   cases R with
   | inl r=>
    obtain⟨t,q⟩:=r;obtain⟨⟨g,c,rfl,hgc,hg,h0,hf⟩,rfl,rfl⟩:=hV;exact⟨_,_,_,rfl,(Gs.of U6.out).trans g6,(H6.out.at _ _ rfl).er _,fun f j hj=>(by obtain⟨rfl,rfl⟩:=Prod.mk.inj (Sum.inl.inj hj);exact⟨g,c,rfl,hgc,⟨hg.1,Nat.lt_of_lt_of_le hg.2 g6.size⟩,h0,InF.keep (fun q hq=>⟨hq.1,Nat.lt_of_lt_of_le hq.2 g6.size⟩) (fun q hq=>g6.block q hq.2 (by have:w.heap.size<=q:=hq.1;unfold On;omega)) hg hf⟩)⟩
   | inr r=>
    obtain⟨p,q⟩:=r;obtain⟨rfl,rfl,rfl⟩:=hV;exact⟨_,_,_,rfl,(Gs.of U6.out).trans g6,(H6.out.at _ _ rfl).er _,fun f j hj=>nomatch hj⟩
 ·rw[qM _ (show ¬(i,e).2=0 from he)]
  clear h hu
  go_enter Tryz.func129,Tryz.ntmps129
  go_wp2_with fail
  go_ret
  exact⟨_,_,_,rfl,Gs.refl _ _,H.out,fun f j hj=>nomatch hj⟩
theorem nL (P:Px9 V0 v l b) (i:Nat) (e:Int) (hi:i<=l.length):FnAt V0 v b 48 #[.agg #[.pointer (some ⟨b,0,none⟩)]] (typL B.nck B.long (tks l)) (i,e):=fun w hu h=>by
 have hiI:i<=l.length:=hi;have hb:b<w.heap.size:=qC h;have hbV:=P.Q.hb;have hll:=P.Q.hl;obtain⟨W0,hW0⟩:∃W0,w.alloc (.cells #[.pointer (some ⟨b,0,none⟩)] 51)=W0:=⟨_,rfl⟩;have u0:Up w W0:=by rw[<- hW0];exact(Up.refl w).alloc _
 have b1:W0.heap[w.heap.size]? = some (.cells #[.pointer (some ⟨b,0,none⟩)] 51 (0,0)):=by rw[<- hW0];exact heap_alloc_new w _
 have hgU:∀w',Gs (On b) W0 w'->Up V0 w':=fun w' g=>g.up (hu.trans u0) fun q hq=>by rw[hq];exact hbV
 have hgB:∀w',Gs (On b) W0 w'->w'.cell? ⟨w.heap.size,0,none⟩=some (.pointer (some ⟨b,0,none⟩)):=fun w' g=>cell_of_row w' w.heap.size 0 _ _ _ (g.row b1 (by unfold On;omega))
 have hzW0:W0.heap.size=w.heap.size+1:=by rw[<- hW0];simp
 have k0:=hgB W0 (Gs.refl _ _);have p0:=h.up u0;have c1:=zWg P i e hi W0 p0 (hgU W0 (Gs.refl _ _));obtain⟨X,hX⟩:∃X,at0 (typL B.nck B.long (tks l)) (i,e)=X:=⟨_,rfl⟩;rw[hX] at c1 ⊢;have HPX:=Lib.hid P;have HGU:=Lib.hid hgU;have HGB:=Lib.hid hgB;have HW0:=Lib.hid hW0;have U0:=Lib.hid u0;have B1:=Lib.hid b1;have P0:=Lib.hid p0;clear hW0 u0 b1 h hu P hgU hgB p0;clear hX
 go_enter Tryz.func48,Tryz.ntmps48
 go_wp2_with fail;rw[HW0.out];refine c1.mono ?_;rintro en w1 hP;obtain⟨A,rfl,g1,p1,n1⟩:=hP.psr;have G1:=Lib.hid g1;have P1:=Lib.hid p1;have N1:=Lib.hid n1;clear g1 p1 n1 hP c1;go_wp2_with fail
 go_ret
 exact PaT.mk ((Gs.of U0.out).trans G1.out) P1.out fun t j ht=>(N1.out t j ht).base U0.out.size
theorem zQ4 (P:Px9 V0 v l b) (m:Nat) (hm:2*l.length+2<=m) (i:Nat) (e:Int) (hi:i<=l.length):FnAt V0 v b 128 #[.agg #[.pointer (some ⟨b,0,none⟩)]] (exprF B.nck B.long l m) (i,e):=fun w hu h=>by
 have hiI:i<=l.length:=hi;have hb:b<w.heap.size:=qC h;have hbV:=P.Q.hb;have hll:=P.Q.hl;obtain⟨W0,hW0⟩:∃W0,w.alloc (.cells #[.pointer (some ⟨b,0,none⟩)] 51)=W0:=⟨_,rfl⟩;have u0:Up w W0:=by rw[<- hW0];exact(Up.refl w).alloc _
 have b1:W0.heap[w.heap.size]? = some (.cells #[.pointer (some ⟨b,0,none⟩)] 51 (0,0)):=by rw[<- hW0];exact heap_alloc_new w _
 have hgU:∀w',Gs (On b) W0 w'->Up V0 w':=fun w' g=>g.up (hu.trans u0) fun q hq=>by rw[hq];exact hbV
 have hgB:∀w',Gs (On b) W0 w'->w'.cell? ⟨w.heap.size,0,none⟩=some (.pointer (some ⟨b,0,none⟩)):=fun w' g=>cell_of_row w' w.heap.size 0 _ _ _ (g.row b1 (by unfold On;omega))
 have hzW0:W0.heap.size=w.heap.size+1:=by rw[<- hW0];simp
 have k0:=hgB W0 (Gs.refl _ _);have p0:=h.up u0;have c1:=zNi P m hm i e hi W0 p0 (hgU W0 (Gs.refl _ _));obtain⟨X,hX⟩:∃X,at0 (exprF B.nck B.long l m) (i,e)=X:=⟨_,rfl⟩;rw[hX] at c1 ⊢;have HPX:=Lib.hid P;have HGU:=Lib.hid hgU;have HGB:=Lib.hid hgB;have HW0:=Lib.hid hW0;have U0:=Lib.hid u0;have B1:=Lib.hid b1;have P0:=Lib.hid p0;clear hW0 u0 b1 h hu P hgU hgB p0;clear hX
 go_enter Tryz.func128,Tryz.ntmps128
 go_wp2_with fail;rw[HW0.out];refine c1.mono ?_;rintro en w1 hP;obtain⟨A,rfl,g1,p1,n1⟩:=hP.psr;have G1:=Lib.hid g1;have P1:=Lib.hid p1;have N1:=Lib.hid n1;clear g1 p1 n1 hP c1;go_wp2_with fail
 go_ret
 exact PaT.mk ((Gs.of U0.out).trans G1.out) P1.out fun t j ht=>(N1.out t j ht).base U0.out.size
theorem mH (P:Px9 V0 v l b) (k:FuncId) (pre cap args:Array Value) (ha:pre++cap=args) (hE:EntF k) (R:Nat->Rs Tr) (x:ByteArray) (i:Nat) (e:Int) (hi:i<=l.length) (cR:FnAt V0 v b k args R (kS (tks l) x (i,e))) (w:World) (hu:Up V0 w) (h:Psr w b v i e) :
  Calls Tryz.prog 47 #[.agg #[.pointer (some ⟨b,0,none⟩)],.string x,.func (.func k) pre cap] w (PaT (On b) b v (at0 R (kS (tks l) x (i,e))) (fun _ _=>True) w):=by
 subst ha;have hb:b<w.heap.size:=qC h;have hbV:=P.Q.hb;have hll:=P.Q.hl;obtain⟨W0,hW0⟩:∃W0,w.alloc (.cells #[.pointer (some ⟨b,0,none⟩)] 51)=W0:=⟨_,rfl⟩;have u0:Up w W0:=by rw[<- hW0];exact(Up.refl w).alloc _
 have b1:W0.heap[w.heap.size]? = some (.cells #[.pointer (some ⟨b,0,none⟩)] 51 (0,0)):=by rw[<- hW0];exact heap_alloc_new w _
 have hgU:∀w',Gs (On b) W0 w'->Up V0 w':=fun w' g=>g.up (hu.trans u0) fun q hq=>by rw[hq];exact hbV
 have hgB:∀w',Gs (On b) W0 w'->w'.cell? ⟨w.heap.size,0,none⟩=some (.pointer (some ⟨b,0,none⟩)):=fun w' g=>cell_of_row w' w.heap.size 0 _ _ _ (g.row b1 (by unfold On;omega))
 have hzW0:W0.heap.size=w.heap.size+1:=by rw[<- hW0];simp
 have k0:=hgB W0 (Gs.refl _ _);have p0:=h.up u0;have cN:=zN b v i e x W0 P.Q.T p0 (hgU W0 (Gs.refl _ _)) (by omega);have HCR:=Lib.hid cR;have HE:=Lib.hid hE;have HPX:=Lib.hid P;have HGU:=Lib.hid hgU;have HGB:=Lib.hid hgB;have HW0:=Lib.hid hW0;have U0:=Lib.hid u0;have B1:=Lib.hid b1;have P0:=Lib.hid p0;clear hW0 u0 b1 h hu P hgU hgB p0;clear cR hE
 go_enter Tryz.func47,Tryz.ntmps47
 go_wp2_with fail;rw[HW0.out];refine cN.mono ?_;rintro en w1 ⟨⟨u,rfl⟩,g1,p1⟩;have cX:=HCR.out w1 (HGU.out w1 g1) p1;have G1:=Lib.hid g1;clear g1 p1 cN;go_wp2_with fail;rw[HE.out,Oper.upon_enter];refine cX.mono ?_;rintro en w2 hP;obtain⟨A,rfl,g2,p2,n2⟩:=hP.psr;have G2:=Lib.hid g2;have P2:=Lib.hid p2;have N2:=Lib.hid n2;clear g2 p2 n2 hP cX;go_wp2_with fail
 go_ret
 exact PaT.mk ((Gs.of U0.out).trans (G1.out.trans G2.out)) P2.out fun t j ht=>(N2.out t j ht).base (by have:=U0.out.size;have:=G1.out.size;omega)
theorem zNk (k:Int) (x:ByteArray) {R:Nat->Rs Tr} (hR:kB l R) (d:Tr) {s:SS} (hs:s.1<=l.length):at0 (bindR B.nck l k x R) s=at0 (fun m=>.inl (nd k (nmS (nam B.nck (tks l) s.1) s.2) (fr1 (valD d (at0 R (kS (tks l) x (nS B.nck (tks l) s))))),m)) (stO (at0 R (kS (tks l) x (nS B.nck (tks l) s)))):=by
 unfold bindR;rw[yJ,yA (R:=behR l x R) (d:=d) fun _=>(vM hR x).ne (kJ l _ hs),wL]
theorem mI (P:Px9 V0 v l b) (kn:Int) (k:FuncId) (pre cap args:Array Value) (ha:pre++cap=args) (hE:EntF k) (R:Nat->Rs Tr) (hR:kB l R) (x:ByteArray) (i:Nat) (e:Int) (hi:i<=l.length) (cR:FnAt V0 v b k args R (kS (tks l) x (nS B.nck (tks l) (i,e)))) (w:World) (hu:Up V0 w) (h:Psr w b v i e) :
  Calls Tryz.prog 85 #[.agg #[.pointer (some ⟨b,0,none⟩)],.int .i64 kn,.string x,.func (.func k) pre cap] w (PaT (On b) b v (at0 (bindR B.nck l kn x R) (i,e)) (fun _ _=>True) w):=by
 have hb:b<w.heap.size:=qC h;have hbV:=P.Q.hb;have hll:=P.Q.hl;obtain⟨W0,hW0⟩:∃W0,w.alloc (.cells #[.pointer (some ⟨b,0,none⟩)] 51)=W0:=⟨_,rfl⟩;have u0:Up w W0:=by rw[<- hW0];exact(Up.refl w).alloc _
 have b1:W0.heap[w.heap.size]? = some (.cells #[.pointer (some ⟨b,0,none⟩)] 51 (0,0)):=by rw[<- hW0];exact heap_alloc_new w _
 have hgU:∀w',Gs (On b) W0 w'->Up V0 w':=fun w' g=>g.up (hu.trans u0) fun q hq=>by rw[hq];exact hbV
 have hgB:∀w',Gs (On b) W0 w'->w'.cell? ⟨w.heap.size,0,none⟩=some (.pointer (some ⟨b,0,none⟩)):=fun w' g=>cell_of_row w' w.heap.size 0 _ _ _ (g.row b1 (by unfold On;omega))
 have hzW0:W0.heap.size=w.heap.size+1:=by rw[<- hW0];simp
 have k0:=hgB W0 (Gs.refl _ _);have p0:=h.up u0;have hl1:=kJ l B.nck (s:=(i,e)) hi;have hat:=fun d=>zNk (l:=l) kn x hR d (s:=(i,e)) hi
 obtain⟨s1,hs1⟩:∃s1,nS B.nck (tks l) (i,e)=s1:=⟨_,rfl⟩;have c1:=xK P i e hi W0 p0 (hgU W0 (Gs.refl _ _));obtain⟨nm,hnm⟩:∃nm,nmS (nam B.nck (tks l) i) e=nm:=⟨_,rfl⟩;rw[hs1] at c1 cR hl1 hat;rw[hnm] at c1;rw[show nmS (nam B.nck (tks l) (i,e).1) (i,e).2=nm from hnm] at hat;have cB:=mH P k pre cap args ha hE R x s1.1 s1.2 hl1 cR;rw[show kS (tks l) x (s1.1,s1.2)=kS (tks l) x s1 from rfl] at cB;have h00:=xX hR (zI l x hl1);obtain⟨X,hX⟩:∃X,at0 R (kS (tks l) x s1)=X:=⟨_,rfl⟩;rw[hX] at hat cB h00;have HAT:=Lib.hid hat;have CB:=Lib.hid cB;have H00:=Lib.hid h00;have HPX:=Lib.hid P;have HGU:=Lib.hid hgU;have HGB:=Lib.hid hgB;have HW0:=Lib.hid hW0;have U0:=Lib.hid u0;have B1:=Lib.hid b1;have P0:=Lib.hid p0;clear hW0 u0 b1 h hu P hgU hgB p0;clear ha hat cB h00 hs1 hnm hX cR hR hE
 go_enter Tryz.func85,Tryz.ntmps85
 go_wp2_with fail;rw[HW0.out];refine c1.mono ?_;rintro en w1 ⟨rfl,g1,p1⟩;have cX:=CB.out w1 (HGU.out w1 g1) p1;have k1:=HGB.out w1 g1;have G1:=Lib.hid g1;clear g1 p1 c1;go_wp2_with fail;refine cX.mono ?_;rintro en w2 hP;obtain⟨A,rfl,g2,p2,n2⟩:=hP.psr;have G2:=Lib.hid g2;have P2:=Lib.hid p2;have N2:=Lib.hid n2;clear g2 p2 n2 hP cX;go_wp2_with fail;refine(jH kn nm _ 1 1 _).mono ?_;rintro en w3 ⟨rfl,rfl⟩;go_wp2_with fail
 go_ret
 have z1:=G1.out.size;have z2:=G2.out.size;have z0:=U0.out.size;have u3:Up w2 ((w2.alloc (.cells #[.pointer A] 24)).alloc (.cells #[.int .i64 kn,.int .i64 0,.string nm,.string ⟨#[]⟩,.slice (some ⟨w2.heap.size,0,none⟩) 1 1] 44)):=((Up.refl w2).alloc _).alloc _;rw[HAT.out (nd 0 nob .nil)];have est:=qY (nd kn nm (fr1 (valD (nd 0 nob .nil) X))) (stO X);refine PaT.mk (((Gs.of U0.out).trans (G1.out.trans G2.out)).trans (Gs.of u3)) (by rw[show rI _=_ from congrArg Prod.fst est,show rE _=_ from congrArg Prod.snd est];exact P2.out.up u3) fun t j ht=>?_
 obtain⟨h0,rfl⟩:=yY _ _ ht;obtain⟨-,-,a,ha⟩:=H00.out h0;have n3:NewT w w2 (.pointer A) a:=(N2.out a _ ha).base (by omega);rw[yD _ ha];exact iG ⟨kn,0,nm,nob⟩ (by omega) n3
end
theorem Gs.outB {b c:Nat} {a w w':World} (h:Gs (On b) a w) (g:Gs (On c) w w') (hc:a.heap.size<=c):Gs (On b) a w':=h.out2 (g.wide fun _ _ hq=>.inr hq) hc
theorem fN:EntF 48:=fun _ _=>by kernel_rfl
theorem zQ5:EntF 128:=fun _ _=>by kernel_rfl
section
variable {V0:World} {v:Value} {l:List Te} {b:Nat}
theorem jC:kB l (typL B.nck B.long (tks l)):=fun _ hj=>(kK hj).weak
theorem iH (m:Nat):kB l (exprF B.nck B.long l m):=fun _ hj=>(vI hj).weak
theorem zWj:kB l (fun j=>consL B.nck B.long (tks l) j .nil):=fun _ hj=>(uQ hj .nil).weak
theorem behT (P:Px9 V0 v l b) (x:ByteArray) (s:SS) (hs:s.1<=l.length) (w:World) (hu:Up V0 w) (h:Psr w b v s.1 s.2):Calls Tryz.prog 47 #[.agg #[.pointer (some ⟨b,0,none⟩)],.string x,.func (.func 48) #[.agg #[.pointer (some ⟨b,0,none⟩)]] #[]] w (PaT (On b) b v (at0 (typL B.nck B.long (tks l)) (kS (tks l) x s)) (fun _ _=>True) w):=
 mH P _ _ #[] _ (by simp) fN _ x s.1 s.2 hs (nL P (kS (tks l) x s).1 (kS (tks l) x s).2 (zI l x (s:=s) hs)) w hu h
theorem behE (P:Px9 V0 v l b) (m:Nat) (hm:2*l.length+2<=m) (x:ByteArray) (s:SS) (hs:s.1<=l.length) (w:World) (hu:Up V0 w) (h:Psr w b v s.1 s.2):Calls Tryz.prog 47 #[.agg #[.pointer (some ⟨b,0,none⟩)],.string x,.func (.func 128) #[.agg #[.pointer (some ⟨b,0,none⟩)]] #[]] w (PaT (On b) b v (at0 (exprF B.nck B.long l m) (kS (tks l) x s)) (fun _ _=>True) w):=
 mH P _ _ #[] _ (by simp) zQ5 _ x s.1 s.2 hs (zQ4 P m hm (kS (tks l) x s).1 (kS (tks l) x s).2 (zI l x (s:=s) hs)) w hu h
theorem zZ0 (P:Px9 V0 v l b) (i:Nat) (e:Int) (hi:i<=l.length):FnAt V0 v b 120 #[.agg #[.pointer (some ⟨b,0,none⟩)]] (nH B.nck l (typL B.nck B.long (tks l))) (i,e):=fun w hu h=>by
 have hb:b<w.heap.size:=qC h;have hbV:=P.Q.hb;have hll:=P.Q.hl;obtain⟨W0,hW0⟩:∃W0,w.alloc (.cells #[.pointer (some ⟨b,0,none⟩)] 51)=W0:=⟨_,rfl⟩;have u0:Up w W0:=by rw[<- hW0];exact(Up.refl w).alloc _
 have b1:W0.heap[w.heap.size]? = some (.cells #[.pointer (some ⟨b,0,none⟩)] 51 (0,0)):=by rw[<- hW0];exact heap_alloc_new w _
 have hgU:∀w',Gs (On b) W0 w'->Up V0 w':=fun w' g=>g.up (hu.trans u0) fun q hq=>by rw[hq];exact hbV
 have hgB:∀w',Gs (On b) W0 w'->w'.cell? ⟨w.heap.size,0,none⟩=some (.pointer (some ⟨b,0,none⟩)):=fun w' g=>cell_of_row w' w.heap.size 0 _ _ _ (g.row b1 (by unfold On;omega))
 have hzW0:W0.heap.size=w.heap.size+1:=by rw[<- hW0];simp
 have k0:=hgB W0 (Gs.refl _ _);have p0:=h.up u0;have hl1:=kJ l B.nck (s:=(i,e)) hi;obtain⟨G,hG⟩:∃G,at0 (nH B.nck l (typL B.nck B.long (tks l))) (i,e)=G:=⟨_,rfl⟩;have hG1:=hG.symm;unfold nH at hG1;rw[yJ,zYk] at hG1;obtain⟨s1,hs1⟩:∃s1,nS B.nck (tks l) (i,e)=s1:=⟨_,rfl⟩;have c1:=xK P i e hi W0 p0 (hgU W0 (Gs.refl _ _));obtain⟨nm,hnm⟩:∃nm,nmS (nam B.nck (tks l) i) e=nm:=⟨_,rfl⟩;rw[hs1] at c1 hl1 hG1;rw[hnm] at c1;rw[show nmS (nam B.nck (tks l) (i,e).1) (i,e).2=nm from hnm,yA (R:=behR l kEq (typL B.nck B.long (tks l))) (d:=nd 0 nob .nil) (fun _=>(vM jC kEq).ne hl1),wL] at hG1;have h00:=xX (l:=l) jC (zI l kEq hl1);have cB:=fun w' (u:Up V0 w') (p:Psr w' b v s1.1 s1.2)=>behT P kEq s1 hl1 w' u p
 obtain⟨X,hX⟩:∃X,at0 (typL B.nck B.long (tks l)) (kS (tks l) kEq s1)=X:=⟨_,rfl⟩;rw[hX] at hG1 cB h00;obtain⟨d,hd⟩:∃d,tkB (tks l) s1.1 s1.2 kEq=d:=⟨_,rfl⟩;rw[hd] at hG1;rw[hG];have HG1:=Lib.hid hG1;have CB:=Lib.hid cB;have H00:=Lib.hid h00;have HD:=Lib.hid hd;have HPX:=Lib.hid P;have HGU:=Lib.hid hgU;have HGB:=Lib.hid hgB;have HW0:=Lib.hid hW0;have U0:=Lib.hid u0;have B1:=Lib.hid b1;have P0:=Lib.hid p0;clear hW0 u0 b1 h hu P hgU hgB p0;clear hG hG1 hs1 hnm cB h00 hX hd
 go_enter Tryz.func120,Tryz.ntmps120
 go_wp2_with fail;rw[HW0.out];refine c1.mono ?_;rintro en w1 ⟨rfl,g1,p1⟩;have k1:=HGB.out w1 g1;have G1:=Lib.hid g1;have P1:=Lib.hid p1;clear g1 p1 c1;go_wp2_with fail;refine(jH 61 nm none 0 0 w1).mono ?_;rintro en w2 ⟨rfl,hw2⟩;have u2:Up w1 w2:=by rw[hw2];exact(Up.refl _).alloc _
 have z2:w2.heap.size=w1.heap.size+1:=by rw[hw2];simp
 have nb2:Nb w2 w1.heap.size ⟨61,0,nm,nob⟩ (.slice none 0 0):=by rw[hw2];exact heap_alloc_new w1 _
 have g2:=G1.out.trans (Gs.of u2);have k2:=HGB.out w2 g2;have cS:=yW b v s1.1 s1.2 kEq w2 HPX.out.Q.T (P1.out.up u2) (HGU.out w2 g2);rw[HD.out] at cS;have U2:=Lib.hid u2;have NB2:=Lib.hid nb2;have G2:=Lib.hid g2;have zz:=G1.out.size;clear u2 nb2 g2 hw2;go_wp2_with fail;refine cS.mono ?_;rintro en w3 ⟨rfl,u3⟩;have u3:Up w2 w3:=u3;have g3:=G2.out.trans (Gs.of u3);have k3:=HGB.out w3 g3;have z3:=u3.size;have P3:=Lib.hid ((P1.out.up U2.out).up u3);have NB3:=Lib.hid (u3.row NB2.out);have G3:=Lib.hid g3;clear u3 g3 cS
 cases d with
 | false=>
  go_wp2_with fail
  go_ret
  rw[HG1.out,if_neg Bool.false_ne_true];have est:=qY (nd 61 nm .nil) s1;refine PaT.mk ((Gs.of U0.out).trans G3.out) (by rw[show rI _=_ from congrArg Prod.fst est,show rE _=_ from congrArg Prod.snd est];exact P3.out) fun t j ht=>?_
  obtain⟨h0,rfl⟩:=yY _ _ ht;exact kR (x:=⟨61,0,nm,nob⟩) NB3.out ⟨by omega,qC NB3.out⟩
 | true=>
  have cX:=CB.out w3 (HGU.out w3 G3.out) P3.out;go_wp2_with fail;refine cX.mono ?_;rintro en w4 hP;obtain⟨A,rfl,g4,p4,n4⟩:=hP.psr;have nb4:=g4.row NB3.out (by unfold On;omega);have c44:w4.cell? ⟨w1.heap.size,4,none⟩=some (.slice none 0 0):=cell_of_row w4 _ 4 _ _ _ nb4;have f44:w4.frozen? ⟨w1.heap.size,4,none⟩=false:=frozen_of_row w4 _ 4 _ _ nb4;have hb4:w1.heap.size<w4.heap.size:=qC nb4;have z4:=g4.size;have G4:=Lib.hid (G3.out.trans g4);have P4:=Lib.hid p4;have N4:=Lib.hid n4;have NB4:=Lib.hid nb4;clear g4 p4 n4 nb4 hP cX;go_wp2_with fail
  go_ret
  obtain⟨WF,hWF⟩:∃WF,(w4.setCell ⟨w1.heap.size,4,none⟩ (.slice (some ⟨w4.heap.size,0,none⟩) 1 1)).alloc (.cells #[.pointer A] 24)=WF:=⟨_,rfl⟩;obtain⟨gF,rF,kF,hF⟩:=zRv (W:=w) (w4:=w3) (x:=⟨61,0,nm,nob⟩) (A:=A) NB4.out (by omega) (by omega) z4 WF hWF;rw[hWF];rw[HG1.out]
  first | rw[if_pos rfl] | rw[if_pos trivial]
  have est:=qY (nd 61 nm (fr1 (valD (nd 0 nob .nil) X))) (stO X);refine PaT.mk ((Gs.of U0.out).trans (G4.out.outB gF (by omega))) (by rw[show rI _=_ from congrArg Prod.fst est,show rE _=_ from congrArg Prod.snd est];exact gF.row P4.out (by unfold On;omega)) fun t j ht=>?_
  obtain⟨h0,rfl⟩:=yY _ _ ht;obtain⟨-,-,a,ha⟩:=H00.out h0;rw[yD _ ha];exact hF a (N4.out a _ ha)
theorem pD (P:Px9 V0 v l b) (kn:Int) (i:Nat) (e:Int) (hi:i<=l.length):FnAt V0 v b 86 #[.agg #[.pointer (some ⟨b,0,none⟩)],.int .i64 kn] (dataR B.nck l kn (fun j=>consL B.nck B.long (tks l) j .nil)) (i,e):=fun w hu h=>by
 have hb:b<w.heap.size:=qC h;have hbV:=P.Q.hb;have hll:=P.Q.hl;obtain⟨W0,hW0⟩:∃W0,w.alloc (.cells #[.pointer (some ⟨b,0,none⟩)] 51)=W0:=⟨_,rfl⟩;have u0:Up w W0:=by rw[<- hW0];exact(Up.refl w).alloc _
 have b1:W0.heap[w.heap.size]? = some (.cells #[.pointer (some ⟨b,0,none⟩)] 51 (0,0)):=by rw[<- hW0];exact heap_alloc_new w _
 have hgU:∀w',Gs (On b) W0 w'->Up V0 w':=fun w' g=>g.up (hu.trans u0) fun q hq=>by rw[hq];exact hbV
 have hgB:∀w',Gs (On b) W0 w'->w'.cell? ⟨w.heap.size,0,none⟩=some (.pointer (some ⟨b,0,none⟩)):=fun w' g=>cell_of_row w' w.heap.size 0 _ _ _ (g.row b1 (by unfold On;omega))
 have hzW0:W0.heap.size=w.heap.size+1:=by rw[<- hW0];simp
 have k0:=hgB W0 (Gs.refl _ _);have p0:=h.up u0;have hl1:=kJ l B.nck (s:=(i,e)) hi;obtain⟨G,hG⟩:∃G,at0 (dataR B.nck l kn (fun j=>consL B.nck B.long (tks l) j .nil)) (i,e)=G:=⟨_,rfl⟩;have hG1:=hG.symm;unfold dataR at hG1;rw[yJ,jB] at hG1;obtain⟨s1,hs1⟩:∃s1,nS B.nck (tks l) (i,e)=s1:=⟨_,rfl⟩;have c1:=xK P i e hi W0 p0 (hgU W0 (Gs.refl _ _));obtain⟨nm,hnm⟩:∃nm,nmS (nam B.nck (tks l) i) e=nm:=⟨_,rfl⟩;rw[hs1] at c1 hl1 hG1;rw[hnm] at c1;have hl2:=zI l kEq hl1;have cN:=fun w' (u:Up V0 w') (p:Psr w' b v s1.1 s1.2)=>zN b v s1.1 s1.2 kEq w' P.Q.T p u (by omega)
 obtain⟨s2,hs2⟩:∃s2,kS (tks l) kEq s1=s2:=⟨_,rfl⟩;have e1:neI s1.1 (tkB (tks l) s1.1 s1.2 kEq)=s2.1:=congrArg Prod.fst hs2;have e2:neE s1.2 (tkB (tks l) s1.1 s1.2 kEq)=s2.2:=congrArg Prod.snd hs2;rw[e1,e2] at cN;rw[hs2] at hl2 hG1;rw[show nmS (nam B.nck (tks l) (i,e).1) (i,e).2=nm from hnm,yA (R:=fun j=>consL B.nck B.long (tks l) j .nil) (d:=.nil) (fun _=>zWj.ne hl2)] at hG1;have h00:=xX (l:=l) zWj hl2;have cC:=fun w' (u:Up V0 w') (p:Psr w' b v s2.1 s2.2)=>zNj P s2.1 s2.2 hl2 w' p u
 obtain⟨X,hX⟩:∃X,at0 (fun j=>consL B.nck B.long (tks l) j .nil) s2=X:=⟨_,rfl⟩;rw[hX] at hG1 h00;rw[show at0 (fun j=>consL B.nck B.long (tks l) j .nil) (s2.1,s2.2)=X from hX] at cC;rw[hG];have HG1:=Lib.hid hG1;have CN:=Lib.hid cN;have CC:=Lib.hid cC;have H00:=Lib.hid h00;have HPX:=Lib.hid P;have HGU:=Lib.hid hgU;have HGB:=Lib.hid hgB;have HW0:=Lib.hid hW0;have U0:=Lib.hid u0;have B1:=Lib.hid b1;have P0:=Lib.hid p0;clear hW0 u0 b1 h hu P hgU hgB p0;clear hG hG1 hs1 hs2 hnm cN cC h00 hX e1 e2
 go_enter Tryz.func86,Tryz.ntmps86
 go_wp2_with fail;rw[HW0.out];refine c1.mono ?_;rintro en w1 ⟨rfl,g1,p1⟩;have k1:=HGB.out w1 g1;have G1:=Lib.hid g1;have P1:=Lib.hid p1;clear g1 p1 c1;go_wp2_with fail;refine(jH kn nm none 0 0 w1).mono ?_;rintro en w2 ⟨rfl,hw2⟩;have u2:Up w1 w2:=by rw[hw2];exact(Up.refl _).alloc _
 have z2:w2.heap.size=w1.heap.size+1:=by rw[hw2];simp
 have nb2:Nb w2 w1.heap.size ⟨kn,0,nm,nob⟩ (.slice none 0 0):=by rw[hw2];exact heap_alloc_new w1 _
 have g2:=G1.out.trans (Gs.of u2);have k2:=HGB.out w2 g2;have cN:=CN.out w2 (HGU.out w2 g2) (P1.out.up u2);have NB2:=Lib.hid nb2;have G2:=Lib.hid g2;have zz:=G1.out.size;clear u2 nb2 g2 hw2;go_wp2_with fail;refine cN.mono ?_;rintro en w3 ⟨⟨u,rfl⟩,g3,p3⟩;have z3:=g3.size;have nb3:=g3.row NB2.out (by unfold On;omega);have g3:=G2.out.trans g3;have k3:=HGB.out w3 g3;have cC:=CC.out w3 (HGU.out w3 g3) p3;have NB3:=Lib.hid nb3;have G3:=Lib.hid g3;clear g3 p3 nb3 cN;go_wp2_with fail;refine cC.mono ?_;rintro en w4 ⟨A,n,c,rfl,g4,p4,n4⟩;have nb4:=g4.row NB3.out (by unfold On;omega);have c44:w4.cell? ⟨w1.heap.size,4,none⟩=some (.slice none 0 0):=cell_of_row w4 _ 4 _ _ _ nb4;have f44:w4.frozen? ⟨w1.heap.size,4,none⟩=false:=frozen_of_row w4 _ 4 _ _ nb4;have hb4:w1.heap.size<w4.heap.size:=qC nb4;have z4:=g4.size;have G4:=Lib.hid (G3.out.trans g4);have P4:=Lib.hid p4;have N4:=Lib.hid n4;have NB4:=Lib.hid nb4;clear g4 p4 n4 nb4 cC;go_wp2_with fail
 go_ret
 obtain⟨WF,hWF⟩:∃WF,w4.setCell ⟨w1.heap.size,4,none⟩ (.slice A n c)=WF:=⟨_,rfl⟩;have gF:Gs (On w1.heap.size) w4 WF:=by rw[<- hWF];exact(Gs.refl _ _).set _ _ (.inl rfl)
 have nF:Nb WF w1.heap.size ⟨kn,0,nm,nob⟩ (.slice A n c):=by rw[<- hWF];exact(show Nb w4 w1.heap.size ⟨kn,0,nm,nob⟩ (.slice none 0 0) from NB4.out).store _
 rw[hWF];rw[HG1.out];have est:=qY (nd kn nm (valD .nil X)) (stO X);refine PaT.mk ((Gs.of U0.out).trans (G4.out.outB gF (by omega))) (by rw[show rI _=_ from congrArg Prod.fst est,show rE _=_ from congrArg Prod.snd est];exact gF.row P4.out (by unfold On;omega)) fun t j ht=>?_
 obtain⟨h0,rfl⟩:=yY _ _ ht;obtain⟨-,-,a,ha⟩:=H00.out h0;rw[yD _ ha];obtain⟨g,c',hv,hc,hg,-,hf⟩:=N4.out a _ ha;injection hv with hA hn hcc;subst hA hn hcc;have hgs:=hg.1;have hgF:=gF.size;exact yV (x:=⟨kn,0,nm,nob⟩) nF rfl hc ⟨by omega,qC nF⟩ ⟨by omega,Nat.lt_of_lt_of_le hg.2 hgF⟩ (InF.keep (fun q hq=>⟨by have:=hq.1;omega,Nat.lt_of_lt_of_le hq.2 hgF⟩) (fun q hq=>gF.block q hq.2 (by have:=hq.1;unfold On;omega)) hg hf)
end
theorem zWk {w:World} {S:Nat->Prop}:∀{vs us:List Value} {f g:Fr},PtF w S vs f->PtF w S us g->PtF w S (vs++us) (f.app g)
 | [],_,.nil,_,_,h=>h
 | [],_,.cons _ _ _,_,h,_=>h.elim
 | _::_,_,.nil,_,h,_=>h.elim
 | _::vs,us,.cons _ _ r,g,h,h2=>⟨h.1,zWk (vs:=vs) (us:=us) (f:=r) (g:=g) h.2 h2⟩
structure NdM (W w:World) (B:Nat) (x:Nod) (vo:Value) (ps:List Value):Prop where
 node:Nb w B x vo
 own:w.ownsRow W.heap.size 24 1 vo ps.length ps
 ptr:Ptrs ps
 ne:vo.ownBlock≠some B
 hB:W.heap.size<=B
def KdM (W w:World) (B:Nat) (vo:Value) (ps:List Value) (f:Fr):Prop:=PtF w (fun q=>NewS W w q/\q≠B/\vo.ownBlock≠some q) ps f
section
variable {W w w' w5 w6:World} {B:Nat} {x:Nod} {vo v6:Value} {ps:List Value} {f:Fr} {S:Nat->Prop}
theorem NdM.gs (h:NdM W w B x vo ps) (g:Gs S w w') (hS:∀k,S k->k<W.heap.size):NdM W w' B x vo ps:=
 ⟨g.row h.node (fun hs=>by have:=hS B hs;have:=h.hB;omega),kY h.own g hS,h.ptr,h.ne,h.hB⟩
theorem KdM.gs (h:KdM W w B vo ps f) (g:Gs S w w') (hS:∀k,S k->k<W.heap.size):KdM W w' B vo ps f:=
 PtF.keep (fun _ hq=>⟨⟨hq.1.1,Nat.lt_of_lt_of_le hq.1.2 g.size⟩,hq.2⟩) (fun q hq=>g.block q hq.1.2 fun hs=>by have:=hS q hs;have:=hq.1.1;omega) h
theorem NdM.up (h:NdM W w B x vo ps) (u:Up w w'):NdM W w' B x vo ps:=h.gs (S:=fun _=>False) (Gs.of u) fun _ h=>h.elim
theorem KdM.up (h:KdM W w B vo ps f) (u:Up w w'):KdM W w' B vo ps f:=h.gs (S:=fun _=>False) (Gs.of u) fun _ h=>h.elim
theorem KdM.len (h:KdM W w B vo ps f):ps.length=f.len:=PtF.len h
theorem NdM.new (hW:W.heap.size<=w.heap.size):NdM W (w.alloc (.cells #[.int .i64 x.k,.int .i64 x.n,.string x.a,.string x.m,.slice none 0 0] 44)) w.heap.size x (.slice none 0 0) []:=
 ⟨heap_alloc_new w _,World.ownsRow_nil _ _ _ _,(fun u hu=>by cases hu),(by simp[Value.ownBlock]),hW⟩
theorem KdM.nil:KdM W w B (.slice none 0 0) [] .nil:=trivial
theorem NdM.mark (h:NdM W w B x vo ps) (s:ByteArray):NdM W (w.setCell ⟨B,3,none⟩ (.string s)) B {x with m:=s} vo ps:=
 ⟨(by have h1:=h.node;unfold Nb at h1 ⊢;simp[World.setCell,Array.getElem?_modify,h1]),jD h.own _ _ (fun g hg=>fun e=>h.ne (by rw[hg];exact congrArg some e)),h.ptr,h.ne,h.hB⟩
theorem NdM.more (h:NdM W w5 B x vo ps) {us:List Value} (hus:Ptrs us) {n:Nat} (hn:n=(ps++us).length) (ho6:w6.ownsRow W.heap.size 24 1 v6 n (ps++us)) (hg:w5.grownBy w6 vo.ownBlock) {g:Nat} (hv:v6.ownBlock=some g) (hat:vo.ownBlock=some g\/g=w5.heap.size) :
  NdM W (w6.setCell ⟨B,4,none⟩ v6) B x v6 (ps++us):=by
 have hgB:g≠B:=fun e=>by
  rcases hat with h1 | h1
  ·exact h.ne (by rw[h1,e])
  ·have:=qC h.node;omega
 have nb:Nb w6 B x vo:=(hg.block B (qC h.node) fun e=>h.ne e.symm).trans h.node;subst hn;exact⟨nb.store _,jD ho6 _ _ (fun g' e=>fun e2=>by rw[hv] at e;injection e with e;exact hgB (by rw[e];exact e2)),(fun u hu=>by
  rcases List.mem_append.1 hu with hu | hu
  ·exact h.ptr u hu
  ·exact hus u hu),(by rw[hv];exact fun e=>hgB (Option.some.inj e)),h.hB⟩
theorem KdM.more (h:KdM W w5 B vo ps f) {us:List Value} (hg:w5.grownBy w6 vo.ownBlock) {g:Nat} (hv:v6.ownBlock=some g) (hat:vo.ownBlock=some g\/g=w5.heap.size)
  {Wt:World} {f':Fr} (ht:PtF w5 (NewS Wt w5) us f') (hW:W.heap.size<=Wt.heap.size) (hB:B<Wt.heap.size) (hlt:∀g,vo.ownBlock=some g->g<Wt.heap.size) :
  KdM W (w6.setCell ⟨B,4,none⟩ v6) B v6 (ps++us) (f.app f'):=by
 have hz:=hg.size;have kp:∀q,q<w5.heap.size->q≠B->vo.ownBlock≠some q->(w6.setCell ⟨B,4,none⟩ v6).heap[q]? = w5.heap[q]?:=fun q hq hqB hne=>
  (Below.heap_setCell _ _ _ _ hqB).trans (hg.block q hq fun e=>hne e.symm)
 have hgn:∀q,q<w5.heap.size->vo.ownBlock≠some q->v6.ownBlock≠some q:=fun q hq hne e=>by
  rw[hv] at e;injection e with e
  rcases hat with h1 | h1
  ·rw[e] at h1;exact hne h1
  ·omega
 have hs:(w6.setCell ⟨B,4,none⟩ v6).heap.size=w6.heap.size:=by simp[World.setCell]
 have hne:∀q,NewS Wt w5 q->q≠B/\vo.ownBlock≠some q:=fun q hq=>⟨by have:=hq.1;omega,fun e=>by have:=hlt q e;have:=hq.1;omega⟩
 exact zWk (PtF.keep (fun q hq=>⟨⟨hq.1.1,by have:=hq.1.2;omega⟩,hq.2.1,hgn q hq.1.2 hq.2.2⟩) (fun q hq=>kp q hq.1.2 hq.2.1 hq.2.2) h)
  (PtF.keep (fun q hq=>⟨⟨by have:=hq.1;omega,by have:=hq.2;omega⟩,(hne q hq).1,hgn q hq.2 (hne q hq).2⟩) (fun q hq=>kp q hq.2 (hne q hq).1 (hne q hq).2) ht)
theorem NdM.gmore (h:NdM W w5 B x vo ps) {a:World} (ga:Gs S a w5) (ha:a.heap.size<=W.heap.size) (hg:w5.grownBy w6 vo.ownBlock):Gs S a (w6.setCell ⟨B,4,none⟩ v6):=
 (ga.grown hg fun g e=>.inr (by have:=World.ownsRow.lt h.own g e;omega)).set _ _ (.inr (by have:=h.hB;simp only;omega))
theorem zYr {w:World} {base:Nat} {e:TypeId} {v:Value} {n:Nat} {xs:List Value} (h:w.ownsRow base e 1 v n xs):∃A c,v = .slice A n c:=by
 rcases h.2 with ⟨h1,h2⟩ | ⟨g,cap,cur,h1,_⟩
 ·exact⟨none,0,by rw[h1,h2]⟩
 ·exact⟨_,cap,h1⟩
theorem mJ (h:NdM W w5 B x vo ps) (hg:w5.grownBy w6 vo.ownBlock):Nb w6 B x vo:=(hg.block B (qC h.node) fun e=>h.ne e.symm).trans h.node
def FromW (W:World) (q:Nat):Prop:=W.heap.size<=q
theorem NdM.wmore (h:NdM W w5 B x vo ps) (hg:w5.grownBy w6 vo.ownBlock):Gs (FromW W) w5 (w6.setCell ⟨B,4,none⟩ v6):=
 ((Gs.refl (FromW W) w5).grown hg fun g e=>.inl (World.ownsRow.lt h.own g e).1).set _ _ (.inl h.hB)
theorem PtF.one1 {S:Nat->Prop} {v:Value} {t:Tr} (h:InT w S v t):PtF w S [v] (fr1 t):=⟨h,trivial⟩
theorem NdM.tree (h:NdM W w B x vo ps) (k:KdM W w B vo ps f):NewT W w (.pointer (some ⟨B,0,none⟩)) (x,f):=by
 have hl:=k.len;have ho:=h.own;rw[hl] at ho;exact OwnT.tree (x:=x) ⟨ps,ho,PtF.keep (fun q hq=>hq.1) (fun _ _=>rfl) k⟩ h.node ⟨h.hB,qC h.node⟩ fun g e=>World.ownsRow.lt h.own g e
end
end Go.Proofs.YtgeghilbikljcaaGreatDoor
