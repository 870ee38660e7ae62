/-
  The document's name, sub, typ: a name, an expression, a type, and the signs behind it.
-/
import Derived.Test.YtgeghilbikljcaaGreatDoorGs15
import Derived.Test.YtgeghilbikljcaaGreatDoorGs33
set_option maxHeartbeats 40000000
set_option maxRecDepth 100000
namespace Go.Proofs.YtgeghilbikljcaaGreatDoor
open Go.RowKit
def NmV (R:Rs ByteArray) (s:ByteArray) (j e:Int):Prop:=match R with
 | .inl (a,q)=>s=a/\j=(q:Int)/\e=0
 | .inr (p,r)=>j=(p:Int)/\e=r
def NmR (R:Rs ByteArray) (w:World) (e:Ending) (w':World):Prop:=∃s j er,e = .returned (.tuple #[.string s,.int .i64 j,.int .i64 er])/\NmV R s j er/\Up w w'
theorem In0.ne {α:Type} {N i:Nat} {R:Rs α} (h:In0 N i R) {p:Nat} {e:Int} (hR:R = .inr (p,e)):¬e=0:=by
 rw[hR] at h;have h:i<=p/\p<=N/\(e=6\/e=9):=h;omega
theorem zKb (l:List Te) (i:Nat) (hl:l.length<=1000000) (hz:∀t∈l,t.t.s.size<=1000000000) (ks:List ByteArray) (w:World) (v vk:Value) (hv:Tke w v l) (hk:TxS w vk ks) :
  Calls Tryz.prog 185 #[v,.int .i64 (i:Int),vk] w (NmR (nameQ B.nck (tks l) i ks) w):=by
 have hz':∀t∈tks l,t.s.size<=1000000000:=fun t ht=>by
  obtain⟨u,hu,rfl⟩:=List.mem_map.1 ht;exact hz u hu
 have cN:=vF (tks l) (i:Int) w v hv.tkm hz';have ez:namZ B.nck (tks l) (i:Int)=nam B.nck (tks l) i:=by unfold namZ;rw[if_pos (by omega),Int.toNat_natCast]
 rw[ez] at cN
 cases hs:nam B.nck (tks l) i with
 | none=>
  rw[hs] at cN;have hR:nameQ B.nck (tks l) i ks = .inr (i,6):=by unfold nameQ;rw[hs]
  rw[hR];clear hs ez hz hz' hv hk hR
  go_enter Tryz.func185,Tryz.ntmps185
  go_wp2_with fail;refine cN.mono ?_;rintro e w1 ⟨rfl,u1⟩;go_wp2_with fail
  go_ret3
  exact⟨_,_,_,rfl,⟨rfl,rfl⟩,u1⟩
 | some s=>
  rw[hs] at cN;have hlt:=nW hs;have hR:nameQ B.nck (tks l) i ks=thn (keysL (tks l) (i+1) ks) fun _ m=>.inl (s,m):=by unfold nameQ;rw[hs]
  rw[hR];have hw1:IntKind.i64.wrap ((i:Int)+1)=((i+1:Nat):Int):=by rw[IntKind.wrap_i64]<;>omega
  have cK:=fun(W:World) (u:Up w W)=>fH l (i+1) hlt hl ks W v vk (hv.up u) (hk.up u)
  obtain⟨R,hRR⟩:∃R,keysL (tks l) (i+1) ks=R:=⟨_,rfl⟩;rw[hRR] at cK ⊢;clear hs ez hz hz' hv hk hR hRR
  go_enter Tryz.func185,Tryz.ntmps185
  go_wp2_with fail;refine cN.mono ?_;rintro e w1 ⟨rfl,u1⟩;go_wp2_with fail;refine(cK w1 u1).mono ?_;rintro e w2 ⟨j,er,rfl,hV,u2⟩;go_wp2_with fail
  go_ret3
  refine⟨_,_,_,rfl,?_,u1.trans u2⟩
  cases R with
  | inl r=>exact⟨rfl,hV.1,hV.2⟩
  | inr r=>exact hV
def ExAt (l:List Te) (E:Nat->Rs Tr) (f:FuncId) (i:Nat):Prop:=∀(w:World) (v:Value),Tke w v l->Calls Tryz.prog f #[v,.int .i64 (i:Int)] w (qJ (E i) w)
theorem zCy (l:List Te) (E:Nat->Rs Tr) (hE:∀j,j<=l.length->In l.length j (E j)) (i:Nat) (hi:i<=l.length) (hl:l.length<=1000000) (cE:ExAt l E 161 i) (ks:List ByteArray) (w:World) (v vk:Value) (hv:Tke w v l) (hk:TxS w vk ks) :
  Calls Tryz.prog 186 #[v,.int .i64 (i:Int),vk] w (qJ (thenK (tks l) (E i) ks) w):=by
 have cX:=cE w v hv;have hin:=hE i hi;unfold thenK
 cases hR:E i with
 | inr e=>
  obtain⟨p,er⟩:=e;rw[hR] at cX;have hne:¬er=0:=hin.ne hR;clear hv hk hin hR cE hE
  go_enter Tryz.func186,Tryz.ntmps186
  go_wp2_with fail;refine cX.mono ?_;rintro e w1 ⟨va,ja,ea,rfl,⟨rfl,rfl,A1,rfl⟩,u1⟩;go_wp2_with fail
  go_ret3
  exact⟨_,_,_,rfl,⟨rfl,rfl,none,rfl⟩,u1⟩
 | inl r=>
  obtain⟨a,j⟩:=r;rw[hR] at cX;have hj:j<=l.length:=zEa hin hR;have cK:=fun(W:World) (u:Up w W)=>fH l j hj hl ks W v vk (hv.up u) (hk.up u)
  show Calls _ _ _ _ (qJ (thn (keysL (tks l) j ks) fun _ m=>.inl (a,m)) w)
  obtain⟨R,hRR⟩:∃R,keysL (tks l) j ks=R:=⟨_,rfl⟩;rw[hRR] at cK ⊢;clear hv hk hin hR cE hE hRR
  go_enter Tryz.func186,Tryz.ntmps186
  go_wp2_with fail;refine cX.mono ?_;rintro e w1 ⟨va,ja,ea,rfl,⟨h1,rfl,rfl⟩,u1⟩;go_wp2_with fail;refine(cK w1 u1).mono ?_;rintro e w2 ⟨j2,er,rfl,hV,u2⟩;go_wp2_with fail
  go_ret3
  refine⟨_,_,_,rfl,?_,u1.trans u2⟩
  cases R with
  | inl r=>exact⟨h1.up u2,hV.1,hV.2⟩
  | inr r=>
   obtain⟨q,o,rfl⟩:=InT.ptr h1;exact⟨hV.1,hV.2,_,rfl⟩
theorem zCz (l:List Te) (i:Nat) (hi:i<=l.length) (hl:l.length<=1000000) (hz:∀t∈l,t.t.s.size<=1000000000) (ks:List ByteArray) (w:World) (v vk:Value) (hv:Tke w v l) (hk:TxS w vk ks) :
  Calls Tryz.prog 188 #[v,.int .i64 (i:Int),vk] w (qJ (thenK (tks l) (typL B.nck B.long (tks l) i) ks) w):=by
 have hz':∀t∈tks l,t.s.size<=1000000000:=fun t ht=>by
  obtain⟨u,hu,rfl⟩:=List.mem_map.1 ht;exact hz u hu
 have cX:=zTs (tks l) (i:Int) (by rw[qY];exact hl) hz' w v hv.tkm;have eT:typZ B.nck B.long (tks l) (i:Int)=typL B.nck B.long (tks l) i:=by unfold typZ;rw[if_neg (by rw[qY];omega),Int.toNat_natCast]
 rw[eT] at cX;have hin:=jC (nk:=B.nck) (lg:=B.long) hi;unfold thenK
 cases hR:typL B.nck B.long (tks l) i with
 | inr e=>
  obtain⟨p,er⟩:=e;rw[hR] at cX;have hne:¬er=0:=hin.ne hR;clear hv hk hin hR eT hz hz'
  go_enter Tryz.func188,Tryz.ntmps188
  go_wp2_with fail;refine cX.mono ?_;rintro e w1 ⟨va,ja,ea,rfl,⟨rfl,rfl,rfl⟩,u1⟩;go_wp2_with fail
  go_ret3
  exact⟨_,_,_,rfl,⟨rfl,rfl,none,rfl⟩,u1⟩
 | inl r=>
  obtain⟨a,j⟩:=r;rw[hR] at cX;have hj:j<=l.length:=zEa hin hR;have cK:=fun(W:World) (u:Up w W)=>fH l j hj hl ks W v vk (hv.up u) (hk.up u)
  show Calls _ _ _ _ (qJ (thn (keysL (tks l) j ks) fun _ m=>.inl (a,m)) w)
  obtain⟨R,hRR⟩:∃R,keysL (tks l) j ks=R:=⟨_,rfl⟩;rw[hRR] at cK ⊢;clear hv hk hin hR eT hRR hz hz'
  go_enter Tryz.func188,Tryz.ntmps188
  go_wp2_with fail;refine cX.mono ?_;rintro e w1 ⟨va,ja,ea,rfl,⟨h1,rfl,rfl⟩,u1⟩;go_wp2_with fail;refine(cK w1 u1).mono ?_;rintro e w2 ⟨j2,er,rfl,hV,u2⟩;go_wp2_with fail
  go_ret3
  refine⟨_,_,_,rfl,?_,u1.trans u2⟩
  cases R with
  | inl r=>exact⟨h1.up u2,hV.1,hV.2⟩
  | inr r=>
   obtain⟨q,o,rfl⟩:=InT.ptr h1;exact⟨hV.1,hV.2,_,rfl⟩
theorem TxS.row1 (w:World) (a:ByteArray) (ty:TypeId):TxS (w.alloc (.cells #[.string a] ty)) (.slice (some ⟨w.heap.size,0,none⟩) 1 1) [a]:=by
 refine⟨some ⟨w.heap.size,0,none⟩,1,rfl,fun j s h=>⟨_,_,rfl,?_⟩⟩;have h0:=heap_alloc_new w (.cells #[.string a] ty)
 match j,h with
 | 0,h=>
  injection h with h;subst h;exact cell_of_row _ _ 0 _ _ _ h0
theorem TxS.row2 (w:World) (a b:ByteArray) (ty:TypeId):TxS (w.alloc (.cells #[.string a,.string b] ty)) (.slice (some ⟨w.heap.size,0,none⟩) 2 2) [a,b]:=by
 refine⟨some ⟨w.heap.size,0,none⟩,2,rfl,fun j s h=>⟨_,_,rfl,?_⟩⟩;have h0:=heap_alloc_new w (.cells #[.string a,.string b] ty)
 match j,h with
 | 0,h=>
  injection h with h;subst h;exact cell_of_row _ _ 0 _ _ _ h0
 | 1,h=>
  injection h with h;subst h;exact cell_of_row _ _ 1 _ _ _ h0
section
variable {W w:World}
theorem has1 {va:Value} {a:Tr} {k:Int} {s:ByteArray} (hW:W.heap.size<=w.heap.size) (ha:NewT W w va a) :
  NewT W ((w.alloc (.cells #[va] 24)).alloc (.cells #[.int .i64 k,.int .i64 0,.string s,.string ⟨#[]⟩,.slice (some ⟨w.heap.size,0,none⟩) 1 1] 44)) (.pointer (some ⟨w.heap.size+1,0,none⟩)) (nd k s (fr1 a)):=by
 have e1:(w.alloc (.cells #[va] 24)).heap.size=w.heap.size+1:=by simp
 rw[<- e1];obtain⟨W1,hW1⟩:∃W1,w.alloc (.cells #[va] 24)=W1:=⟨_,rfl⟩;have s1:W1.heap[w.heap.size]? = some (.cells #[va] 24 (0,0)):=by rw[<- hW1];exact heap_alloc_new w _
 have u1:Up w W1:=by rw[<- hW1];exact(Up.refl w).alloc _
 have z1:=u1.size;rw[hW1];obtain⟨W2,hW2⟩:∃W2,W1.alloc (.cells #[.int .i64 k,.int .i64 0,.string s,.string ⟨#[]⟩,.slice (some ⟨w.heap.size,0,none⟩) 1 1] 44)=W2:=⟨_,rfl⟩;have s2:W2.heap[W1.heap.size]? = some (.cells #[.int .i64 k,.int .i64 0,.string s,.string ⟨#[]⟩,.slice (some ⟨w.heap.size,0,none⟩) 1 1] 44 (0,0)):=by rw[<- hW2];exact heap_alloc_new W1 _
 have u2:Up W1 W2:=by rw[<- hW2];exact(Up.refl W1).alloc _
 have s3:W2.heap[w.heap.size]? = some (.cells #[va] 24 (0,0)):=u2.row s1;rw[hW2];exact zR (x:=⟨k,0,s,nob⟩) (f:=fr1 a) s2 rfl (Nat.le_refl _) ⟨by omega,qC s2⟩ ⟨hW,qC s3⟩ ⟨⟨_,cell_of_row W2 w.heap.size 0 _ _ _ s3,ha.up (u1.trans u2)⟩,trivial⟩
theorem has3 {va vb vc:Value} {a b c:Tr} {k:Int} {s:ByteArray} (hW:W.heap.size<=w.heap.size) (ha:NewT W w va a) (hb:NewT W w vb b) (hc:NewT W w vc c) :
  NewT W ((w.alloc (.cells #[va,vb,vc] 24)).alloc (.cells #[.int .i64 k,.int .i64 0,.string s,.string ⟨#[]⟩,.slice (some ⟨w.heap.size,0,none⟩) 3 3] 44)) (.pointer (some ⟨w.heap.size+1,0,none⟩)) (nd k s (fr3 a b c)):=by
 have e1:(w.alloc (.cells #[va,vb,vc] 24)).heap.size=w.heap.size+1:=by simp
 rw[<- e1];obtain⟨W1,hW1⟩:∃W1,w.alloc (.cells #[va,vb,vc] 24)=W1:=⟨_,rfl⟩;have s1:W1.heap[w.heap.size]? = some (.cells #[va,vb,vc] 24 (0,0)):=by rw[<- hW1];exact heap_alloc_new w _
 have u1:Up w W1:=by rw[<- hW1];exact(Up.refl w).alloc _
 have z1:=u1.size;rw[hW1];obtain⟨W2,hW2⟩:∃W2,W1.alloc (.cells #[.int .i64 k,.int .i64 0,.string s,.string ⟨#[]⟩,.slice (some ⟨w.heap.size,0,none⟩) 3 3] 44)=W2:=⟨_,rfl⟩;have s2:W2.heap[W1.heap.size]? = some (.cells #[.int .i64 k,.int .i64 0,.string s,.string ⟨#[]⟩,.slice (some ⟨w.heap.size,0,none⟩) 3 3] 44 (0,0)):=by rw[<- hW2];exact heap_alloc_new W1 _
 have u2:Up W1 W2:=by rw[<- hW2];exact(Up.refl W1).alloc _
 have s3:W2.heap[w.heap.size]? = some (.cells #[va,vb,vc] 24 (0,0)):=u2.row s1;rw[hW2];exact zR (x:=⟨k,0,s,nob⟩) (f:=fr3 a b c) s2 rfl (Nat.le_refl _) ⟨by omega,qC s2⟩ ⟨hW,qC s3⟩ ⟨⟨_,cell_of_row W2 w.heap.size 0 _ _ _ s3,ha.up (u1.trans u2)⟩,⟨_,cell_of_row W2 w.heap.size 1 _ _ _ s3,hb.up (u1.trans u2)⟩,⟨_,cell_of_row W2 w.heap.size 2 _ _ _ s3,hc.up (u1.trans u2)⟩,trivial⟩
end
theorem RsV.ptr {R:Rs Tr} {w w':World} {v:Value} {j e:Int} (h:RsV R w w' v j e):∃A,v = .pointer A:=by
 cases R with
 | inl r=>obtain⟨q,o,rfl⟩:=InT.ptr h.1;exact⟨_,rfl⟩
 | inr r=>exact h.2.2
theorem qR (i k:Nat) (hi:i<=1000000) (hk:k<=1000000):IntKind.i64.wrap ((i:Int)+(k:Int))=((i+k:Nat):Int):=by rw[IntKind.wrap_i64]<;>omega
structure uQ (l:List Te) (E:Nat->Rs Tr) (i:Nat) (w:World) (v:Value):Prop where
 hi:i<l.length
 hl:l.length<=1000000
 inE:∀j,j<=l.length->In l.length j (E j)
 key:∀(j:Nat) (x:ByteArray) (W:World),Up w W->Calls Tryz.prog 41 #[v,.int .i64 (j:Int),.string x] W (BoU (Proofs.YtgeghilbikljcaaGreatDoor.key (tks l) j x) W)
 name:∀(j:Nat) (ks:List ByteArray) (W:World) (vk:Value),Up w W->TxS W vk ks->Calls Tryz.prog 185 #[v,.int .i64 (j:Int),vk] W (NmR (nameQ B.nck (tks l) j ks) W)
 keys:∀(j:Nat) (ks:List ByteArray) (W:World) (vk:Value),j<=l.length->Up w W->TxS W vk ks->Calls Tryz.prog 69 #[v,.int .i64 (j:Int),vk] W (KeP (keysL (tks l) j ks) W)
 typ:∀(j:Nat) (ks:List ByteArray) (W:World) (vk:Value),j<=l.length->Up w W->TxS W vk ks->Calls Tryz.prog 188 #[v,.int .i64 (j:Int),vk] W (qJ (thenK (tks l) (typL B.nck B.long (tks l) j) ks) W)
 sub:∀(j:Nat) (ks:List ByteArray) (W:World) (vk:Value),i<j->j<=l.length->Up w W->TxS W vk ks->Calls Tryz.prog 186 #[v,.int .i64 (j:Int),vk] W (qJ (thenK (tks l) (E j) ks) W)
 expr:∀(j:Nat) (W:World),i<j->j<=l.length->Up w W->Calls Tryz.prog 161 #[v,.int .i64 (j:Int)] W (qJ (E j) W)
theorem zX {l:List Tk} {i:Nat} {x y:ByteArray} (h:key l i x=true) (hxy:¬x=y):key l i y=false:=by
 unfold key at h ⊢
 cases ht:l[i]? with
 | none=>rfl
 | some t=>
  rw[ht] at h;simp only[Bool.and_eq_true,decide_eq_true_eq] at h
  show(decide (t.k=3)&&decide (t.s=y))=false
  rw[h.2,decide_eq_false hxy,Bool.and_false]
theorem NewT.from {W a b c:World} {v:Value} {t:Tr} (h:NewT a b v t) (u:Up W a) (u2:Up b c):NewT W c v t:=(h.base u.size).up u2
theorem zKc {l:List Te} {N:Nat} {A E:Nat->Rs Tr} {M:Nat->Fr->Rs Fr} {i:Nat} {w:World} {v:Value} (H:uQ l E i w v) (hk:key (tks l) i kLet=true) :
  Calls Tryz.prog 161 #[v,.int .i64 (i:Int)] w (qJ (exprS B.nck B.long l N A E M i) w):=by
 have hil:=H.hi;have hll:=H.hl;have k0:=H.key i kFn;have k1:=H.key i kLet;rw[zX hk (by decide)] at k0;rw[hk] at k1;have hR:exprS B.nck B.long l N A E M i=letS B.nck l E (i+1):=by unfold exprS;rw[if_neg (by rw[zX hk (by decide)];decide),if_pos hk]
 rw[hR];have hw1:=qR i 1 (by omega) (by omega);obtain⟨R,hRe⟩:∃R,letS B.nck l E (i+1)=R:=⟨_,rfl⟩;rw[hRe];have HR:=Lib.hid hRe;clear hR hk hRe
 go_enter Tryz.func161,Tryz.ntmps161
 go_wp2_with fail;refine(k0 w (Up.refl w)).mono ?_;rintro e x0 ⟨rfl,u0⟩;have V0:=u0;go_wp2_with fail;refine(k1 x0 V0).mono ?_;rintro e x1 ⟨rfl,u1⟩;have V1:=V0.trans u1;have c0:=fun W vk u h=>H.name (i+1) [kEq] W vk u h
 have a0:=zD (p:=B.nck) (ks:=[kEq]) hil;obtain⟨R0,hR0⟩:∃R0,nameQ B.nck (tks l) (i+1) [kEq]=R0:=⟨_,rfl⟩;rw[hR0] at c0 a0;have HR0:=Lib.hid hR0;clear hR0;go_wp2_with fail;refine(c0 _ _ (V1.alloc _) (TxS.row1 x1 kEq _)).mono ?_;rintro e w1 ⟨s,j0,e0,rfl,hV,z0⟩;have U1:Up w w1:=(V1.alloc _).trans z0
 cases R0 with
 | inr r=>
  obtain⟨p,er⟩:=r;obtain⟨rfl,rfl⟩:=hV;have hne:=a0.ne rfl;go_wp2_with fail
  go_ret3
  rw[show R = .inr (p,e0) from by rw[<- HR.out];unfold letS;rw[HR0.out];rfl];exact⟨_,_,_,rfl,⟨rfl,rfl,none,rfl⟩,U1⟩
 | inl r=>
  obtain⟨s0,q0⟩:=r;obtain⟨rfl,rfl,rfl⟩:=hV;have hq0:i+1<q0/\q0<=l.length:=a0;clear c0 a0;have c1:=fun W vk u h=>H.sub q0 [kIn] W vk (by omega) hq0.2 u h
  have a1:=qP (ks:=[kIn]) (H.inE q0 hq0.2);obtain⟨R1,hR1⟩:∃R1,thenK (tks l) (E q0) [kIn]=R1:=⟨_,rfl⟩;rw[hR1] at c1 a1;have HR1:=Lib.hid hR1;clear hR1;go_wp2_with fail;refine(c1 _ _ (U1.alloc _) (TxS.row1 w1 kIn _)).mono ?_;rintro e w2 ⟨v1,j1,e1,rfl,hV,z1⟩;have U2:Up w w2:=(U1.alloc _).trans z1
  cases R1 with
  | inr r=>
   obtain⟨p,er⟩:=r;obtain⟨rfl,rfl,A1,rfl⟩:=hV;have hne:=a1.ne rfl;go_wp2_with fail
   go_ret3
   rw[show R = .inr (p,e1) from by rw[<- HR.out];unfold letS;rw[HR0.out];show thn (thenK (tks l) (E q0) [kIn]) _=_;rw[HR1.out];rfl];exact⟨_,_,_,rfl,⟨rfl,rfl,none,rfl⟩,U2⟩
  | inl r=>
   obtain⟨t1,q1⟩:=r;obtain⟨h1,rfl,rfl⟩:=hV;obtain⟨o1,p1,rfl⟩:=InT.ptr h1;have hq1:q0<q1/\q1<=l.length:=a1;clear c1 a1;have c2:=fun W vk u h=>H.sub q1 [kEnd] W vk (by omega) hq1.2 u h
   obtain⟨R2,hR2⟩:∃R2,thenK (tks l) (E q1) [kEnd]=R2:=⟨_,rfl⟩;rw[hR2] at c2;have HR2:=Lib.hid hR2;clear hR2;go_wp2_with fail;refine(c2 _ _ (U2.alloc _) (TxS.row1 w2 kEnd _)).mono ?_;rintro e w3 ⟨v2,j2,e2,rfl,hV,z2⟩;have U3:Up w w3:=(U2.alloc _).trans z2;obtain⟨pb,rfl⟩:=hV.ptr;go_wp2_with fail;refine(zC 29 s _ _ _ _).mono ?_;rintro e w4 ⟨rfl,rfl⟩;go_wp2_with fail
   go_ret3
   have hRR:R=thn R2 fun b m=>.inl (nd 29 s (fr2 t1 b),m):=by rw[<- HR.out];unfold letS;rw[HR0.out];show thn (thenK (tks l) (E q0) [kIn]) _=_;rw[HR1.out];show thn (thenK (tks l) (E q1) [kEnd]) _=_;rw[HR2.out]
   rw[hRR];refine⟨_,_,_,rfl,?_,(U3.alloc _).alloc _⟩
   cases R2 with
   | inr r=>exact⟨hV.1,hV.2.1,_,rfl⟩
   | inl r=>exact⟨zWw U3.size (h1.from (U1.alloc _) ((((Up.refl _).alloc _).trans z2))) (hV.1.from (U2.alloc _) (Up.refl _)),hV.2.1,hV.2.2⟩
theorem zF0 {l:List Te} {N:Nat} {A E:Nat->Rs Tr} {M:Nat->Fr->Rs Fr} {i:Nat} {w:World} {v:Value} (H:uQ l E i w v) (hk:key (tks l) i kIf=true) :
  Calls Tryz.prog 161 #[v,.int .i64 (i:Int)] w (qJ (exprS B.nck B.long l N A E M i) w):=by
 have hil:=H.hi;have hll:=H.hl;have k0:=H.key i kFn;have k1:=H.key i kLet;have k2:=H.key i kIf;rw[zX hk (by decide)] at k0;rw[zX hk (by decide)] at k1;rw[hk] at k2;have hR:exprS B.nck B.long l N A E M i=ifS l E (i+1):=by unfold exprS;rw[if_neg (by rw[zX hk (by decide)];decide),if_neg (by rw[zX hk (by decide)];decide),if_pos hk]
 rw[hR];have hw1:=qR i 1 (by omega) (by omega);obtain⟨R,hRe⟩:∃R,ifS l E (i+1)=R:=⟨_,rfl⟩;rw[hRe];have HR:=Lib.hid hRe;clear hR hk hRe
 go_enter Tryz.func161,Tryz.ntmps161
 go_wp2_with fail;refine(k0 w (Up.refl w)).mono ?_;rintro e x0 ⟨rfl,u0⟩;have V0:=u0;go_wp2_with fail;refine(k1 x0 V0).mono ?_;rintro e x1 ⟨rfl,u1⟩;have V1:=V0.trans u1;go_wp2_with fail;refine(k2 x1 V1).mono ?_;rintro e x2 ⟨rfl,u2⟩;have V2:=V1.trans u2;have c0:=fun W vk u h=>H.sub (i+1) [kThen] W vk (Nat.lt_succ_self i) hil u h
 have a0:=qP (ks:=[kThen]) (H.inE (i+1) hil);obtain⟨R0,hR0⟩:∃R0,thenK (tks l) (E (i+1)) [kThen]=R0:=⟨_,rfl⟩;rw[hR0] at c0 a0;have HR0:=Lib.hid hR0;clear hR0;go_wp2_with fail;refine(c0 _ _ (V2.alloc _) (TxS.row1 x2 kThen _)).mono ?_;rintro e w1 ⟨v0,j0,e0,rfl,hV,z0⟩;have U1:Up w w1:=(V2.alloc _).trans z0
 cases R0 with
 | inr r=>
  obtain⟨p,er⟩:=r;obtain⟨rfl,rfl,A1,rfl⟩:=hV;have hne:=a0.ne rfl;go_wp2_with fail
  go_ret3
  rw[show R = .inr (p,e0) from by rw[<- HR.out];unfold ifS;rw[HR0.out];rfl];exact⟨_,_,_,rfl,⟨rfl,rfl,none,rfl⟩,U1⟩
 | inl r=>
  obtain⟨t0,q0⟩:=r;obtain⟨h0,rfl,rfl⟩:=hV;obtain⟨o0,p0,rfl⟩:=InT.ptr h0;have hq0:i+1<q0/\q0<=l.length:=a0;clear c0 a0;have c1:=fun W vk u h=>H.sub q0 [kElse] W vk (by omega) hq0.2 u h
  have a1:=qP (ks:=[kElse]) (H.inE q0 hq0.2);obtain⟨R1,hR1⟩:∃R1,thenK (tks l) (E q0) [kElse]=R1:=⟨_,rfl⟩;rw[hR1] at c1 a1;have HR1:=Lib.hid hR1;clear hR1;go_wp2_with fail;refine(c1 _ _ (U1.alloc _) (TxS.row1 w1 kElse _)).mono ?_;rintro e w2 ⟨v1,j1,e1,rfl,hV,z1⟩;have U2:Up w w2:=(U1.alloc _).trans z1
  cases R1 with
  | inr r=>
   obtain⟨p,er⟩:=r;obtain⟨rfl,rfl,A1,rfl⟩:=hV;have hne:=a1.ne rfl;go_wp2_with fail
   go_ret3
   rw[show R = .inr (p,e1) from by rw[<- HR.out];unfold ifS;rw[HR0.out];show thn (thenK (tks l) (E q0) [kElse]) _=_;rw[HR1.out];rfl];exact⟨_,_,_,rfl,⟨rfl,rfl,none,rfl⟩,U2⟩
  | inl r=>
   obtain⟨t1,q1⟩:=r;obtain⟨h1,rfl,rfl⟩:=hV;obtain⟨o1,p1,rfl⟩:=InT.ptr h1;have hq1:q0<q1/\q1<=l.length:=a1;clear c1 a1;have c2:=fun W u=>H.expr q1 W (by omega) hq1.2 u
   obtain⟨R2,hR2⟩:∃R2,E q1=R2:=⟨_,rfl⟩;rw[hR2] at c2;have HR2:=Lib.hid hR2;clear hR2;go_wp2_with fail;refine(c2 _ U2).mono ?_;rintro e w3 ⟨v2,j2,e2,rfl,hV,z2⟩;have U3:Up w w3:=U2.trans z2;obtain⟨pb,rfl⟩:=hV.ptr;go_wp2_with fail;refine(zC 30 nob _ _ _ _).mono ?_;rintro e w4 ⟨rfl,rfl⟩;go_wp2_with fail
   go_ret3
   have hRR:R=thn R2 fun b m=>.inl (nd 30 nob (fr3 t0 t1 b),m):=by rw[<- HR.out];unfold ifS;rw[HR0.out];show thn (thenK (tks l) (E q0) [kElse]) _=_;rw[HR1.out];show thn (E q1) _=_;rw[HR2.out]
   rw[hRR];refine⟨_,_,_,rfl,?_,(U3.alloc _).alloc _⟩
   cases R2 with
   | inr r=>exact⟨hV.1,hV.2.1,_,rfl⟩
   | inl r=>exact⟨has3 U3.size (h0.from (V2.alloc _) (((((Up.refl _).alloc _).trans z1).trans z2))) (h1.from (U1.alloc _) (((Up.refl _).trans z2))) (hV.1.from U2 (Up.refl _)),hV.2.1,hV.2.2⟩
theorem zB0 {l:List Te} {E:Nat->Rs Tr} {i:Nat} {w:World} {v:Value} (H:uQ l E i w v) :
  Calls Tryz.prog 184 #[v,.int .i64 ((i+1:Nat):Int)] w (qJ (lamS B.nck B.long l E (i+1)) w):=by
 have hil:=H.hi;have hll:=H.hl;obtain⟨R,hRe⟩:∃R,lamS B.nck B.long l E (i+1)=R:=⟨_,rfl⟩;rw[hRe];have HR:=Lib.hid hRe;clear hRe
 go_enter Tryz.func184,Tryz.ntmps184
 have c0:=fun W vk u h=>H.keys (i+1) [kOpen] W vk hil u h
 have a0:=lP (k:=kOpen) (r:=[]) hil;obtain⟨R0,hR0⟩:∃R0,keysL (tks l) (i+1) [kOpen]=R0:=⟨_,rfl⟩;rw[hR0] at c0 a0;have HR0:=Lib.hid hR0;clear hR0;go_wp2_with fail;refine(c0 _ _ ((Up.refl w).alloc _) (TxS.row1 w kOpen _)).mono ?_;rintro e w1 ⟨j0,e0,rfl,hV,z0⟩;have U1:Up w w1:=((Up.refl w).alloc _).trans z0
 cases R0 with
 | inr r=>
  obtain⟨p,er⟩:=r;obtain⟨rfl,rfl⟩:=hV;have hne:=a0.ne rfl;go_wp2_with fail
  go_ret3
  rw[show R = .inr (p,e0) from by rw[<- HR.out];unfold lamS;rw[HR0.out];rfl];exact⟨_,_,_,rfl,⟨rfl,rfl,none,rfl⟩,U1⟩
 | inl r=>
  obtain⟨y0,q0⟩:=r;obtain⟨rfl,rfl⟩:=hV;have hq0:i+1<q0/\q0<=l.length:=a0;clear c0 a0;have c1:=fun W vk u h=>H.name q0 [qH] W vk u h
  have a1:=zD (p:=B.nck) (ks:=[qH]) hq0.2;obtain⟨R1,hR1⟩:∃R1,nameQ B.nck (tks l) q0 [qH]=R1:=⟨_,rfl⟩;rw[hR1] at c1 a1;have HR1:=Lib.hid hR1;clear hR1;go_wp2_with fail;refine(c1 _ _ (U1.alloc _) (TxS.row1 w1 qH _)).mono ?_;rintro e w2 ⟨s,j1,e1,rfl,hV,z1⟩;have U2:Up w w2:=(U1.alloc _).trans z1
  cases R1 with
  | inr r=>
   obtain⟨p,er⟩:=r;obtain⟨rfl,rfl⟩:=hV;have hne:=a1.ne rfl;go_wp2_with fail
   go_ret3
   rw[show R = .inr (p,e1) from by rw[<- HR.out];unfold lamS;rw[HR0.out];show thn (nameQ B.nck (tks l) q0 [qH]) _=_;rw[HR1.out];rfl];exact⟨_,_,_,rfl,⟨rfl,rfl,none,rfl⟩,U2⟩
  | inl r=>
   obtain⟨s1,q1⟩:=r;obtain⟨rfl,rfl,rfl⟩:=hV;have hq1:q0<q1/\q1<=l.length:=a1;clear c1 a1;have c2:=fun W vk u h=>H.typ q1 [kShut,kFat] W vk hq1.2 u h
   have a2:=qP (ks:=[kShut,kFat]) (jC (nk:=B.nck) (lg:=B.long) hq1.2);obtain⟨R2,hR2⟩:∃R2,thenK (tks l) (typL B.nck B.long (tks l) q1) [kShut,kFat]=R2:=⟨_,rfl⟩;rw[hR2] at c2 a2;have HR2:=Lib.hid hR2;clear hR2;go_wp2_with fail;refine(c2 _ _ (U2.alloc _) (TxS.row2 w2 kShut kFat _)).mono ?_;rintro e w3 ⟨v2,j2,e2,rfl,hV,z2⟩;have U3:Up w w3:=(U2.alloc _).trans z2
   cases R2 with
   | inr r=>
    obtain⟨p,er⟩:=r;obtain⟨rfl,rfl,A1,rfl⟩:=hV;have hne:=a2.ne rfl;go_wp2_with fail
    go_ret3
    rw[show R = .inr (p,e2) from by rw[<- HR.out];unfold lamS;rw[HR0.out];show thn (nameQ B.nck (tks l) q0 [qH]) _=_;rw[HR1.out];show thn (thenK (tks l) (typL B.nck B.long (tks l) q1) [kShut,kFat]) _=_;rw[HR2.out];rfl];exact⟨_,_,_,rfl,⟨rfl,rfl,none,rfl⟩,U3⟩
   | inl r=>
    obtain⟨t2,q2⟩:=r;obtain⟨h2,rfl,rfl⟩:=hV;obtain⟨o2,p2,rfl⟩:=InT.ptr h2;have hq2:q1<q2/\q2<=l.length:=a2;clear c2 a2;have c3:=fun W u=>H.expr q2 W (by omega) hq2.2 u
    obtain⟨R3,hR3⟩:∃R3,E q2=R3:=⟨_,rfl⟩;rw[hR3] at c3;have HR3:=Lib.hid hR3;clear hR3;go_wp2_with fail;refine(c3 _ U3).mono ?_;rintro e w4 ⟨v3,j3,e3,rfl,hV,z3⟩;have U4:Up w w4:=U3.trans z3;obtain⟨pb,rfl⟩:=hV.ptr;go_wp2_with fail;refine(zC 24 s _ _ _ _).mono ?_;rintro e w5 ⟨rfl,rfl⟩;go_wp2_with fail
    go_ret3
    have hRR:R=thn R3 fun b m=>.inl (nd 24 s (fr2 t2 b),m):=by rw[<- HR.out];unfold lamS;rw[HR0.out];show thn (nameQ B.nck (tks l) q0 [qH]) _=_;rw[HR1.out];show thn (thenK (tks l) (typL B.nck B.long (tks l) q1) [kShut,kFat]) _=_;rw[HR2.out];show thn (E q2) _=_;rw[HR3.out]
    rw[hRR];refine⟨_,_,_,rfl,?_,(U4.alloc _).alloc _⟩
    cases R3 with
    | inr r=>exact⟨hV.1,hV.2.1,_,rfl⟩
    | inl r=>exact⟨zWw U4.size (h2.from (U2.alloc _) (((Up.refl _).trans z3))) (hV.1.from U3 (Up.refl _)),hV.2.1,hV.2.2⟩
def KidsV (W w:World) (v:Value) (f:Fr):Prop:=∃vs A c,v = .slice A f.len c/\f.len<=1000000/\PtF w (NewS W w) vs f/\(f.len=0->A=none/\c=0)/\(0<f.len->∃g,A=some ⟨g,0,none⟩/\∀(j:Nat) u,vs[j]? = some u->w.cell? ⟨g,0+j,none⟩=some u)
theorem KidsV.from {W a b:World} {v:Value} {f:Fr} (h:KidsV a b v f) (u:Up W a):KidsV W b v f:=by
 obtain⟨vs,A,c,h1,h2,h3,h4,h5⟩:=h;exact⟨vs,A,c,h1,h2,PtF.keep (fun q hq=>⟨Nat.le_trans u.size hq.1,hq.2⟩) (fun _ _=>rfl) h3,h4,h5⟩
theorem zF1 {w:World} {vs:Array Value} {n:Nat} (hn:vs.size=n) (hl:n<=10) (e:TypeId):(w.alloc (.cells vs e)).ownsRow w.heap.size e 1 (.slice (some ⟨w.heap.size,0,none⟩) n n) n vs.toList:=
 ⟨by simp[hn],.inr ⟨w.heap.size,n,vs,rfl,Nat.le_refl _,heap_alloc_new w _,Nat.le_refl _,by unfold maxLen;omega,by omega,by rw[Nat.mul_one,<- hn,<- Array.length_toList,List.take_length]⟩⟩
theorem zQb (w:World) (base:Nat) (v:Value) (n:Nat) (xs:List Value) (hown:w.ownsRow base 24 1 v n xs) (c:Nat) :
  (Builtin.append_ #[33,33] 33 #[v,.slice none 0 c]).run Tryz.prog w = .ok v w:=by
 obtain⟨i0,hi,hz0,hz1,hz2⟩:=info_parts nI
 rcases hown.2 with ⟨rfl,rfl⟩ | ⟨g,cap,cur,rfl,_,_,hnc,_⟩
 ·simp[Builtin.append_,run_underlying Tryz.underlying33,sizeOf,typeInfo,hi,Builtin.lenOf,Builtin.firstCells]
 ·simp[Builtin.append_,run_underlying Tryz.underlying33,sizeOf,typeInfo,hi,Builtin.lenOf,Builtin.firstCells,hnc,storeCells]
theorem tS {ops:Array Oper} {rest:List Oper} {o:Oper} {a:Act} {w w':World} {v v1 v2:Value} {Q:Exit->Act->World->Prop} (s x:Operand) (t:TypeId)
  (hw:Region.wanted o (yielded ops a.tmps)=true) (ho:o.op = .call {callee:=.builtin .append,args:=#[s,x],argTypes:=#[t,t]}) (h1:a.eval s=v1) (h2:a.eval x=v2)
  (hr:(Builtin.append_ #[t,t] o.type #[v1,v2]).run Tryz.prog w = .ok v w') (h:wpList Tryz.prog ops Q rest (a.put o.dst v) w'):wpList Tryz.prog ops Q (o::rest) a w:=by
 refine wpList_step fun K hK=>?_
 rw[if_pos hw];unfold Oper.wp execOp;simp only[ho,resolve,invoke,builtin,Sem.run_bind,Sem.run_pure,Result.andThen_ok,List.map_toArray,List.map_cons,List.map_nil,h1,h2,hr];exact hK _ _ h
theorem zYt (vs0:Array Value) {n:Nat} (hn:vs0.size=n) (hn1:n<=10) {W w:World} {f0 f:Fr} {v:Value} (hW:W.heap.size<=w.heap.size) (h0:PtF w (NewS W w) vs0.toList f0) (h:KidsV W w v f) :
  ∃v9 w9 g c,(Builtin.append_ #[33,33] 33 #[.slice (some ⟨w.heap.size,0,none⟩) n n,v]).run Tryz.prog (w.alloc (.cells vs0 24)) = .ok v9 w9/\v9 = .slice (some ⟨g,0,none⟩) (n+f.len) c/\n+f.len<=c/\NewS W w9 g/\InF w9 (NewS W w9) (f0.app f) g 0/\Up w w9:=by
 obtain⟨vs,A,c,rfl,hl,hp,hz,hc⟩:=h;have hown:=zF1 (w:=w) hn hn1 24;have u0:=(Up.refl w).alloc (.cells vs0 24)
 by_cases hf:f.len=0
 ·obtain⟨rfl,rfl⟩:=hz hf
  have e:f = .nil:=by cases f with
   | nil=>rfl
   | cons _ _ _=>cases hf
  subst e;refine⟨_,_,w.heap.size,n,zQb _ _ _ _ _ hown 0,rfl,Nat.le_refl _,⟨hW,by simp⟩,?_,u0⟩;rw[Fr.app_nil];refine PtF.row (vs:=vs0.toList) (PtF.keep (fun q hq=>⟨hq.1,Nat.lt_of_lt_of_le hq.2 u0.size⟩) (fun q hq=>Below.block u0 q hq.2) h0) fun j u hj=>?_
  rw[Nat.zero_add,cell_of_row _ _ j _ _ _ (heap_alloc_new w _),<- hj,Array.getElem?_toList]
 ·obtain⟨g,rfl,hcell⟩:=hc (by omega)
  obtain⟨i0,hi,hz0,hz1,hz2⟩:=info_parts nI;have hlen:=PtF.len hp;obtain⟨v',w',h1,h2,h3,h4⟩:=run_append_own (P:=Tryz.prog) (w.alloc (.cells vs0 24)) w.heap.size 33 33 24 i0 _ 1 8 Tryz.underlying33 hi hz0 hz1 hz2 rfl (by decide) _ n vs0.toList hown ⟨g,0,none⟩ f.len c vs
   (by omega) (fun j u hu=>by
    have e1:(⟨g,0,none⟩:Addr).add j=⟨g,0+j,none⟩:=by unfold Addr.add;split<;>simp_all
    rw[e1];exact u0.cell (hcell j u hu)) (PtF.one hp) (by unfold maxLen;omega) (by omega) (by simp)
  have hown2:=h2
  rcases h2.2 with ⟨q1,q2⟩ | ⟨g9,cap,cur,q3,q4,q5,q6,q7,q8,q9⟩
  ·have:=h4.1 q1
   exact absurd this.1 (by simp)
  ·have ug:Up w w':=u0.grown h3 (by simp) fun k hk=>by simp[Value.ownBlock] at hk;omega
   refine⟨_,w',g9,cap,h1,q3,q6,⟨by omega,qC q5⟩,?_,ug⟩;refine PtF.row (vs:=vs0.toList++vs) (PtF.app (PtF.keep (fun q hq=>⟨hq.1,Nat.lt_of_lt_of_le hq.2 ug.size⟩) (fun q hq=>Below.block ug q hq.2) h0) (PtF.keep (fun q hq=>⟨hq.1,Nat.lt_of_lt_of_le hq.2 ug.size⟩) (fun q hq=>Below.block ug q hq.2) hp)) fun j u hj=>?_
   rw[Nat.zero_add,cell_of_row w' g9 j _ _ _ q5];rw[<- q9,List.getElem?_take] at hj
   split at hj
   ·rw[<- hj,Array.getElem?_toList]
   ·cases hj
theorem eZ {W w:World} {g c n:Nat} {k:Int} {f:Fr} (hl:f.len=n) (hc:n<=c) (hg:NewS W w g) (hf:InF w (NewS W w) f g 0) (hW:W.heap.size<=w.heap.size) :
  NewT W (w.alloc (.cells #[.int .i64 k,.int .i64 0,.string nob,.string ⟨#[]⟩,.slice (some ⟨g,0,none⟩) n c] 44)) (.pointer (some ⟨w.heap.size,0,none⟩)) (nd k nob f):=by
 obtain⟨W2,hW2⟩:∃W2,w.alloc (.cells #[.int .i64 k,.int .i64 0,.string nob,.string ⟨#[]⟩,.slice (some ⟨g,0,none⟩) n c] 44)=W2:=⟨_,rfl⟩;have s2:W2.heap[w.heap.size]? = some (.cells #[.int .i64 k,.int .i64 0,.string nob,.string ⟨#[]⟩,.slice (some ⟨g,0,none⟩) n c] 44 (0,0)):=by rw[<- hW2];exact heap_alloc_new w _
 have u2:Up w W2:=by rw[<- hW2];exact(Up.refl w).alloc _
 rw[hW2];exact zR (x:=⟨k,0,nob,nob⟩) (f:=f) s2 hl hc ⟨hW,qC s2⟩ ⟨hg.1,Nat.lt_of_lt_of_le hg.2 u2.size⟩ (InF.keep (fun q hq=>⟨hq.1,Nat.lt_of_lt_of_le hq.2 u2.size⟩) (fun q hq=>Below.block u2 q hq.2) hg hf)
def RmV (R:Rs Fr) (f:Fr) (j e:Int):Prop:=match R with
 | .inl (g,q)=>f=g/\j=(q:Int)/\e=0
 | .inr (p,r)=>j=(p:Int)/\e=r
def zKd (R:Rs Fr) (w:World) (e:Ending) (w':World):Prop:=∃v f j er,e = .returned (.tuple #[v,.int .i64 j,.int .i64 er])/\KidsV w w' v f/\RmV R f j er/\Up w w'
def ArmsC (l:List Te) (M:Nat->Fr->Rs Fr) (i:Nat) (w:World) (v:Value):Prop:=∀(j:Nat) (W:World),i<j->j<=l.length->Up w W->Calls Tryz.prog 187 #[v,.int .i64 (j:Int)] W (zKd (M j .nil) W)
theorem zTt {s x:ByteArray} (h:s.toList=x.data.toList):s=x:=B.vP (by rw[<- Lib.toList_data];exact h)
theorem kL (s x:ByteArray):(s.toList==x.data.toList)=decide (s=x):=by rw[<- Lib.toList_data x];exact dG s x
theorem bW {w:World} {cs:Array Value} {ty:TypeId} {j:Nat} {u:Value} (h:cs[j]? = some u):(w.alloc (.cells cs ty)).cell? ⟨w.heap.size,j,none⟩=some u:=by
 rw[cell_of_row _ _ j _ _ _ (heap_alloc_new w _)];exact h
theorem kH (l:List Te) (i:Nat) (hz:∀t∈l,t.t.s.size<=1000000000) (w:World) (v:Value) (hv:Tke w v l) :
  Calls Tryz.prog 256 #[v,.int .i64 (i:Int)] w (BoU (hdE B.long l i).any w):=by
 have HV:=Lib.hid hv;obtain⟨A,c,rfl,hc⟩:=hv;obtain⟨n,hn⟩:∃n,l.length=n:=⟨_,rfl⟩;rw[hn]
 by_cases hk:i<n
 ·obtain⟨t,ht⟩:∃t,l[i]? = some t:=⟨_,List.getElem?_eq_getElem (by rw[hn];exact hk)⟩
  obtain⟨b,o,rfl,hb,c0,c1,c2,m,c3⟩:=hc i t ht;have hki:¬(n:Int)<=(i:Int):=by omega
  have HE:Hid ((hdE B.long l i).any=(hdT B.long t).any):=Lib.hid (by unfold hdE;rw[ht]);rw[HE.out];have HZ:=Lib.hid (hz t (List.mem_of_getElem? ht));have hz':∀t∈tks l,t.s.size<=1000000000:=fun t ht=>by
   obtain⟨u,hu,rfl⟩:=List.mem_map.1 ht;exact hz u hu
  have cL:=fun(W:World) (u:Up w W)=>pO (tks l) (i:Int) W _ (HV.out.up u).tkm hz'
  have el:namZ B.long (tks l) (i:Int)=(if decide (t.t.k=1)&&B.long t.t.s then some t.t.s else none):=by
   unfold namZ;rw[if_pos (by omega),Int.toNat_natCast];unfold nam;rw[mN,ht]
   rfl
  rw[el,hn] at cL;have HCL:=Lib.hid cL;obtain⟨k,hkk⟩:∃k,t.t.k=k:=⟨_,rfl⟩;obtain⟨s,hs⟩:∃s,t.t.s=s:=⟨_,rfl⟩;obtain⟨x,hx⟩:∃x,t.n=x:=⟨_,rfl⟩;have HT:Hid (hdT B.long t=if k=3 then (if s=kTrue then .boo 1 else if s=kB then .boo 0 else if s=kOpen then .opn else if s=kOne then .sel 27 else if s=kTwo then .sel 28 else .no) else if k=2 then (if -1073741824<=x/\x<=1073741824 then .num x else .no) else if k=1 then (if B.long s then .var s else .no) else .no):=Lib.hid (by subst hkk;subst hs;subst hx;rfl);rw[hkk,hs] at cL HCL;rw[hkk] at c0;rw[hs] at c1;rw[hx] at c2;clear hc ht hn HE hz hz' el cL hkk hs hx HZ
  by_cases h3:k=3
  ·have HT3:Hid ((hdT B.long t).any=(decide (s=kTrue)||decide (s=kB)||decide (s=kOpen)||decide (s=kOne)||decide (s=kTwo))):=Lib.hid (by
    rw[HT.out,if_pos h3]
    by_cases e1:s=kTrue
    ·rw[if_pos e1,decide_eq_true e1];simp[Hd.any]
    ·rw[if_neg e1,decide_eq_false e1]
     by_cases e2:s=kB
     ·rw[if_pos e2,decide_eq_true e2];simp[Hd.any]
     ·rw[if_neg e2,decide_eq_false e2]
      by_cases e3:s=kOpen
      ·rw[if_pos e3,decide_eq_true e3];simp[Hd.any]
      ·rw[if_neg e3,decide_eq_false e3]
       by_cases e4:s=kOne
       ·rw[if_pos e4,decide_eq_true e4];simp[Hd.any]
       ·rw[if_neg e4,decide_eq_false e4]
        by_cases e5:s=kTwo
        ·rw[if_pos e5,decide_eq_true e5];simp[Hd.any]
        ·rw[if_neg e5,decide_eq_false e5];simp[Hd.any])
   rw[HT3.out]
   go_enter Tryz.func256,Tryz.ntmps256
   go_wp2_with fail
   all_goals go_ret
   all_goals refine yQ ?_ ((Up.refl w).alloc _)
   all_goals first
    | (have e:s=kTrue:=zTt ‹s.toList=[116,114,117,101]›;rw[decide_eq_true e];rfl)
    | (have e:s=kB:=zTt ‹s.toList=[102,97,108,115,101]›;rw[decide_eq_true e,Bool.or_true];rfl)
    | (have e:s=kOpen:=zTt ‹s.toList=[40]›;rw[decide_eq_true e,Bool.or_true];rfl)
    | (have e:s=kOne:=zTt ‹s.toList=[35,49]›;rw[decide_eq_true e,Bool.or_true];rfl)
    | (rw[show(s.toList==[116,114,117,101])=decide (s=kTrue) from kL s kTrue,show(s.toList==[102,97,108,115,101])=decide (s=kB) from kL s kB,show(s.toList==[40])=decide (s=kOpen) from kL s kOpen,show(s.toList==[35,49])=decide (s=kOne) from kL s kOne,show(s.toList==[35,50])=decide (s=kTwo) from kL s kTwo])
  ·by_cases h2:k=2
   ·by_cases hx1 : -1073741824<=x
    ·have HT2:Hid ((hdT B.long t).any=decide (x<=1073741824)):=Lib.hid (by
      rw[HT.out,if_neg h3,if_pos h2]
      by_cases hx2:x<=1073741824
      ·rw[if_pos ⟨hx1,hx2⟩,decide_eq_true hx2];rfl
      ·rw[if_neg (fun h=>hx2 h.2),decide_eq_false hx2];rfl)
     rw[HT2.out]
     go_enter Tryz.func256,Tryz.ntmps256
     go_wp2_with fail
     go_ret
     exact yQ rfl ((Up.refl w).alloc _)
    ·have HT2:Hid ((hdT B.long t).any=false):=Lib.hid (by
      rw[HT.out,if_neg h3,if_pos h2,if_neg (fun h=>hx1 h.1)];rfl)
     have hx1':x < -1073741824:=by omega
     rw[HT2.out]
     go_enter Tryz.func256,Tryz.ntmps256
     go_wp2_with fail
     go_ret
     exact yQ rfl ((Up.refl w).alloc _)
   ·have HT2:Hid ((hdT B.long t).any=(if decide (k=1)&&B.long s then some s else none:Option ByteArray).isSome):=Lib.hid (by
     rw[HT.out,if_neg h3,if_neg h2]
     by_cases h1:k=1
     ·rw[if_pos h1,decide_eq_true h1,Bool.true_and]
      cases B.long s<;>rfl
     ·rw[if_neg h1,decide_eq_false h1,Bool.false_and];rfl)
    rw[HT2.out];obtain⟨O,hO⟩:∃O,(if decide (k=1)&&B.long s then some s else none:Option ByteArray)=O:=⟨_,rfl⟩;rw[hO] at HCL ⊢;clear hO
    go_enter Tryz.func256,Tryz.ntmps256
    go_wp2_with fail;refine(HCL.out _ ((Up.refl w).alloc _)).mono ?_;rintro e w1 ⟨rfl,u1⟩;go_wp2_with fail
    go_ret
    exact yQ rfl (((Up.refl w).alloc _).trans u1)
 ·have hki:(n:Int)<=(i:Int):=by omega
  have HE:Hid ((hdE B.long l i).any=false):=Lib.hid (by unfold hdE;rw[List.getElem?_eq_none (by omega)];rfl);rw[HE.out];clear hc hn HE
  go_enter Tryz.func256,Tryz.ntmps256
  go_wp2_with fail
  go_ret
  exact yQ rfl (Up.refl w)
theorem refOp (n:Int) (a b:Option Addr) (w:World) :
  Calls Tryz.prog 214 #[.int .i64 n,.pointer a,.pointer b] w fun e w'=>e = .returned (.pointer (some ⟨w.heap.size+1,0,none⟩))/\w'=(w.alloc (.cells #[.pointer a,.pointer b] 24)).alloc (.cells #[.int .i64 31,.int .i64 n,.string ⟨#[]⟩,.string ⟨#[]⟩,.slice (some ⟨w.heap.size,0,none⟩) 2 2] 44):=by
 go_enter Tryz.func214,Tryz.ntmps214
 go_wp2_with fail
 go_ret
 exact⟨rfl,rfl⟩
def LopSt (l:List Te) (i:Nat) (T:Nat->Rs Tr) (s:Nat->Option (Nod×Nat)) (R:Rs Tr) (w wr:World) (jv va ev:Value):Prop:=
 (∃(a:Tr) (j f:Nat),i<=j/\R=lop T s f a j/\l.length-j+1<=f/\j<=l.length/\NewT w wr va a/\jv = .int .i64 (j:Int)/\ev = .int .i64 0)\/
 (∃(p:Nat) (er:Int),R = .inr (p,er)/\¬er=0/\p<=l.length/\jv = .int .i64 (p:Int)/\ev = .int .i64 er/\∃A,va = .pointer A)
theorem LopSt.start {l:List Te} {T:Nat->Rs Tr} {s:Nat->Option (Nod×Nat)} {n i:Nat} {w w0 w1:World} {va:Value} {j e:Int} (hi:i<=l.length) (hn:l.length-i+1<=n) (hT:In l.length i (T i)) (h:RsV (T i) w0 w1 va j e) (u:Up w w0):LopSt l i T s (lopS T s n i) w w1 (.int .i64 j) va (.int .i64 e):=by
 unfold lopS
 cases hR:T i with
 | inl r=>
  obtain⟨a,q⟩:=r;rw[hR] at h hT;obtain⟨h1,rfl,rfl⟩:=h;have hq:i<q/\q<=l.length:=hT;exact .inl ⟨a,q,n,by omega,rfl,by omega,hq.2,h1.base u.size,rfl,rfl⟩
 | inr r=>
  obtain⟨p,er⟩:=r;rw[hR] at h;obtain⟨rfl,rfl,h3⟩:=h;have hne:=hT.ne hR;rw[hR] at hT;have hp:i<=p/\p<=l.length/\_:=hT;exact .inr ⟨p,e,rfl,hne,hp.2.1,rfl,rfl,h3⟩
theorem LopSt.next {l:List Te} {T:Nat->Rs Tr} {s:Nat->Option (Nod×Nat)} {R:Rs Tr} {w w0 w1 w2:World} {vb vn:Value} {a:Tr} {i j f d:Nat} {x:Nod} {q er:Int} (hij:i<=j) (hR:R=lop T s f a j) (hf:l.length-j+1<=f) (hs:s j=some (x,d)) (hd:j+d<=l.length) (hT:In l.length (j+d) (T (j+d))) (h:RsV (T (j+d)) w0 w1 vb q er)
  (hn:(∀b,NewT w0 w1 vb b->NewT w w2 vn (x,fr2 a b))/\∃A,vn = .pointer A):LopSt l i T s R w w2 (.int .i64 q) vn (.int .i64 er):=by
 obtain⟨f,rfl⟩:∃g,f=g+1:=⟨f-1,by omega⟩;unfold lop at hR;rw[hs] at hR;simp only at hR
 cases hRT:T (j+d) with
 | inl r=>
  obtain⟨b,m⟩:=r;rw[hRT] at h hT hR;obtain⟨h1,rfl,rfl⟩:=h;have hm:j+d<m/\m<=l.length:=hT;exact .inl ⟨_,m,f,by omega,hR,by omega,hm.2,hn.1 b h1,rfl,rfl⟩
 | inr r=>
  obtain⟨p,e⟩:=r;have hne:=hT.ne hRT;rw[hRT] at h hT hR;obtain⟨rfl,rfl,h3⟩:=h;have hp:j+d<=p/\p<=l.length/\_:=hT;exact .inr ⟨p,er,hR,hne,hp.2.1,rfl,rfl,hn.2⟩
theorem LopSt.less {l:List Te} {T:Nat->Rs Tr} {q er:Int} {w0 w1:World} {vb:Value} {j d:Nat} (hj:j<=l.length) (hT:In l.length (j+d) (T (j+d))) (h:RsV (T (j+d)) w0 w1 vb q er):(if er=0 then 1 else 0)+(l.length-q.toNat)<1+(l.length-j):=by
 cases hRT:T (j+d) with
 | inl r=>
  obtain⟨b,m⟩:=r;rw[hRT] at h hT;obtain⟨h1,rfl,rfl⟩:=h;have hm:j+d<m/\m<=l.length:=hT;rw[if_pos rfl,Int.toNat_natCast];omega
 | inr r=>
  obtain⟨p,e⟩:=r;have hne:=hT.ne hRT;rw[hRT] at h hT;obtain⟨rfl,rfl,h3⟩:=h;have hp:j+d<=p/\p<=l.length/\_:=hT;rw[if_neg hne,Int.toNat_natCast];omega
theorem zB3 (l:List Te) (A:Nat->Rs Tr) (N i:Nat) (hi:i<=l.length) (hN:l.length-i+1<=N) (hz:∀t∈l,t.t.s.size<=1000000000) (aA:∀j,j<=l.length->In l.length j (A j)) (w:World) (v:Value) (hv:Tke w v l)
  (cA:∀(j:Nat) (W:World),i<=j->j<=l.length->Up w W->Calls Tryz.prog 255 #[v,.int .i64 (j:Int)] W (qJ (A j) W)) :
  Calls Tryz.prog 247 #[v,.int .i64 (i:Int)] w (qJ (appS B.long l N A i) w):=by
 have cS:=fun(j:Nat) (W:World) (u:Up w W)=>kH l j hz W v (hv.up u)
 have CS:=Lib.hid cS;have CA:=Lib.hid cA;have c0:=cA i w (Nat.le_refl _) hi (Up.refl w);obtain⟨R,hR⟩:∃R,appS B.long l N A i=R:=⟨_,rfl⟩;have HR:=Lib.hid hR;rw[hR];clear cS cA hR hz
 go_enter Tryz.func247,Tryz.ntmps247
 go_wp2_with fail;refine c0.mono ?_;rintro e w1 ⟨va,ja,ea,rfl,hV,u1⟩;have hst:LopSt l i A (sApp B.long l) R w w1 (.int .i64 ja) va (.int .i64 ea):=by rw[<- HR.out];exact LopSt.start hi hN (aA i hi) hV (Up.refl w)
 have HST:=Lib.hid hst;clear hst hV c0;go_wp2_with fail
 go_loopw [1,7,8,9,10,11] (fun jv va ev _ _ _ wr=>LopSt l i A (sApp B.long l) R w wr jv va ev/\Up w wr) (fun jv _ ev _ _ _ _=>(if intOf ev=0 then 1 else 0)+(l.length-(intOf jv).toNat))
 case atStart=>exact⟨HST.out,u1⟩
 case round=>
  obtain⟨hst,hu⟩:=hrel
  rcases hst with ⟨a,j,f,hij,hRl,hf,hj,hT,rfl,rfl⟩ | ⟨p,er,hRl,hne,hp,rfl,rfl,A1,rfl⟩
  ·obtain⟨o1,p1,rfl⟩:=InT.ptr hT
   have HRL:=Lib.hid hRl;have HU:=Lib.hid hu;have cS:=CS.out j wr hu
   cases hb:(hdE B.long l j).any with
   | false=>
    rw[hb] at cS;have hs:sApp B.long l j=none:=by unfold sApp;rw[hb];rfl
    have hRR:R = .inl (a,j):=by
     rw[hRl]
     cases f with
     | zero=>omega
     | succ f=>unfold lop;rw[hs]
    have HRR:=Lib.hid hRR;clear hRl hRR hs hb;go_wp2_with fail;refine cS.mono ?_;rintro e w2 ⟨rfl,u2⟩;go_wp2_with fail
    go_ret3
    rw[HRR.out];exact⟨_,_,_,rfl,⟨hT.up u2,rfl,rfl⟩,HU.out.trans u2⟩
   | true=>
    rw[hb] at cS;have hs:sApp B.long l j=some (⟨25,0,nob,nob⟩,0):=by unfold sApp;rw[hb];rfl
    have HS:=Lib.hid hs;clear hRl hs hb;go_wp2_with fail;refine cS.mono ?_;rintro e w2 ⟨rfl,u2⟩;have U2:Up w w2:=HU.out.trans u2;go_wp2_with fail;refine(CA.out j w2 hij hj U2).mono ?_;rintro e w3 ⟨vb,q,er,rfl,hV,u3⟩;have U3:Up w w3:=U2.trans u3;obtain⟨pb,rfl⟩:=hV.ptr;have HVV:=Lib.hid hV;clear hV;go_wp2_with fail;refine(zC 25 nob _ _ _ _).mono ?_;rintro e w4 ⟨rfl,rfl⟩;go_wp2_with fail;have hnx:LopSt l i A (sApp B.long l) R w ((w3.alloc (.cells #[.pointer (some ⟨o1,p1,none⟩),.pointer pb] 24)).alloc (.cells #[.int .i64 25,.int .i64 0,.string nob,.string ⟨#[]⟩,.slice (some ⟨w3.heap.size,0,none⟩) 2 2] 44)) (.int .i64 q) (.pointer (some ⟨w3.heap.size+1,0,none⟩)) (.int .i64 er):=
     LopSt.next hij HRL.out hf HS.out hj (aA j hj) HVV.out ⟨fun b hb=>zWw U3.size (hT.up (u2.trans u3)) (hb.from U2 (Up.refl _)),_,rfl⟩
    have hls:=LopSt.less (T:=A) (d:=0) hj (aA j hj) HVV.out;exact⟨⟨hnx,(U3.alloc _).alloc _⟩,hls⟩
  ·have HRL:=Lib.hid hRl
   clear hRl;go_wp2_with fail
   go_ret3
   rw[HRL.out];exact⟨_,_,_,rfl,⟨rfl,rfl,A1,rfl⟩,hu⟩
end Go.Proofs.YtgeghilbikljcaaGreatDoor
