/-
  Kids that a call makes: some ahead of others; the document's arms.
-/
import Derived.Test.YtbpijnalmakfaaaGreatDoorGs46
import Derived.Test.YtbpijnalmakfaaaGreatDoorGs51
set_option maxHeartbeats 40000000
set_option maxRecDepth 100000
namespace Go.Proofs.YtbpijnalmakfaaaGreatDoor
open Go.RowKit
def KidsV (W w:World) (v:Value) (f:Fr):Prop:=∃vs A c,v = .slice A f.len c∧f.len≤1000000∧PtF w (NewS W w) vs f∧(f.len=0→A=none∧c=0)∧(0<f.len→∃g,A=some ⟨g,0,none⟩∧∀(j:Nat) u,vs[j]? = some u→w.cell? ⟨g,0+j,none⟩=some u)
theorem KidsV.len {W w:World} {v:Value} {f:Fr} (h:KidsV W w v f):f.len≤1000000:=by
 obtain⟨vs,A,c,h1,h2,_⟩:=h;exact h2
theorem KidsV.from {W a b:World} {v:Value} {f:Fr} (h:KidsV a b v f) (u:Up W a):KidsV W b v f:=by
 obtain⟨vs,A,c,h1,h2,h3,h4,h5⟩:=h;exact⟨vs,A,c,h1,h2,PtF.keep (fun q hq=>⟨Nat.le_trans u.size hq.1,hq.2⟩) (fun _ _=>rfl) h3,h4,h5⟩
theorem yZq {w:World} {vs:Array Value} {n:Nat} (hn:vs.size=n) (hl:n≤10) (e:TypeId):(w.alloc (.cells vs e)).ownsRow w.heap.size e 1 (.slice (some ⟨w.heap.size,0,none⟩) n n) n vs.toList:=
 ⟨by simp[hn],.inr ⟨w.heap.size,n,vs,rfl,Nat.le_refl _,heap_alloc_new w _,Nat.le_refl _,by unfold maxLen;omega,by omega,by rw[Nat.mul_one,←hn,←Array.length_toList,List.take_length]⟩⟩
theorem zKv (w:World) (base:Nat) (v:Value) (n:Nat) (xs:List Value) (hown:w.ownsRow base 24 1 v n xs) (c:Nat) :
  (Builtin.append_ #[55,55] 55 #[v,.slice none 0 c]).run Tryz.prog w = .ok v w:=by
 obtain⟨i0,hi,hz0,hz1,hz2⟩:=info_parts mF
 rcases hown.2 with ⟨rfl,rfl⟩ | ⟨g,cap,cur,rfl,_,_,hnc,_⟩
 ·simp[Builtin.append_,run_underlying Tryz.underlying55,sizeOf,typeInfo,hi,Builtin.lenOf,Builtin.firstCells]
 ·simp[Builtin.append_,run_underlying Tryz.underlying55,sizeOf,typeInfo,hi,Builtin.lenOf,Builtin.firstCells,hnc,storeCells]
theorem zS2 (vs0:Array Value) {n:Nat} (hn:vs0.size=n) (hn1:n≤10) {W w:World} {f0 f:Fr} {v:Value} (hW:W.heap.size≤w.heap.size) (h0:PtF w (NewS W w) vs0.toList f0) (h:KidsV W w v f) :
  ∃v9 w9 g c,(Builtin.append_ #[55,55] 55 #[.slice (some ⟨w.heap.size,0,none⟩) n n,v]).run Tryz.prog (w.alloc (.cells vs0 24)) = .ok v9 w9∧v9 = .slice (some ⟨g,0,none⟩) (n+f.len) c∧n+f.len≤c∧NewS W w9 g∧InF w9 (NewS W w9) (f0.app f) g 0∧Up w w9:=by
 obtain⟨vs,A,c,rfl,hl,hp,hz,hc⟩:=h;have hown:=yZq (w:=w) hn hn1 24;have u0:=(Up.refl w).alloc (.cells vs0 24)
 by_cases hf:f.len=0
 ·obtain⟨rfl,rfl⟩:=hz hf
  have e:f = .nil:=by cases f with
   | nil=>rfl
   | cons _ _ _=>cases hf
  subst e;refine⟨_,_,w.heap.size,n,zKv _ _ _ _ _ hown 0,rfl,Nat.le_refl _,⟨hW,by simp⟩,?_,u0⟩;rw[Fr.app_nil];refine PtF.row (vs:=vs0.toList) (PtF.keep (fun q hq=>⟨hq.1,Nat.lt_of_lt_of_le hq.2 u0.size⟩) (fun q hq=>Below.block u0 q hq.2) h0) fun j u hj=>?_
  rw[Nat.zero_add,cell_of_row _ _ j _ _ _ (heap_alloc_new w _),←hj,Array.getElem?_toList]
 ·obtain⟨g,rfl,hcell⟩:=hc (by omega)
  obtain⟨i0,hi,hz0,hz1,hz2⟩:=info_parts mF;have hlen:=PtF.len hp;obtain⟨v',w',h1,h2,h3,h4⟩:=run_append_own (P:=Tryz.prog) (w.alloc (.cells vs0 24)) w.heap.size 55 55 24 i0 _ 1 8 Tryz.underlying55 hi hz0 hz1 hz2 rfl (by decide) _ n vs0.toList hown ⟨g,0,none⟩ f.len c vs
   (by omega) (fun j u hu=>by
    have e1:(⟨g,0,none⟩:Addr).add j=⟨g,0+j,none⟩:=by unfold Addr.add;split<;>simp_all
    rw[e1];exact u0.cell (hcell j u hu)) (PtF.one hp) (by unfold maxLen;omega) (by omega) (by simp)
  have hown2:=h2
  rcases h2.2 with ⟨q1,q2⟩ | ⟨g9,cap,cur,q3,q4,q5,q6,q7,q8,q9⟩
  ·have:=h4.1 q1
   exact absurd this.1 (by simp)
  ·have ug:Up w w':=u0.grown h3 (by simp) fun k hk=>by simp[Value.ownBlock] at hk;omega
   refine⟨_,w',g9,cap,h1,q3,q6,⟨by omega,qC q5⟩,?_,ug⟩;refine PtF.row (vs:=vs0.toList++vs) (PtF.app (PtF.keep (fun q hq=>⟨hq.1,Nat.lt_of_lt_of_le hq.2 ug.size⟩) (fun q hq=>Below.block ug q hq.2) h0) (PtF.keep (fun q hq=>⟨hq.1,Nat.lt_of_lt_of_le hq.2 ug.size⟩) (fun q hq=>Below.block ug q hq.2) hp)) fun j u hj=>?_
   rw[Nat.zero_add,cell_of_row w' g9 j _ _ _ q5];rw[←q9,List.getElem?_take] at hj
   split at hj
   ·rw[←hj,Array.getElem?_toList]
   ·cases hj
theorem zYd {W w:World} {g c n:Nat} {k:Int} {f:Fr} (hl:f.len=n) (hc:n≤c) (hg:NewS W w g) (hf:InF w (NewS W w) f g 0) (hW:W.heap.size≤w.heap.size) :
  NewT W (w.alloc (.cells #[.int .i64 k,.int .i64 0,.string nob,.string ⟨#[]⟩,.slice (some ⟨g,0,none⟩) n c] 57)) (.pointer (some ⟨w.heap.size,0,none⟩)) (nd k nob f):=by
 obtain⟨W2,hW2⟩:∃W2,w.alloc (.cells #[.int .i64 k,.int .i64 0,.string nob,.string ⟨#[]⟩,.slice (some ⟨g,0,none⟩) n c] 57)=W2:=⟨_,rfl⟩;have s2:W2.heap[w.heap.size]? = some (.cells #[.int .i64 k,.int .i64 0,.string nob,.string ⟨#[]⟩,.slice (some ⟨g,0,none⟩) n c] 57 (0,0)):=by rw[←hW2];exact heap_alloc_new w _
 have u2:Up w W2:=by rw[←hW2];exact(Up.refl w).alloc _
 rw[hW2];exact yX (x:=⟨k,0,nob,nob⟩) (f:=f) s2 hl hc ⟨hW,qC s2⟩ ⟨hg.1,Nat.lt_of_lt_of_le hg.2 u2.size⟩ (InF.keep (fun q hq=>⟨hq.1,Nat.lt_of_lt_of_le hq.2 u2.size⟩) (fun q hq=>Below.block u2 q hq.2) hg hf)
def RmV (R:Rs Fr) (f:Fr) (j e:Int):Prop:=match R with
 | .inl (g,q)=>f=g∧j=(q:Int)∧e=0
 | .inr (p,r)=>j=(p:Int)∧e=r
def zDc (R:Rs Fr) (w:World) (e:Ending) (w':World):Prop:=∃v f j er,e = .returned (.tuple #[v,.int .i64 j,.int .i64 er])∧KidsV w w' v f∧RmV R f j er∧Up w w'
def ArmsC (l:List Te) (M:Nat→Fr→Rs Fr) (i:Nat) (w:World) (v:Value):Prop:=∀(j:Nat) (W:World),i<j→j≤l.length→Up w W→Calls Tryz.prog 62 #[v,.int .i64 (j:Int)] W (zDc (M j .nil) W)
theorem zNk {s x:ByteArray} (h:s.toList=x.data.toList):s=x:=B.xN (by rw[←Lib.toList_data];exact h)
theorem jA (s x:ByteArray):(s.toList==x.data.toList)=decide (s=x):=by rw[←Lib.toList_data x];exact iP s x
theorem kU (l:List Te) (i:Nat) (hz:∀t∈l,t.t.s.size≤1000000000) (w:World) (v:Value) (hv:Tke w v l) :
  Calls Tryz.prog 229 #[v,.int .i64 (i:Int)] w (BoU (hdE B.long l i).any w):=by
 have HV:=Lib.hid hv;obtain⟨A,c,rfl,hc⟩:=hv;obtain⟨n,hn⟩:∃n,l.length=n:=⟨_,rfl⟩;rw[hn]
 by_cases hk:i<n
 ·obtain⟨t,ht⟩:∃t,l[i]? = some t:=⟨_,List.getElem?_eq_getElem (by rw[hn];exact hk)⟩
  obtain⟨b,o,rfl,hb,c0,c1,c2,m,c3⟩:=hc i t ht;have hki:¬(n:Int)≤(i:Int):=by omega
  have HE:Hid ((hdE B.long l i).any=(hdT B.long t).any):=Lib.hid (by unfold hdE;rw[ht]);rw[HE.out];have HZ:=Lib.hid (hz t (List.mem_of_getElem? ht));have hz':∀t∈tks l,t.s.size≤1000000000:=fun t ht=>by
   obtain⟨u,hu,rfl⟩:=List.mem_map.1 ht;exact hz u hu
  have cL:=fun(W:World) (u:Up w W)=>zTy (tks l) (i:Int) W _ (HV.out.up u).tkm hz'
  have el:namZ B.long (tks l) (i:Int)=(if decide (t.t.k=1)&&B.long t.t.s then some t.t.s else none):=by
   unfold namZ;rw[if_pos (by omega),Int.toNat_natCast];unfold nam;rw[kD,ht]
   rfl
  rw[el,hn] at cL;have HCL:=Lib.hid cL;obtain⟨k,hkk⟩:∃k,t.t.k=k:=⟨_,rfl⟩;obtain⟨s,hs⟩:∃s,t.t.s=s:=⟨_,rfl⟩;obtain⟨x,hx⟩:∃x,t.n=x:=⟨_,rfl⟩;have HT:Hid (hdT B.long t=if k=3 then (if s=kTrue then .boo 1 else if s=yH then .boo 0 else if s=kOpen then .opn else if s=kOne then .sel 27 else if s=kTwo then .sel 28 else .no) else if k=2 then (if -1073741824≤x∧x≤1073741824 then .num x else .no) else if k=1 then (if B.long s then .var s else .no) else .no):=Lib.hid (by subst hkk;subst hs;subst hx;rfl);rw[hkk,hs] at cL HCL;rw[hkk] at c0;rw[hs] at c1;rw[hx] at c2;clear hc ht hn HE hz hz' el cL hkk hs hx HZ
  by_cases h3:k=3
  ·have HT3:Hid ((hdT B.long t).any=(decide (s=kTrue)||decide (s=yH)||decide (s=kOpen)||decide (s=kOne)||decide (s=kTwo))):=Lib.hid (by
    rw[HT.out,if_pos h3]
    by_cases e1:s=kTrue
    ·rw[if_pos e1,decide_eq_true e1];simp[Hd.any]
    ·rw[if_neg e1,decide_eq_false e1]
     by_cases e2:s=yH
     ·rw[if_pos e2,decide_eq_true e2];simp[Hd.any]
     ·rw[if_neg e2,decide_eq_false e2]
      by_cases e3:s=kOpen
      ·rw[if_pos e3,decide_eq_true e3];simp[Hd.any]
      ·rw[if_neg e3,decide_eq_false e3]
       by_cases e4:s=kOne
       ·rw[if_pos e4,decide_eq_true e4];simp[Hd.any]
       ·rw[if_neg e4,decide_eq_false e4]
        by_cases e5:s=kTwo
        ·rw[if_pos e5,decide_eq_true e5];simp[Hd.any]
        ·rw[if_neg e5,decide_eq_false e5];simp[Hd.any])
   rw[HT3.out]
   go_enter Tryz.func229,Tryz.ntmps229
   go_wp2_with fail
   all_goals go_ret
   all_goals refine kM ?_ ((Up.refl w).alloc _)
   all_goals first
    | (have e:s=kTrue:=zNk ‹s.toList=[116,114,117,101]›;rw[decide_eq_true e];rfl)
    | (have e:s=yH:=zNk ‹s.toList=[102,97,108,115,101]›;rw[decide_eq_true e,Bool.or_true];rfl)
    | (have e:s=kOpen:=zNk ‹s.toList=[40]›;rw[decide_eq_true e,Bool.or_true];rfl)
    | (have e:s=kOne:=zNk ‹s.toList=[35,49]›;rw[decide_eq_true e,Bool.or_true];rfl)
    | (rw[show(s.toList==[116,114,117,101])=decide (s=kTrue) from jA s kTrue,show(s.toList==[102,97,108,115,101])=decide (s=yH) from jA s yH,show(s.toList==[40])=decide (s=kOpen) from jA s kOpen,show(s.toList==[35,49])=decide (s=kOne) from jA s kOne,show(s.toList==[35,50])=decide (s=kTwo) from jA s kTwo])
  ·by_cases h2:k=2
   ·by_cases hx1 : -1073741824≤x
    ·have HT2:Hid ((hdT B.long t).any=decide (x≤1073741824)):=Lib.hid (by
      rw[HT.out,if_neg h3,if_pos h2]
      by_cases hx2:x≤1073741824
      ·rw[if_pos ⟨hx1,hx2⟩,decide_eq_true hx2];rfl
      ·rw[if_neg (fun h=>hx2 h.2),decide_eq_false hx2];rfl)
     rw[HT2.out]
     go_enter Tryz.func229,Tryz.ntmps229
     go_wp2_with fail
     go_ret
     exact kM rfl ((Up.refl w).alloc _)
    ·have HT2:Hid ((hdT B.long t).any=false):=Lib.hid (by
      rw[HT.out,if_neg h3,if_pos h2,if_neg (fun h=>hx1 h.1)];rfl)
     have hx1':x < -1073741824:=by omega
     rw[HT2.out]
     go_enter Tryz.func229,Tryz.ntmps229
     go_wp2_with fail
     go_ret
     exact kM rfl ((Up.refl w).alloc _)
   ·have HT2:Hid ((hdT B.long t).any=(if decide (k=1)&&B.long s then some s else none:Option ByteArray).isSome):=Lib.hid (by
     rw[HT.out,if_neg h3,if_neg h2]
     by_cases h1:k=1
     ·rw[if_pos h1,decide_eq_true h1,Bool.true_and]
      cases B.long s<;>rfl
     ·rw[if_neg h1,decide_eq_false h1,Bool.false_and];rfl)
    rw[HT2.out];obtain⟨O,hO⟩:∃O,(if decide (k=1)&&B.long s then some s else none:Option ByteArray)=O:=⟨_,rfl⟩;rw[hO] at HCL ⊢;clear hO
    go_enter Tryz.func229,Tryz.ntmps229
    go_wp2_with fail;refine(HCL.out _ ((Up.refl w).alloc _)).mono ?_;rintro e w1 ⟨rfl,u1⟩;go_wp2_with fail
    go_ret
    exact kM rfl (((Up.refl w).alloc _).trans u1)
 ·have hki:(n:Int)≤(i:Int):=by omega
  have HE:Hid ((hdE B.long l i).any=false):=Lib.hid (by unfold hdE;rw[List.getElem?_eq_none (by omega)];rfl);rw[HE.out];clear hc hn HE
  go_enter Tryz.func229,Tryz.ntmps229
  go_wp2_with fail
  go_ret
  exact kM rfl (Up.refl w)
theorem rSame (o o':Option Tr) {W w:World} {v v':Value} (h:HasT W v o) (h':HasT W v' o') (hz:szO o≤65536) (b:Bool) (hb:b=true↔o=o') (u:Up W w) :
  Calls Tryz.prog 12 #[v,v'] w (BoP b W):=
 (zD5 o o' w _ _ v v' (h.up u) (h'.up u) (by omega) b hb).mono fun _ _ k=>by obtain⟨k1,q,rfl⟩:=k;exact⟨k1,u.drewN q⟩
theorem refOp (n:Int) (a b:Option Addr) (w:World) :
  Calls Tryz.prog 129 #[.int .i64 n,.pointer a,.pointer b] w fun e w'=>e = .returned (.pointer (some ⟨w.heap.size+1,0,none⟩))∧w'=(w.alloc (.cells #[.pointer a,.pointer b] 24)).alloc (.cells #[.int .i64 31,.int .i64 n,.string ⟨#[]⟩,.string ⟨#[]⟩,.slice (some ⟨w.heap.size,0,none⟩) 2 2] 57):=by
 go_enter Tryz.func129,Tryz.ntmps129
 go_wp2_with fail
 go_ret
 exact⟨rfl,rfl⟩
def LopSt (l:List Te) (i:Nat) (T:Nat→Rs Tr) (s:Nat→Option (Nod×Nat)) (R:Rs Tr) (w wr:World) (jv va ev:Value):Prop:=
 (∃(a:Tr) (j f:Nat),i≤j∧R=lop T s f a j∧l.length-j+1≤f∧j≤l.length∧NewT w wr va a∧jv = .int .i64 (j:Int)∧ev = .int .i64 0)∨
 (∃(p:Nat) (er:Int),R = .inr (p,er)∧¬er=0∧p≤l.length∧jv = .int .i64 (p:Int)∧ev = .int .i64 er∧∃A,va = .pointer A)
theorem LopSt.start {l:List Te} {T:Nat→Rs Tr} {s:Nat→Option (Nod×Nat)} {n i:Nat} {w w0 w1:World} {va:Value} {j e:Int} (hi:i≤l.length) (hn:l.length-i+1≤n) (hT:In l.length i (T i)) (h:RsV (T i) w0 w1 va j e) (u:Up w w0):LopSt l i T s (lopS T s n i) w w1 (.int .i64 j) va (.int .i64 e):=by
 unfold lopS
 cases hR:T i with
 | inl r=>
  obtain⟨a,q⟩:=r;rw[hR] at h hT;obtain⟨h1,rfl,rfl⟩:=h;have hq:i<q∧q≤l.length:=hT;exact .inl ⟨a,q,n,by omega,rfl,by omega,hq.2,h1.base u.size,rfl,rfl⟩
 | inr r=>
  obtain⟨p,er⟩:=r;rw[hR] at h;obtain⟨rfl,rfl,h3⟩:=h;have hne:=hT.ne hR;rw[hR] at hT;have hp:i≤p∧p≤l.length∧_:=hT;exact .inr ⟨p,e,rfl,hne,hp.2.1,rfl,rfl,h3⟩
theorem LopSt.next {l:List Te} {T:Nat→Rs Tr} {s:Nat→Option (Nod×Nat)} {R:Rs Tr} {w w0 w1 w2:World} {vb vn:Value} {a:Tr} {i j f d:Nat} {x:Nod} {q er:Int} (hij:i≤j) (hR:R=lop T s f a j) (hf:l.length-j+1≤f) (hs:s j=some (x,d)) (hd:j+d≤l.length) (hT:In l.length (j+d) (T (j+d))) (h:RsV (T (j+d)) w0 w1 vb q er)
  (hn:(∀b,NewT w0 w1 vb b→NewT w w2 vn (x,fr2 a b))∧∃A,vn = .pointer A):LopSt l i T s R w w2 (.int .i64 q) vn (.int .i64 er):=by
 obtain⟨f,rfl⟩:∃g,f=g+1:=⟨f-1,by omega⟩;unfold lop at hR;rw[hs] at hR;simp only at hR
 cases hRT:T (j+d) with
 | inl r=>
  obtain⟨b,m⟩:=r;rw[hRT] at h hT hR;obtain⟨h1,rfl,rfl⟩:=h;have hm:j+d<m∧m≤l.length:=hT;exact .inl ⟨_,m,f,by omega,hR,by omega,hm.2,hn.1 b h1,rfl,rfl⟩
 | inr r=>
  obtain⟨p,e⟩:=r;have hne:=hT.ne hRT;rw[hRT] at h hT hR;obtain⟨rfl,rfl,h3⟩:=h;have hp:j+d≤p∧p≤l.length∧_:=hT;exact .inr ⟨p,er,hR,hne,hp.2.1,rfl,rfl,hn.2⟩
theorem LopSt.less {l:List Te} {T:Nat→Rs Tr} {q er:Int} {w0 w1:World} {vb:Value} {j d:Nat} (hj:j≤l.length) (hT:In l.length (j+d) (T (j+d))) (h:RsV (T (j+d)) w0 w1 vb q er):(if er=0 then 1 else 0)+(l.length-q.toNat)<1+(l.length-j):=by
 cases hRT:T (j+d) with
 | inl r=>
  obtain⟨b,m⟩:=r;rw[hRT] at h hT;obtain⟨h1,rfl,rfl⟩:=h;have hm:j+d<m∧m≤l.length:=hT;rw[if_pos rfl,Int.toNat_natCast];omega
 | inr r=>
  obtain⟨p,e⟩:=r;have hne:=hT.ne hRT;rw[hRT] at h hT;obtain⟨rfl,rfl,h3⟩:=h;have hp:j+d≤p∧p≤l.length∧_:=hT;rw[if_neg hne,Int.toNat_natCast];omega
theorem yT4 (l:List Te) (A:Nat→Rs Tr) (N i:Nat) (hi:i≤l.length) (hN:l.length-i+1≤N) (hz:∀t∈l,t.t.s.size≤1000000000) (aA:∀j,j≤l.length→In l.length j (A j)) (w:World) (v:Value) (hv:Tke w v l)
  (cA:∀(j:Nat) (W:World),i≤j→j≤l.length→Up w W→Calls Tryz.prog 228 #[v,.int .i64 (j:Int)] W (qO (A j) W)) :
  Calls Tryz.prog 200 #[v,.int .i64 (i:Int)] w (qO (appS B.long l N A i) w):=by
 have cS:=fun(j:Nat) (W:World) (u:Up w W)=>kU l j hz W v (hv.up u)
 have CS:=Lib.hid cS;have CA:=Lib.hid cA;have c0:=cA i w (Nat.le_refl _) hi (Up.refl w);obtain⟨R,hR⟩:∃R,appS B.long l N A i=R:=⟨_,rfl⟩;have HR:=Lib.hid hR;rw[hR];clear cS cA hR hz
 go_enter Tryz.func200,Tryz.ntmps200
 go_wp2_with fail;refine c0.mono ?_;rintro e w1 ⟨va,ja,ea,rfl,hV,u1⟩;have hst:LopSt l i A (sApp B.long l) R w w1 (.int .i64 ja) va (.int .i64 ea):=by rw[←HR.out];exact LopSt.start hi hN (aA i hi) hV (Up.refl w)
 have HST:=Lib.hid hst;clear hst hV c0;go_wp2_with fail
 go_loopw [1,7,8,9,10,11] (fun jv va ev _ _ _ wr=>LopSt l i A (sApp B.long l) R w wr jv va ev∧Up w wr) (fun jv _ ev _ _ _ _=>(if intOf ev=0 then 1 else 0)+(l.length-(intOf jv).toNat))
 case atStart=>exact⟨HST.out,u1⟩
 case round=>
  obtain⟨hst,hu⟩:=hrel
  rcases hst with ⟨a,j,f,hij,hRl,hf,hj,hT,rfl,rfl⟩ | ⟨p,er,hRl,hne,hp,rfl,rfl,A1,rfl⟩
  ·obtain⟨o1,p1,rfl⟩:=InT.ptr hT
   have HRL:=Lib.hid hRl;have HU:=Lib.hid hu;have cS:=CS.out j wr hu
   cases hb:(hdE B.long l j).any with
   | false=>
    rw[hb] at cS;have hs:sApp B.long l j=none:=by unfold sApp;rw[hb];rfl
    have hRR:R = .inl (a,j):=by
     rw[hRl]
     cases f with
     | zero=>omega
     | succ f=>unfold lop;rw[hs]
    have HRR:=Lib.hid hRR;clear hRl hRR hs hb;go_wp2_with fail;refine cS.mono ?_;rintro e w2 ⟨rfl,u2⟩;go_wp2_with fail
    go_ret3
    rw[HRR.out];exact⟨_,_,_,rfl,⟨hT.up u2,rfl,rfl⟩,HU.out.trans u2⟩
   | true=>
    rw[hb] at cS;have hs:sApp B.long l j=some (⟨25,0,nob,nob⟩,0):=by unfold sApp;rw[hb];rfl
    have HS:=Lib.hid hs;clear hRl hs hb;go_wp2_with fail;refine cS.mono ?_;rintro e w2 ⟨rfl,u2⟩;have U2:Up w w2:=HU.out.trans u2;go_wp2_with fail;refine(CA.out j w2 hij hj U2).mono ?_;rintro e w3 ⟨vb,q,er,rfl,hV,u3⟩;have U3:Up w w3:=U2.trans u3;obtain⟨pb,rfl⟩:=hV.ptr;have HVV:=Lib.hid hV;clear hV;go_wp2_with fail;refine(yI 25 nob _ _ _ _).mono ?_;rintro e w4 ⟨rfl,rfl⟩;go_wp2_with fail;have hnx:LopSt l i A (sApp B.long l) R w ((w3.alloc (.cells #[.pointer (some ⟨o1,p1,none⟩),.pointer pb] 24)).alloc (.cells #[.int .i64 25,.int .i64 0,.string nob,.string ⟨#[]⟩,.slice (some ⟨w3.heap.size,0,none⟩) 2 2] 57)) (.int .i64 q) (.pointer (some ⟨w3.heap.size+1,0,none⟩)) (.int .i64 er):=
     LopSt.next hij HRL.out hf HS.out hj (aA j hj) HVV.out ⟨fun b hb=>zXg U3.size (hT.up (u2.trans u3)) (hb.from U2 (Up.refl _)),_,rfl⟩
    have hls:=LopSt.less (T:=A) (d:=0) hj (aA j hj) HVV.out;exact⟨⟨hnx,(U3.alloc _).alloc _⟩,hls⟩
  ·have HRL:=Lib.hid hRl
   clear hRl;go_wp2_with fail
   go_ret3
   rw[HRL.out];exact⟨_,_,_,rfl,⟨rfl,rfl,A1,rfl⟩,hu⟩
theorem zS3 {T:Nat→Rs Tr} {s:Nat→Option (Nod×Nat)} {R:Rs Tr} {a:Tr} {j f n:Nat} (hR:R=lop T s f a j) (hf:n-j+1≤f) (hs:s j=none):R = .inl (a,j):=by
 rw[hR]
 cases f with
 | zero=>omega
 | succ f=>unfold lop;rw[hs]
theorem yZr (l:List Te) (A:Nat→Rs Tr) (N i:Nat) (hi:i≤l.length) (hl:l.length≤1000000) (hN:l.length-i+1≤N) (aT:∀j,j≤l.length→In l.length j (appS B.long l N A j)) (w:World) (v:Value) (hv:Tke w v l)
  (cT:∀(j:Nat) (W:World),i≤j→j≤l.length→Up w W→Calls Tryz.prog 200 #[v,.int .i64 (j:Int)] W (qO (appS B.long l N A j) W)) :
  Calls Tryz.prog 175 #[v,.int .i64 (i:Int)] w (qO (mulS B.long l N A i) w):=by
 have cK:∀(j:Nat) (x:ByteArray) (W:World),Up w W→Calls Tryz.prog 57 #[v,.int .i64 (j:Int),.string x] W (BoU (key (tks l) j x) W):=fun j x W u=>by rw[←xE];exact vL (tks l) j x W v (hv.up u).tkm
 have CK:=Lib.hid cK;have CT:=Lib.hid cT;have c0:=cT i w (Nat.le_refl _) hi (Up.refl w);obtain⟨T,hT0⟩:∃T,appS B.long l N A=T:=⟨_,rfl⟩;obtain⟨R,hR⟩:∃R,mulS B.long l N A i=R:=⟨_,rfl⟩;have hR':lopS T (sMul l) N i=R:=by rw[←hR,←hT0];rfl
 have HR:=Lib.hid hR';rw[hR];rw[hT0] at c0 aT CT;clear cK cT hR hR' hT0
 go_enter Tryz.func175,Tryz.ntmps175
 go_wp2_with fail;refine c0.mono ?_;rintro e w1 ⟨va,ja,ea,rfl,hV,u1⟩;have hst:LopSt l i T (sMul l) R w w1 (.int .i64 ja) va (.int .i64 ea):=by rw[←HR.out];exact LopSt.start hi hN (aT i hi) hV (Up.refl w)
 have HST:=Lib.hid hst;clear hst hV c0;go_wp2_with fail
 go_loopw [1,7,8,9,10,11] (fun jv va ev _ _ _ wr=>LopSt l i T (sMul l) R w wr jv va ev∧Up w wr) (fun jv _ ev _ _ _ _=>(if intOf ev=0 then 1 else 0)+(l.length-(intOf jv).toNat))
 case atStart=>exact⟨HST.out,u1⟩
 case round=>
  obtain⟨hst,hu⟩:=hrel
  rcases hst with ⟨a,j,f,hij,hRl,hf,hj,hT,rfl,rfl⟩ | ⟨p,er,hRl,hne,hp,rfl,rfl,A1,rfl⟩
  ·obtain⟨o1,p1,rfl⟩:=InT.ptr hT
   have HRL:=Lib.hid hRl;have HU:=Lib.hid hu;have cK:=CK.out j kStar wr hu
   cases hb:key (tks l) j kStar with
   | false=>
    rw[hb] at cK;have hs:sMul l j=none:=by unfold sMul;rw[hb];rfl
    have hRR:=zS3 hRl hf hs;have HRR:=Lib.hid hRR;clear hRl hRR hs hb;go_wp2_with fail;refine cK.mono ?_;rintro e w2 ⟨rfl,u2⟩;go_wp2_with fail
    go_ret3
    rw[HRR.out];exact⟨_,_,_,rfl,⟨hT.up u2,rfl,rfl⟩,HU.out.trans u2⟩
   | true=>
    rw[hb] at cK;have hs:sMul l j=some (opN 3,1):=by unfold sMul;rw[hb];rfl
    have hj1:j+1≤l.length:=qH hb;have hw1:=qS j 1 (by omega) (by omega);have HS:=Lib.hid hs;clear hRl hs hb;go_wp2_with fail;refine cK.mono ?_;rintro e w2 ⟨rfl,u2⟩;have U2:Up w w2:=HU.out.trans u2;go_wp2_with fail;refine(CT.out (j+1) w2 (by omega) hj1 U2).mono ?_;rintro e w3 ⟨vb,q,er,rfl,hV,u3⟩;have U3:Up w w3:=U2.trans u3;obtain⟨pb,rfl⟩:=hV.ptr;have HVV:=Lib.hid hV;clear hV;go_wp2_with fail;refine(refOp 3 _ _ _).mono ?_;rintro e w4 ⟨rfl,rfl⟩;go_wp2_with fail;have hnx:LopSt l i T (sMul l) R w _ (.int .i64 q) (.pointer (some ⟨w3.heap.size+1,0,none⟩)) (.int .i64 er):=
     LopSt.next hij HRL.out hf HS.out hj1 (aT (j+1) hj1) HVV.out ⟨fun b hb=>hasOp U3.size (hT.up (u2.trans u3)) (hb.from U2 (Up.refl _)),_,rfl⟩
    have hls:=LopSt.less (T:=T) (d:=1) hj (aT (j+1) hj1) HVV.out;exact⟨⟨hnx,(U3.alloc _).alloc _⟩,hls⟩
  ·have HRL:=Lib.hid hRl
   clear hRl;go_wp2_with fail
   go_ret3
   rw[HRL.out];exact⟨_,_,_,rfl,⟨rfl,rfl,A1,rfl⟩,hu⟩
theorem yT5 (l:List Te) (A:Nat→Rs Tr) (N i:Nat) (hi:i≤l.length) (hl:l.length≤1000000) (hN:l.length-i+1≤N) (aT:∀j,j≤l.length→In l.length j (mulS B.long l N A j)) (w:World) (v:Value) (hv:Tke w v l)
  (cT:∀(j:Nat) (W:World),i≤j→j≤l.length→Up w W→Calls Tryz.prog 175 #[v,.int .i64 (j:Int)] W (qO (mulS B.long l N A j) W)) :
  Calls Tryz.prog 128 #[v,.int .i64 (i:Int)] w (qO (addS B.long l N A i) w):=by
 have cK:∀(j:Nat) (x:ByteArray) (W:World),Up w W→Calls Tryz.prog 57 #[v,.int .i64 (j:Int),.string x] W (BoU (key (tks l) j x) W):=fun j x W u=>by rw[←xE];exact vL (tks l) j x W v (hv.up u).tkm
 have CK:=Lib.hid cK;have CT:=Lib.hid cT;have c0:=cT i w (Nat.le_refl _) hi (Up.refl w);obtain⟨T,hT0⟩:∃T,mulS B.long l N A=T:=⟨_,rfl⟩;obtain⟨R,hR⟩:∃R,addS B.long l N A i=R:=⟨_,rfl⟩;have hR':lopS T (sAdd l) N i=R:=by rw[←hR,←hT0];rfl
 have HR:=Lib.hid hR';rw[hR];rw[hT0] at c0 aT CT;clear cK cT hR hR' hT0
 go_enter Tryz.func128,Tryz.ntmps128
 go_wp2_with fail;refine c0.mono ?_;rintro e w1 ⟨va,ja,ea,rfl,hV,u1⟩;have hst:LopSt l i T (sAdd l) R w w1 (.int .i64 ja) va (.int .i64 ea):=by rw[←HR.out];exact LopSt.start hi hN (aT i hi) hV (Up.refl w)
 have HST:=Lib.hid hst;clear hst hV c0;go_wp2_with fail
 go_loopw [1,7,8,9,10,11,12] (fun jv va ev _ _ _ _ wr=>LopSt l i T (sAdd l) R w wr jv va ev∧Up w wr) (fun jv _ ev _ _ _ _ _=>(if intOf ev=0 then 1 else 0)+(l.length-(intOf jv).toNat))
 case atStart=>exact⟨HST.out,u1⟩
 case round=>
  obtain⟨hst,hu⟩:=hrel
  rcases hst with ⟨a,j,f,hij,hRl,hf,hj,hT,rfl,rfl⟩ | ⟨p,er,hRl,hne,hp,rfl,rfl,A1,rfl⟩
  ·obtain⟨o1,p1,rfl⟩:=InT.ptr hT
   have HRL:=Lib.hid hRl;have HU:=Lib.hid hu;have cP:=CK.out j kPlus wr hu;have cM:=CK.out j vX
   cases hb:key (tks l) j kPlus with
   | false=>
    rw[hb] at cP
    cases hb2:key (tks l) j vX with
    | false=>
     rw[hb2] at cM;have hs:sAdd l j=none:=by unfold sAdd;rw[hb,hb2];rfl
     have hRR:=zS3 hRl hf hs;have HRR:=Lib.hid hRR;clear hRl hRR hs hb hb2;go_wp2_with fail;refine cP.mono ?_;rintro e w2 ⟨rfl,u2⟩;go_wp2_with fail;refine(cM w2 (HU.out.trans u2)).mono ?_;rintro e w3 ⟨rfl,u3⟩;go_wp2_with fail
     go_ret3
     rw[HRR.out];exact⟨_,_,_,rfl,⟨hT.up (u2.trans u3),rfl,rfl⟩,(HU.out.trans u2).trans u3⟩
    | true=>
     rw[hb2] at cM;have hs:sAdd l j=some (opN 2,1):=by unfold sAdd;rw[hb,hb2];rfl
     have hj1:j+1≤l.length:=qH hb2;have hw1:=qS j 1 (by omega) (by omega);have HS:=Lib.hid hs;clear hRl hs hb hb2;go_wp2_with fail;refine cP.mono ?_;rintro e w2 ⟨rfl,u2⟩;go_wp2_with fail;refine(cM w2 (HU.out.trans u2)).mono ?_;rintro e x2 ⟨rfl,z2⟩;go_wp2_with fail;refine(cM x2 ((HU.out.trans u2).trans z2)).mono ?_;rintro e x3 ⟨rfl,z3⟩;have U2:Up w x3:=((HU.out.trans u2).trans z2).trans z3;go_wp2_with fail;refine(CT.out (j+1) x3 (by omega) hj1 U2).mono ?_;rintro e w3 ⟨vb,q,er,rfl,hV,u3⟩;have U3:Up w w3:=U2.trans u3;obtain⟨pb,rfl⟩:=hV.ptr;have HVV:=Lib.hid hV;clear hV;go_wp2_with fail;refine(refOp 2 _ _ _).mono ?_;rintro e w4 ⟨rfl,rfl⟩;go_wp2_with fail;have hnx:LopSt l i T (sAdd l) R w _ (.int .i64 q) (.pointer (some ⟨w3.heap.size+1,0,none⟩)) (.int .i64 er):=
      LopSt.next hij HRL.out hf HS.out hj1 (aT (j+1) hj1) HVV.out ⟨fun b hb=>hasOp U3.size (hT.up (((u2.trans z2).trans z3).trans u3)) (hb.from U2 (Up.refl _)),_,rfl⟩
     have hls:=LopSt.less (T:=T) (d:=1) hj (aT (j+1) hj1) HVV.out;exact⟨⟨hnx,(U3.alloc _).alloc _⟩,hls⟩
   | true=>
    rw[hb] at cP;have hb2:=yJ (y:=vX) hb (by decide);rw[hb2] at cM;have hs:sAdd l j=some (opN 1,1):=by unfold sAdd;rw[hb];rfl
    have hj1:j+1≤l.length:=qH hb;have hw1:=qS j 1 (by omega) (by omega);have HS:=Lib.hid hs;clear hRl hs hb hb2;go_wp2_with fail;refine cP.mono ?_;rintro e w2 ⟨rfl,u2⟩;go_wp2_with fail;refine(cM w2 (HU.out.trans u2)).mono ?_;rintro e x2 ⟨rfl,z2⟩;have U2:Up w x2:=(HU.out.trans u2).trans z2;go_wp2_with fail;refine(CT.out (j+1) x2 (by omega) hj1 U2).mono ?_;rintro e w3 ⟨vb,q,er,rfl,hV,u3⟩;have U3:Up w w3:=U2.trans u3;obtain⟨pb,rfl⟩:=hV.ptr;have HVV:=Lib.hid hV;clear hV;go_wp2_with fail;refine(refOp 1 _ _ _).mono ?_;rintro e w4 ⟨rfl,rfl⟩;go_wp2_with fail;have hnx:LopSt l i T (sAdd l) R w _ (.int .i64 q) (.pointer (some ⟨w3.heap.size+1,0,none⟩)) (.int .i64 er):=
     LopSt.next hij HRL.out hf HS.out hj1 (aT (j+1) hj1) HVV.out ⟨fun b hb=>hasOp U3.size (hT.up ((u2.trans z2).trans u3)) (hb.from U2 (Up.refl _)),_,rfl⟩
    have hls:=LopSt.less (T:=T) (d:=1) hj (aT (j+1) hj1) HVV.out;exact⟨⟨hnx,(U3.alloc _).alloc _⟩,hls⟩
  ·have HRL:=Lib.hid hRl
   clear hRl;go_wp2_with fail
   go_ret3
   rw[HRL.out];exact⟨_,_,_,rfl,⟨rfl,rfl,A1,rfl⟩,hu⟩
theorem yT6 (l:List Te) (A:Nat→Rs Tr) (N i:Nat) (hi:i≤l.length) (hl:l.length≤1000000) (aT:∀j,j≤l.length→In l.length j (addS B.long l N A j)) (w:World) (v:Value) (hv:Tke w v l)
  (cT:∀(j:Nat) (W:World),i≤j→j≤l.length→Up w W→Calls Tryz.prog 128 #[v,.int .i64 (j:Int)] W (qO (addS B.long l N A j) W)) :
  Calls Tryz.prog 64 #[v,.int .i64 (i:Int)] w (qO (cmpS B.long l N A i) w):=by
 have cK:∀(j:Nat) (x:ByteArray) (W:World),Up w W→Calls Tryz.prog 57 #[v,.int .i64 (j:Int),.string x] W (BoU (key (tks l) j x) W):=fun j x W u=>by rw[←xE];exact vL (tks l) j x W v (hv.up u).tkm
 have CK:=Lib.hid cK;have CT:=Lib.hid cT;have c0:=cT i w (Nat.le_refl _) hi (Up.refl w);have a0:=aT i hi;obtain⟨T,hT0⟩:∃T,addS B.long l N A=T:=⟨_,rfl⟩;obtain⟨R,hR⟩:∃R,cmpS B.long l N A i=R:=⟨_,rfl⟩;have hR':(thn (T i) fun a j=>match sCmp l j with
  | none=>.inl (a,j)
  | some (x,d)=>thn (T (j+d)) fun b m=>.inl ((x,fr2 a b),m))=R:=by rw[←hR,←hT0];rfl
 have HR:=Lib.hid hR';rw[hR];rw[hT0] at c0 aT CT a0;clear cK cT hR hR' hT0;obtain⟨R1,hR1⟩:∃R1,T i=R1:=⟨_,rfl⟩;rw[hR1] at c0 a0;have HR1:=Lib.hid hR1;clear hR1
 go_enter Tryz.func64,Tryz.ntmps64
 go_wp2_with fail;refine c0.mono ?_;rintro e w1 ⟨va,ja,ea,rfl,hV,u1⟩
 cases R1 with
 | inr r=>
  obtain⟨p,er⟩:=r;obtain⟨rfl,rfl,A1,rfl⟩:=hV;have hne:=a0.ne rfl;go_wp2_with fail
  go_ret3
  rw[show R = .inr (p,ea) from by rw[←HR.out,HR1.out];rfl];exact⟨_,_,_,rfl,⟨rfl,rfl,none,rfl⟩,u1⟩
 | inl r=>
  obtain⟨a,j⟩:=r;obtain⟨hT,rfl,rfl⟩:=hV;obtain⟨o1,p1,rfl⟩:=InT.ptr hT;have hj:i<j∧j≤l.length:=a0;have cE:=CK.out j kEq;have cL:=CK.out j kLess
  cases hb:key (tks l) j kEq with
  | false=>
   rw[hb] at cE
   cases hb2:key (tks l) j kLess with
   | false=>
    rw[hb2] at cL;have hRR:R = .inl (a,j):=by
     rw[←HR.out,HR1.out]
     show(match sCmp l j with
      | none=>_
      | some (x,d)=>_)=_
     unfold sCmp;rw[hb,hb2]
     rfl
    have HRR:=Lib.hid hRR;clear hRR hb hb2 a0 c0;go_wp2_with fail;refine(cE _ u1).mono ?_;rintro e w2 ⟨rfl,u2⟩;go_wp2_with fail;refine(cL _ (u1.trans u2)).mono ?_;rintro e w3 ⟨rfl,u3⟩;go_wp2_with fail
    go_ret3
    rw[HRR.out];exact⟨_,_,_,rfl,⟨hT.up (u2.trans u3),rfl,rfl⟩,(u1.trans u2).trans u3⟩
   | true=>
    rw[hb2] at cL;have hj1:j+1≤l.length:=qH hb2;have hw1:=qS j 1 (by omega) (by omega);have hRR:R=thn (T (j+1)) fun b m=>.inl ((opN 5,fr2 a b),m):=by
     rw[←HR.out,HR1.out]
     show(match sCmp l j with
      | none=>_
      | some (x,d)=>_)=_
     unfold sCmp;rw[hb,hb2]
     rfl
    obtain⟨R2,hR2⟩:∃R2,T (j+1)=R2:=⟨_,rfl⟩;have cT2:=fun W u=>CT.out (j+1) W (by omega) hj1 u
    rw[hR2] at hRR cT2;have HRR:=Lib.hid hRR;clear hRR hb hb2 a0 c0 hR2;go_wp2_with fail;refine(cE _ u1).mono ?_;rintro e w2 ⟨rfl,u2⟩;go_wp2_with fail;refine(cL _ (u1.trans u2)).mono ?_;rintro e w3 ⟨rfl,u3⟩;have U3:=(u1.trans u2).trans u3;go_wp2_with fail;refine(cT2 _ U3).mono ?_;rintro e w4 ⟨vb,q,er,rfl,hV,u4⟩;have U4:=U3.trans u4;obtain⟨pb,rfl⟩:=hV.ptr;have HVV:=Lib.hid hV;clear hV;go_wp2_with fail;refine(refOp 5 _ _ _).mono ?_;rintro e w5 ⟨rfl,rfl⟩;go_wp2_with fail
    go_ret3
    rw[HRR.out];refine⟨_,_,_,rfl,?_,(U4.alloc _).alloc _⟩;have hV:=HVV.out
    cases R2 with
    | inr r=>exact⟨hV.1,hV.2.1,_,rfl⟩
    | inl r=>exact⟨hasOp U4.size (hT.up ((u2.trans u3).trans u4)) (hV.1.from U3 (Up.refl _)),hV.2.1,hV.2.2⟩
  | true=>
   rw[hb] at cE;have hb2:=yJ (y:=kLess) hb (by decide);rw[hb2] at cL;have hj1:j+1≤l.length:=qH hb;have hw1:=qS j 1 (by omega) (by omega);have hRR:R=thn (T (j+1)) fun b m=>.inl ((opN 4,fr2 a b),m):=by
    rw[←HR.out,HR1.out]
    show(match sCmp l j with
     | none=>_
     | some (x,d)=>_)=_
    unfold sCmp;rw[hb]
    rfl
   obtain⟨R2,hR2⟩:∃R2,T (j+1)=R2:=⟨_,rfl⟩;have cT2:=fun W u=>CT.out (j+1) W (by omega) hj1 u
   rw[hR2] at hRR cT2;have HRR:=Lib.hid hRR;clear hRR hb hb2 a0 c0 hR2;go_wp2_with fail;refine(cE _ u1).mono ?_;rintro e w2 ⟨rfl,u2⟩;go_wp2_with fail;refine(cL _ (u1.trans u2)).mono ?_;rintro e w3 ⟨rfl,u3⟩;have U3:=(u1.trans u2).trans u3;go_wp2_with fail;refine(cT2 _ U3).mono ?_;rintro e w4 ⟨vb,q,er,rfl,hV,u4⟩;have U4:=U3.trans u4;obtain⟨pb,rfl⟩:=hV.ptr;have HVV:=Lib.hid hV;clear hV;go_wp2_with fail;refine(refOp 4 _ _ _).mono ?_;rintro e w5 ⟨rfl,rfl⟩;go_wp2_with fail
   go_ret3
   rw[HRR.out];refine⟨_,_,_,rfl,?_,(U4.alloc _).alloc _⟩;have hV:=HVV.out
   cases R2 with
   | inr r=>exact⟨hV.1,hV.2.1,_,rfl⟩
   | inl r=>exact⟨hasOp U4.size (hT.up ((u2.trans u3).trans u4)) (hV.1.from U3 (Up.refl _)),hV.2.1,hV.2.2⟩
end Go.Proofs.YtbpijnalmakfaaaGreatDoor
