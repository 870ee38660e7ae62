/-
  Layer 7, the program's number, half, tree; application, a loop of atoms.
-/
import Derived.Test.YtgeghilbikljcaaGreatDoorGj16
set_option maxHeartbeats 40000000
set_option maxRecDepth 100000
namespace Go.Proofs.YtgeghilbikljcaaGreatDoor
open Go.RowKit
def numQ (l:List Te) (i:Nat):Option Int:=match l[i]? with
 | some t=>if decide (t.t.k=2)&&(decide (-1073741824<=t.n)&&decide (t.n<=1073741824)) then some t.n else none
 | none=>none
theorem zVw (l:List Te) (i:Nat) (w:World) (v:Value) (hv:Tke w v l):Calls Tryz.prog 265 #[v,.int .i64 (i:Int)] w (AnP (.int .i64 ((numQ l i).getD 0)) (numQ l i).isSome w):=by
 obtain⟨A,c,rfl,hc⟩:=hv;obtain⟨n,hn⟩:∃n,l.length=n:=⟨_,rfl⟩;rw[hn];have h0':¬(i:Int)<0:=by omega
 by_cases hk:i<n
 ·obtain⟨t,ht⟩:∃t,l[i]? = some t:=⟨_,List.getElem?_eq_getElem (by rw[hn];exact hk)⟩
  obtain⟨b,o,rfl,hb,c0,c1,c2,m,c3⟩:=hc i t ht;have hki:¬(n:Int)<=(i:Int):=by omega
  have HE:Hid (numQ l i=if decide (t.t.k=2)&&(decide (-1073741824<=t.n)&&decide (t.n<=1073741824)) then some t.n else none):=Lib.hid (by unfold numQ;rw[ht]);rw[HE.out];clear hc ht hn HE c1 c3
  by_cases h3:t.t.k=2
  ·rw[decide_eq_true h3,Bool.true_and]
   rw[h3] at c0
   by_cases h1 : -1073741824<=t.n
   ·rw[decide_eq_true h1,Bool.true_and]
    have h1':¬t.n < -1073741824:=by omega
    by_cases h2:t.n<=1073741824
    ·rw[decide_eq_true h2]
     have h2':¬1073741824<t.n:=by omega
     go_enter Tryz.func265,Tryz.ntmps265
     go_wp2_with fail
     go_ret2
     exact⟨rfl,Up.refl _⟩
    ·rw[decide_eq_false h2]
     have h2':1073741824<t.n:=by omega
     go_enter Tryz.func265,Tryz.ntmps265
     go_wp2_with fail
     go_ret2
     exact⟨rfl,Up.refl _⟩
   ·rw[decide_eq_false h1,Bool.false_and]
    have h1':t.n < -1073741824:=by omega
    go_enter Tryz.func265,Tryz.ntmps265
    go_wp2_with fail
    go_ret2
    exact⟨rfl,Up.refl _⟩
  ·rw[decide_eq_false h3,Bool.false_and]
   go_enter Tryz.func265,Tryz.ntmps265
   go_wp2_with fail
   go_ret2
   exact⟨rfl,Up.refl _⟩
 ·have hki:(n:Int)<=(i:Int):=by omega
  have HE:Hid (numQ l i=none):=Lib.hid (by unfold numQ;rw[List.getElem?_eq_none (by omega)]);rw[HE.out]
  go_enter Tryz.func265,Tryz.ntmps265
  go_wp2_with fail
  go_ret2
  exact⟨rfl,Up.refl _⟩
theorem kL (k:Int) (A:Option Addr) (n c:Nat) (w:World) :
  Calls Tryz.prog 217 #[.int .i64 k,.slice A n c] w fun e w'=>e = .returned (.pointer (some ⟨w.heap.size,0,none⟩))/\w'=w.alloc (.cells #[.int .i64 k,.int .i64 0,.string ⟨#[]⟩,.string ⟨#[]⟩,.slice A n c] 44):=by
 go_enter Tryz.func217,Tryz.ntmps217
 go_wp2_with fail
 go_ret
 exact⟨rfl,rfl⟩
def halfQ (l:List Tk) (i:Nat) (e:Int):Option Int:=if tkB l i e kOne then some 27 else if tkB l i e kTwo then some 28 else none
def haI (q:Option Int) (i:Nat):Nat:=match q with
 | some _=>i+1
 | none=>i
def HaP (b:Nat) (v:Value) (q:Option Int) (i:Nat) (e:Int) (w:World) (en:Ending) (w':World):Prop:=en = .returned (.tuple #[.int .i64 (q.getD 0),.bool q.isSome])/\Gs (On b) w w'/\Psr w' b v (haI q i) e
section
variable {nk lg:ByteArray->Bool}
theorem zNa {V0:World} {l:List Tk} (b:Nat) (v:Value) (i:Nat) (e:Int) (w:World) (T:Toks nk lg V0 v l) (h:Psr w b v i e) (hu:Up V0 w) (hi:i<=1000000) (hbW:V0.heap.size<=b) :
  Calls Tryz.prog 261 #[.agg #[.pointer (some ⟨b,0,none⟩)]] w (HaP b v (halfQ l i e) i e w):=by
 have hb:b<w.heap.size:=qC h;obtain⟨W0,hW0⟩:∃W0,w.alloc (.cells #[.pointer (some ⟨b,0,none⟩)] 183)=W0:=⟨_,rfl⟩;have u0:Up w W0:=by rw[<- hW0];exact(Up.refl w).alloc _
 have b1:W0.heap[w.heap.size]? = some (.cells #[.pointer (some ⟨b,0,none⟩)] 183 (0,0)):=by rw[<- hW0];exact heap_alloc_new w _
 have c1:=qP b v i e kOne W0 T (h.up u0) (hu.trans u0) hi;have HU:=Lib.hid (hu.trans u0);have HT:=Lib.hid T;have HW0:=Lib.hid hW0;have U0:=Lib.hid u0;have B1:=Lib.hid b1;obtain⟨d1,hd1⟩:∃d,tkB l i e kOne=d:=⟨_,rfl⟩;obtain⟨d2,hd2⟩:∃d,tkB l i e kTwo=d:=⟨_,rfl⟩;rw[hd1] at c1;have HD2:=Lib.hid hd2;have HQ:Hid (halfQ l i e=if d1 then some 27 else if d2 then some 28 else none):=Lib.hid (by unfold halfQ;rw[hd1,hd2]);rw[HQ.out];clear hW0 u0 b1 h hu T hd1 hd2 HQ
 cases d1 with
 | true=>
  go_enter Tryz.func261,Tryz.ntmps261
  go_wp2_with fail;rw[HW0.out];refine c1.mono ?_;rintro en w1 ⟨rfl,g1,p1⟩;have G1:=Lib.hid g1;have P1:=Lib.hid p1;clear g1 p1;go_wp2_with fail
  go_ret2
  exact⟨rfl,(Gs.of U0.out).trans G1.out,P1.out⟩
 | false=>
  cases d2 with
  | true=>
   go_enter Tryz.func261,Tryz.ntmps261
   go_wp2_with fail;rw[HW0.out];refine c1.mono ?_;rintro en w1 ⟨rfl,g1,p1⟩;have u1:Up V0 w1:=g1.up HU.out fun q hq=>by rw[hq];exact hbW
   have c2:=qP b v i e kTwo w1 HT.out p1 u1 hi;rw[HD2.out] at c2;have r1:w1.heap[w.heap.size]? = some (.cells #[.pointer (some ⟨b,0,none⟩)] 183 (0,0)):=g1.row B1.out (by unfold On;omega);have cb:w1.cell? ⟨w.heap.size,0,none⟩=some (.pointer (some ⟨b,0,none⟩)):=cell_of_row w1 w.heap.size 0 _ _ _ r1;have hb1:=qC r1;have G1:=Lib.hid g1;clear g1 p1 u1 r1 c1;go_wp2_with fail;refine c2.mono ?_;rintro en w2 ⟨rfl,g2,p2⟩;have G2:=Lib.hid g2;have P2:=Lib.hid p2;clear g2 p2;go_wp2_with fail
   go_ret2
   exact⟨rfl,((Gs.of U0.out).trans G1.out).trans G2.out,P2.out⟩
  | false=>
   go_enter Tryz.func261,Tryz.ntmps261
   go_wp2_with fail;rw[HW0.out];refine c1.mono ?_;rintro en w1 ⟨rfl,g1,p1⟩;have u1:Up V0 w1:=g1.up HU.out fun q hq=>by rw[hq];exact hbW
   have c2:=qP b v i e kTwo w1 HT.out p1 u1 hi;rw[HD2.out] at c2;have r1:w1.heap[w.heap.size]? = some (.cells #[.pointer (some ⟨b,0,none⟩)] 183 (0,0)):=g1.row B1.out (by unfold On;omega);have cb:w1.cell? ⟨w.heap.size,0,none⟩=some (.pointer (some ⟨b,0,none⟩)):=cell_of_row w1 w.heap.size 0 _ _ _ r1;have hb1:=qC r1;have G1:=Lib.hid g1;clear g1 p1 u1 r1 c1;go_wp2_with fail;refine c2.mono ?_;rintro en w2 ⟨rfl,g2,p2⟩;have G2:=Lib.hid g2;have P2:=Lib.hid p2;clear g2 p2;go_wp2_with fail
   go_ret2
   exact⟨rfl,((Gs.of U0.out).trans G1.out).trans G2.out,P2.out⟩
end
def AtP (l:List Te) (A:Nat->Rs Tr) (b:Nat) (v:Value) (j:Nat) (e:Int) (w:World) (en:Ending) (w':World):Prop:=∃P d,en = .returned (.tuple #[.pointer P,.bool d])/\Gs (On b) w w'/\
 ((¬(e=0/\(hdE B.long l j).any=true)/\d=false/\Psr w' b v j e)\/(e=0/\(hdE B.long l j).any=true/\Psr w' b v (rI (A j)) (rE (A j))/\∀t m,A j = .inl (t,m)->d=true/\NewT w w' (.pointer P) t))
inductive ApQ (i0:Nat) (e0:Int) (l:List Te) (b:Nat) (v:Value) (R:Rs Tr) (A:Nat->Rs Tr) (w wr:World) (nv xv iv:Value):Prop
 | good (a:Tr) (j f:Nat) (P:Option Addr) (d:Bool) (he:e0=0/\i0<=j) (hj:j<=l.length) (hR:R=lop A (sApp B.long l) f a j) (hf:l.length-j+1<=f) (hn:NewT w wr nv a) (hx:xv = .pointer P) (hi:iv = .bool d)
   (hp:((hdE B.long l j).any=false/\d=false/\Psr wr b v j 0)\/((hdE B.long l j).any=true/\Psr wr b v (rI (A j)) (rE (A j))/\∀t m,A j = .inl (t,m)->d=true/\NewT w wr (.pointer P) t)):ApQ i0 e0 l b v R A w wr nv xv iv
 | bad (p:Nat) (r:Int) (N P:Option Addr) (hr:¬r=0) (hR:R = .inr (p,r)) (hn:nv = .pointer N) (hx:xv = .pointer P) (hi:iv = .bool false) (hp:Psr wr b v p r):ApQ i0 e0 l b v R A w wr nv xv iv
theorem ApQ.of {i0:Nat} {e0:Int} {l:List Te} {b:Nat} {v:Value} {R:Rs Tr} {A:Nat->Rs Tr} {w w2 wr:World} {N:Option Addr} {X:Rs Tr} {xv iv:Value} {f:Nat} {g:Tr->Tr} (hu:w.heap.size<=w2.heap.size) (hX:∀a j,X = .inl (a,j)->(e0=0/\i0<=j)/\j<=l.length/\R=lop A (sApp B.long l) f (g a) j/\l.length-j+1<=f/\NewT w wr (.pointer N) (g a)) (hX2:∀p r,X = .inr (p,r)->¬r=0/\R = .inr (p,r))
  (h:AtP l A b v (rI X) (rE X) w2 (.returned (.tuple #[xv,iv])) wr):ApQ i0 e0 l b v R A w wr (.pointer N) xv iv:=by
 obtain⟨P,d,h1,_,h3⟩:=h;injection h1 with h1;injection h1 with h1;have e1:xv = .pointer P:=by have:=congrArg (·[0]?) h1;exact Option.some.inj this
 have e2:iv = .bool d:=by have:=congrArg (·[1]?) h1;exact Option.some.inj this
 cases X with
 | inl r=>
  obtain⟨a,j⟩:=r;obtain⟨h8,h4,h5,h6,h7⟩:=hX a j rfl;refine .good (g a) j f P d h8 h4 h5 h6 h7 e1 e2 ?_
  rcases h3 with ⟨h9,h10,h11⟩ | ⟨_,h9,h10,h11⟩
  ·refine .inl ⟨?_,h10,h11⟩
   cases ha:(hdE B.long l j).any with
   | false=>rfl
   | true=>exact absurd ⟨rfl,ha⟩ h9
  ·exact .inr ⟨h9,h10,fun t m ht=>⟨(h11 t m ht).1,(h11 t m ht).2.base hu⟩⟩
 | inr r=>
  obtain⟨p,r⟩:=r;obtain⟨h4,h5⟩:=hX2 p r rfl
  rcases h3 with ⟨_,h10,h11⟩ | ⟨h9,_⟩
  ·exact .bad p r N P h4 h5 rfl e1 (by rw[e2,h10]) h11
  ·exact absurd h9 h4
theorem sL {l:List Te} {j:Nat} (h:(hdE B.long l j).any=false):sApp B.long l j=none:=by unfold sApp;rw[h];rfl
theorem wU {l:List Te} {j:Nat} (h:(hdE B.long l j).any=true):sApp B.long l j=some (⟨25,0,nob,nob⟩,0):=by unfold sApp;rw[h];rfl
section
variable {V0:World} {v:Value} {l:List Te} {b:Nat}
theorem zKo (Q:Px8 V0 v l b) (n:Nat) (A:Nat->Rs Tr) (hA:∀j,j<=l.length->In l.length j (A j)) (hA0:∀j,(hdE B.long l j).any=false->A j = .inr (j,6)) (hA1:∀j,(hdE B.long l j).any=true->j<rI (A j)) (i:Nat) (e:Int) (hi:i<=l.length) (hn:e=0->l.length-i+1<=n)
  (cA:∀(j:Nat) (e':Int) (w':World),j<=l.length->(e'=0->e=0/\i<=j)->Up V0 w'->Psr w' b v j e'->Calls Tryz.prog 260 #[.agg #[.pointer (some ⟨b,0,none⟩)]] w' (AtP l A b v j e' w')):RuAt V0 v b 257 (appS B.long l n A) i e:=fun w hu h=>by
 have hb:b<w.heap.size:=qC h;have hbV:=Q.hb;have hll:=Q.hl;obtain⟨W0,hW0⟩:∃W0,w.alloc (.cells #[.pointer (some ⟨b,0,none⟩)] 183)=W0:=⟨_,rfl⟩;have u0:Up w W0:=by rw[<- hW0];exact(Up.refl w).alloc _
 have b1:W0.heap[w.heap.size]? = some (.cells #[.pointer (some ⟨b,0,none⟩)] 183 (0,0)):=by rw[<- hW0];exact heap_alloc_new w _
 have c0:=cA i e W0 hi (fun h=>⟨h,Nat.le_refl _⟩) (hu.trans u0) (h.up u0);have hgU:∀w',Gs (On b) W0 w'->Up V0 w':=fun w' g=>g.up (hu.trans u0) fun q hq=>by rw[hq];exact hbV
 obtain⟨X,hXq⟩:∃X,at0 A (i,e)=X:=⟨_,rfl⟩;obtain⟨R,hR⟩:∃R,at0 (appS B.long l n A) (i,e)=R:=⟨_,rfl⟩;have hX1:∀a j,X = .inl (a,j)->(e=0/\i<=j)/\j<=l.length/\R=lop A (sApp B.long l) n a j/\l.length-j+1<=n:=fun a j hX=>by
  rw[<- hXq] at hX
  by_cases he:e=0
  ·subst he
   rw[qG] at hX hR;have h1:=hA i hi;rw[hX] at h1;have h1:i<j/\j<=l.length:=h1;have:=hn rfl;refine⟨⟨rfl,by omega⟩,h1.2,?_,by omega⟩;rw[<- hR];unfold appS lopS;rw[hX]
   rfl
  ·rw[qM _ he] at hX
   cases hX
 have hX2:∀p r,X = .inr (p,r)->¬r=0/\R = .inr (p,r):=fun p r hX=>by
  rw[<- hXq] at hX
  by_cases he:e=0
  ·subst he
   rw[qG] at hX hR;refine⟨(hA i hi).ne hX,?_⟩;rw[<- hR];unfold appS lopS;rw[hX]
   rfl
  ·rw[qM _ he] at hX hR
   rw[<- hR,hX];injection hX with hX;injection hX with _ hX;exact⟨by rw[<- hX];exact he,rfl⟩
 have hXl:rI X<=l.length:=by
  rw[<- hXq]
  by_cases he:e=0
  ·subst he
   rw[qG];have h1:=hA i hi
   cases hX:A i with
   | inl r=>rw[hX] at h1;exact h1.2
   | inr r=>rw[hX] at h1;exact h1.2.1
  ·rw[qM _ he];exact hi
 have hfin:∀(P:Option Addr) (d:Bool) (w1:World),((¬(e=0/\(hdE B.long l i).any=true)/\d=false/\Psr w1 b v i e)\/(e=0/\(hdE B.long l i).any=true/\Psr w1 b v (rI (A i)) (rE (A i))/\∀t m,A i = .inl (t,m)->d=true/\NewT W0 w1 (.pointer P) t))->
   (d=true->Psr w1 b v (rI X) (rE X)/\∀t m,X = .inl (t,m)->NewT W0 w1 (.pointer P) t)/\(d=false->∃i1 e1,Psr w1 b v i1 e1/\i1=rI X/\(if e1=0 then 6 else e1)=rE X/\∀t m,X≠.inl (t,m)):=fun P d w1 h3=>by
  rcases h3 with ⟨h9,h10,h11⟩ | ⟨rfl,h9,h10,h11⟩
  ·refine⟨fun hd=>(by rw[h10] at hd;cases hd),fun _=>⟨i,e,h11,?_⟩⟩
   rw[<- hXq]
   by_cases he:e=0
   ·subst he
    have ha:(hdE B.long l i).any=false:=by
     cases ha:(hdE B.long l i).any with
     | false=>rfl
     | true=>exact absurd ⟨rfl,ha⟩ h9
    rw[qG,hA0 i ha];exact⟨rfl,rfl,fun t m h=>by cases h⟩
   ·rw[qM _ he]
    exact⟨rfl,if_neg he,fun t m h=>by cases h⟩
  ·rw[qG] at hXq
   rw[<- hXq];refine⟨fun _=>⟨h10,fun t m ht=>(h11 t m ht).2⟩,fun hd=>?_⟩
   cases hX:A i with
   | inl r=>rw[(h11 r.1 r.2 hX).1] at hd;cases hd
   | inr r=>
    rw[hX] at h10;exact⟨r.1,r.2,h10,rfl,if_neg ((hA i hi).ne hX),fun t m h=>by cases h⟩
 rw[hR];have HA:=Lib.hid hA;have HA1:=Lib.hid hA1;have HX1:=Lib.hid hX1;have HX2:=Lib.hid hX2;have HGU:=Lib.hid hgU;have HCA:=Lib.hid cA;have HFIN:=Lib.hid hfin;have B1:=Lib.hid b1;have UZ:=Lib.hid u0;have HW0:=Lib.hid hW0;have z0:W0.heap.size=w.heap.size+1:=by rw[<- hW0];simp
 clear hA hA0 hA1 hX1 hX2 hgU cA hfin b1 u0 hW0 h hu hR hXq hn Q
 go_enter Tryz.func257,Tryz.ntmps257
 go_wp2_with fail;rw[HW0.out];refine c0.mono ?_;rintro en w1 ⟨P1,d1,rfl,g1,h3⟩;have hf:=HFIN.out P1 d1 w1 h3;have r1:w1.heap[w.heap.size]? = some (.cells #[.pointer (some ⟨b,0,none⟩)] 183 (0,0)):=g1.row B1.out (by unfold On;omega);have c1:w1.cell? ⟨w.heap.size,0,none⟩=some (.pointer (some ⟨b,0,none⟩)):=cell_of_row w1 w.heap.size 0 _ _ _ r1;have hb1:=qC r1;have R1:=Lib.hid r1;have G1:=Lib.hid g1;have HF:=Lib.hid hf;have key:∀(w2:World),Gs (On b) W0 w2->Psr w2 b v (rI X) (rE X)->Calls Tryz.prog 260 #[.agg #[.pointer (some ⟨b,0,none⟩)]] w2 (AtP l A b v (rI X) (rE X) w2):=fun w2 g p=>
  HCA.out (rI X) (rE X) w2 hXl (fun h0=>by
   cases X with
   | inl r=>exact(HX1.out r.1 r.2 rfl).1
   | inr r=>exact absurd h0 (HX2.out r.1 r.2 rfl).1) (HGU.out w2 g) p
 have KEY:=Lib.hid key;clear r1 g1 h3 hf key c0
 cases d1 with
 | true=>
  have hf:=HF.out.1 rfl;have G2:=Lib.hid G1.out;have HN2:Hid (∀t m,X = .inl (t,m)->NewT W0 w1 (.pointer P1) t):=Lib.hid hf.2;have cN:=KEY.out w1 G1.out hf.1;clear hf;go_wp2_with fail;refine cN.mono ?_;rintro en w3 hAT;have hAT':=hAT;obtain⟨P3,d3,rfl,g3,-⟩:=hAT';have hst:ApQ i e l b v R A w w3 (.pointer P1) (.pointer P3) (.bool d3):=by
   refine ApQ.of (f:=n) (g:=fun a=>a) (by have:=UZ.out.size;have:=G2.out.size;omega) (fun a j hX=>?_) HX2.out hAT;obtain⟨h8,h4,h5,h6⟩:=HX1.out a j hX;exact⟨h8,h4,h5,h6,((HN2.out a j hX).base UZ.out.size).gsb g3 hb⟩
  have HST:=Lib.hid hst;have G3:=Lib.hid (G2.out.trans g3);clear hst hAT g3 cN;go_wp2_with fail
  go_loopw [3,5,6] (fun nv xv iv wr=>Gs (On b) W0 wr/\ApQ i e l b v R A w wr nv xv iv) (fun _ _ iv wr=>boolN iv (l.length+1-posW b wr))
  case atStart=>exact⟨G3.out,HST.out⟩
  case round=>
   obtain⟨hg,hst⟩:=hrel;have hgs:=hg.size;have r1:wr.heap[w.heap.size]? = some (.cells #[.pointer (some ⟨b,0,none⟩)] 183 (0,0)):=hg.row B1.out (by unfold On;omega);have HR1:=Lib.hid r1;have HG:=Lib.hid hg;clear r1 hg
   cases hst with
   | bad p r N0 P0 hr hRe hnv hxv hiv hp=>
    subst hnv hxv hiv;have HP:=Lib.hid hp;have HRR:=Lib.hid hRe;clear hp hRe hr;go_wp2_with fail
    go_ret
    refine⟨N0,rfl,(Gs.of UZ.out).trans HG.out,?_⟩;rw[HRR.out];exact HP.out
   | good a j f P0 d hij hj hRl hf hnw hxv hiv hp=>
    subst hxv hiv;obtain⟨o1,p1,rfl⟩:=InT.ptr hnw;have HP:=Lib.hid hp;have HN:=Lib.hid hnw;have HRR:=Lib.hid hRl;clear hp hnw hRl;obtain⟨f,rfl⟩:∃g,f=g+1:=⟨f-1,by omega⟩
    cases d with
    | false=>
     go_wp2_with fail
     go_ret
     refine PaT.mk ((Gs.of UZ.out).trans HG.out) ?_ fun t m hRt=>?_
     ·rcases HP.out with ⟨h1,_,h3⟩ | ⟨h1,h2,h3⟩
      ·have hRR:R = .inl (a,j):=by rw[HRR.out];unfold lop;rw[sL h1]
       rw[hRR];exact h3
      ·cases hY:A j with
       | inl r=>have:=(h3 r.1 r.2 hY).1;cases this
       | inr r=>
        rw[hY] at h2;have hRR:R = .inr r:=by rw[HRR.out];unfold lop;rw[wU h1];simp only[Nat.add_zero];rw[hY];rfl
        rw[hRR];exact h2
     ·rcases HP.out with ⟨h1,_,h3⟩ | ⟨h1,h2,h3⟩
      ·have hRR:R = .inl (a,j):=by rw[HRR.out];unfold lop;rw[sL h1]
       rw[hRR] at hRt;injection hRt with hRt;injection hRt with e1 e2;rw[<- e1];exact HN.out
      ·cases hY:A j with
       | inl r=>have:=(h3 r.1 r.2 hY).1;cases this
       | inr r=>
        have hRR:R = .inr r:=by rw[HRR.out];unfold lop;rw[wU h1];simp only[Nat.add_zero];rw[hY];rfl
        rw[hRR] at hRt
        cases hRt
    | true=>
     have hany:(hdE B.long l j).any=true:=by
      rcases HP.out with ⟨_,h2,_⟩ | ⟨h1,_,_⟩
      ·cases h2
      ·exact h1
     have hps:Psr wr b v (rI (A j)) (rE (A j))/\∀t m,A j = .inl (t,m)->NewT w wr (.pointer P0) t:=by
      rcases HP.out with ⟨_,h2,_⟩ | ⟨_,h2,h3⟩
      ·cases h2
      ·exact⟨h2,fun t m ht=>(h3 t m ht).2⟩
     have hRR:R=thn (A j) fun b m=>lop A (sApp B.long l) f (⟨25,0,nob,nob⟩,fr2 a b) m:=by
      rw[HRR.out]
      conv=>lhs;unfold lop;rw[wU hany]
      rfl
     have hin:=HA.out j hj;have hlt:=HA1.out j hany;have hpos:=hps.1.pos;obtain⟨Y,hY⟩:∃Y,A j=Y:=⟨_,rfl⟩;rw[hY] at hps hRR hin hlt hpos;have hYl:rI Y<=l.length:=by
      cases Y with
      | inl r=>exact hin.2
      | inr r=>exact hin.2.1
     have HPS:=Lib.hid hps;have HRR2:=Lib.hid hRR;have HIN:=Lib.hid hin;have HLT:=Lib.hid hlt;obtain⟨w4,hw4⟩:∃w4,(wr.alloc (.cells #[.pointer (some ⟨o1,p1,none⟩),.pointer P0] 24)).alloc (.cells #[.int .i64 25,.int .i64 0,.string ⟨#[]⟩,.string ⟨#[]⟩,.slice (some ⟨wr.heap.size,0,none⟩) 2 2] 44)=w4:=⟨_,rfl⟩;have u4:Up wr w4:=by rw[<- hw4];exact((Up.refl _).alloc _).alloc _
     have hwz:w.heap.size<=wr.heap.size:=by omega
     have hnd:∀b' m,Y = .inl (b',m)->NewT w w4 (.pointer (some ⟨wr.heap.size+1,0,none⟩)) (⟨25,0,nob,nob⟩,fr2 a b'):=fun b' m hYe=>by
      have h2:=zKl (k:=25) (s:=nob) hwz HN.out (HPS.out.2 b' m hYe);rw[show nob=(⟨#[]⟩:ByteArray) from rfl,hw4] at h2;exact h2
     have r4:w4.heap[w.heap.size]? = some (.cells #[.pointer (some ⟨b,0,none⟩)] 183 (0,0)):=u4.row HR1.out;have c4:w4.cell? ⟨w.heap.size,0,none⟩=some (.pointer (some ⟨b,0,none⟩)):=cell_of_row w4 w.heap.size 0 _ _ _ r4;have hb4:=qC r4;have G4:=Lib.hid (HG.out.trans (Gs.of u4));have cO:=HCA.out (rI Y) (rE Y) w4 hYl (fun h0=>by
      cases Y with
      | inl r=>exact⟨hij.1,by have:=hin.1;show i<=r.2;omega⟩
      | inr r=>exact absurd h0 (hin.ne rfl)) (HGU.out w4 G4.out) (hps.1.up u4)
     have HND:=Lib.hid hnd;have HW4:=Lib.hid hw4;clear hps hRR hin hlt hnd u4 r4 hw4 hYl hY;go_wp2_with fail;refine(kL 25 _ _ _ _).mono ?_;rintro en w4' ⟨rfl,rfl⟩;rw[World.size_alloc,HW4.out];go_wp2_with fail;refine cO.mono ?_;rintro en w5 hAT;have hAT':=hAT;obtain⟨P5,d5,rfl,g5,h5⟩:=hAT';have hst:ApQ i e l b v R A w w5 (.pointer (some ⟨wr.heap.size+1,0,none⟩)) (.pointer P5) (.bool d5):=by
      refine ApQ.of (f:=f) (g:=fun b'=>(⟨25,0,nob,nob⟩,fr2 a b')) (by have:=G4.out.size;omega) (fun b' m hYe=>?_) (fun p r hYe=>?_) hAT
      ·have h1:=HIN.out
       have hR:=HRR2.out;rw[hYe] at h1 hR;have h1:j<m/\m<=l.length:=h1;exact⟨⟨hij.1,by omega⟩,h1.2,hR,by omega,(HND.out b' m hYe).gsb g5 hb⟩
      ·have hR:=HRR2.out
       rw[hYe] at hR;exact⟨HIN.out.ne hYe,hR⟩
     have hls:boolN (.bool d5) (l.length+1-posW b w5)<boolN (.bool true) (l.length+1-posW b wr):=by
      rw[hpos];refine hU (by have:=HIN.out;cases Y with
       | inl r=>have:=this.2;show 0<l.length+1-r.2;omega
       | inr r=>have:=this.2.1;show 0<l.length+1-r.1;omega) fun hs=>?_
      rcases h5 with ⟨_,h6,_⟩ | ⟨_,h6,h7,_⟩
      ·rw[h6] at hs;cases hs
      ·rw[h7.pos]
       have h8:=HA1.out (rI Y) h6;have h9:rI (A (rI Y))<=l.length\/l.length<rI (A (rI Y)):=by omega
       have h10:rI Y<=l.length:=by
        have:=HIN.out
        cases Y with
        | inl r=>exact this.2
        | inr r=>exact this.2.1
       have h11:=HA.out (rI Y) h10;have h12:rI (A (rI Y))<=l.length:=by
        cases hZ:A (rI Y) with
        | inl r=>rw[hZ] at h11;exact h11.2
        | inr r=>rw[hZ] at h11;exact h11.2.1
       omega
     have HST:=Lib.hid hst;have HLS:=Lib.hid hls;have G5:=Lib.hid (G4.out.trans g5);clear hst hAT g5 h5 hls cO c4;go_wp2_with fail;exact⟨⟨G5.out,HST.out⟩,HLS.out⟩
 | false=>
  obtain⟨i1,e1,p1,hi1,he1,hno⟩:=HF.out.2 rfl;have cF:=vZ b v i1 e1 6 w1 p1;obtain⟨E2,hE2⟩:∃E2,(if e1=0 then 6 else e1)=E2:=⟨_,rfl⟩;rw[hE2] at cF he1;have HI1:=Lib.hid hi1;have HE1:=Lib.hid he1;have HNO:=Lib.hid hno;clear hi1 he1 hno hE2 p1;go_wp2_with fail;refine cF.mono ?_;rintro en w2 ⟨⟨u,rfl⟩,g2,p2⟩;have hps2:Psr w2 b v (rI X) (rE X):=by rw[<- HI1.out,<- HE1.out];exact p2
  have G2:=Lib.hid (G1.out.trans g2);have HN2:Hid (∀t m,X = .inl (t,m)->NewT W0 w2 (.pointer P1) t):=Lib.hid fun t m h=>absurd h (HNO.out t m)
  have cN:=KEY.out w2 G2.out hps2;have r2:w2.heap[w.heap.size]? = some (.cells #[.pointer (some ⟨b,0,none⟩)] 183 (0,0)):=g2.row R1.out (by unfold On;omega);have c2:w2.cell? ⟨w.heap.size,0,none⟩=some (.pointer (some ⟨b,0,none⟩)):=cell_of_row w2 w.heap.size 0 _ _ _ r2;have hb2:=qC r2;clear g2 p2 r2 hps2 c1 cF;go_wp2_with fail;refine cN.mono ?_;rintro en w3 hAT;have hAT':=hAT;obtain⟨P3,d3,rfl,g3,-⟩:=hAT';have hst:ApQ i e l b v R A w w3 (.pointer P1) (.pointer P3) (.bool d3):=by
   refine ApQ.of (f:=n) (g:=fun a=>a) (by have:=UZ.out.size;have:=G2.out.size;omega) (fun a j hX=>?_) HX2.out hAT;obtain⟨h8,h4,h5,h6⟩:=HX1.out a j hX;exact⟨h8,h4,h5,h6,((HN2.out a j hX).base UZ.out.size).gsb g3 hb⟩
  have HST:=Lib.hid hst;have G3:=Lib.hid (G2.out.trans g3);clear hst hAT g3 cN;go_wp2_with fail
  go_loopw [3,5,6] (fun nv xv iv wr=>Gs (On b) W0 wr/\ApQ i e l b v R A w wr nv xv iv) (fun _ _ iv wr=>boolN iv (l.length+1-posW b wr))
  case atStart=>exact⟨G3.out,HST.out⟩
  case round=>
   obtain⟨hg,hst⟩:=hrel;have hgs:=hg.size;have r1:wr.heap[w.heap.size]? = some (.cells #[.pointer (some ⟨b,0,none⟩)] 183 (0,0)):=hg.row B1.out (by unfold On;omega);have HR1:=Lib.hid r1;have HG:=Lib.hid hg;clear r1 hg
   cases hst with
   | bad p r N0 P0 hr hRe hnv hxv hiv hp=>
    subst hnv hxv hiv;have HP:=Lib.hid hp;have HRR:=Lib.hid hRe;clear hp hRe hr;go_wp2_with fail
    go_ret
    refine⟨N0,rfl,(Gs.of UZ.out).trans HG.out,?_⟩;rw[HRR.out];exact HP.out
   | good a j f P0 d hij hj hRl hf hnw hxv hiv hp=>
    subst hxv hiv;obtain⟨o1,p1,rfl⟩:=InT.ptr hnw;have HP:=Lib.hid hp;have HN:=Lib.hid hnw;have HRR:=Lib.hid hRl;clear hp hnw hRl;obtain⟨f,rfl⟩:∃g,f=g+1:=⟨f-1,by omega⟩
    cases d with
    | false=>
     go_wp2_with fail
     go_ret
     refine PaT.mk ((Gs.of UZ.out).trans HG.out) ?_ fun t m hRt=>?_
     ·rcases HP.out with ⟨h1,_,h3⟩ | ⟨h1,h2,h3⟩
      ·have hRR:R = .inl (a,j):=by rw[HRR.out];unfold lop;rw[sL h1]
       rw[hRR];exact h3
      ·cases hY:A j with
       | inl r=>have:=(h3 r.1 r.2 hY).1;cases this
       | inr r=>
        rw[hY] at h2;have hRR:R = .inr r:=by rw[HRR.out];unfold lop;rw[wU h1];simp only[Nat.add_zero];rw[hY];rfl
        rw[hRR];exact h2
     ·rcases HP.out with ⟨h1,_,h3⟩ | ⟨h1,h2,h3⟩
      ·have hRR:R = .inl (a,j):=by rw[HRR.out];unfold lop;rw[sL h1]
       rw[hRR] at hRt;injection hRt with hRt;injection hRt with e1 e2;rw[<- e1];exact HN.out
      ·cases hY:A j with
       | inl r=>have:=(h3 r.1 r.2 hY).1;cases this
       | inr r=>
        have hRR:R = .inr r:=by rw[HRR.out];unfold lop;rw[wU h1];simp only[Nat.add_zero];rw[hY];rfl
        rw[hRR] at hRt
        cases hRt
    | true=>
     have hany:(hdE B.long l j).any=true:=by
      rcases HP.out with ⟨_,h2,_⟩ | ⟨h1,_,_⟩
      ·cases h2
      ·exact h1
     have hps:Psr wr b v (rI (A j)) (rE (A j))/\∀t m,A j = .inl (t,m)->NewT w wr (.pointer P0) t:=by
      rcases HP.out with ⟨_,h2,_⟩ | ⟨_,h2,h3⟩
      ·cases h2
      ·exact⟨h2,fun t m ht=>(h3 t m ht).2⟩
     have hRR:R=thn (A j) fun b m=>lop A (sApp B.long l) f (⟨25,0,nob,nob⟩,fr2 a b) m:=by
      rw[HRR.out]
      conv=>lhs;unfold lop;rw[wU hany]
      rfl
     have hin:=HA.out j hj;have hlt:=HA1.out j hany;have hpos:=hps.1.pos;obtain⟨Y,hY⟩:∃Y,A j=Y:=⟨_,rfl⟩;rw[hY] at hps hRR hin hlt hpos;have hYl:rI Y<=l.length:=by
      cases Y with
      | inl r=>exact hin.2
      | inr r=>exact hin.2.1
     have HPS:=Lib.hid hps;have HRR2:=Lib.hid hRR;have HIN:=Lib.hid hin;have HLT:=Lib.hid hlt;obtain⟨w4,hw4⟩:∃w4,(wr.alloc (.cells #[.pointer (some ⟨o1,p1,none⟩),.pointer P0] 24)).alloc (.cells #[.int .i64 25,.int .i64 0,.string ⟨#[]⟩,.string ⟨#[]⟩,.slice (some ⟨wr.heap.size,0,none⟩) 2 2] 44)=w4:=⟨_,rfl⟩;have u4:Up wr w4:=by rw[<- hw4];exact((Up.refl _).alloc _).alloc _
     have hwz:w.heap.size<=wr.heap.size:=by omega
     have hnd:∀b' m,Y = .inl (b',m)->NewT w w4 (.pointer (some ⟨wr.heap.size+1,0,none⟩)) (⟨25,0,nob,nob⟩,fr2 a b'):=fun b' m hYe=>by
      have h2:=zKl (k:=25) (s:=nob) hwz HN.out (HPS.out.2 b' m hYe);rw[show nob=(⟨#[]⟩:ByteArray) from rfl,hw4] at h2;exact h2
     have r4:w4.heap[w.heap.size]? = some (.cells #[.pointer (some ⟨b,0,none⟩)] 183 (0,0)):=u4.row HR1.out;have c4:w4.cell? ⟨w.heap.size,0,none⟩=some (.pointer (some ⟨b,0,none⟩)):=cell_of_row w4 w.heap.size 0 _ _ _ r4;have hb4:=qC r4;have G4:=Lib.hid (HG.out.trans (Gs.of u4));have cO:=HCA.out (rI Y) (rE Y) w4 hYl (fun h0=>by
      cases Y with
      | inl r=>exact⟨hij.1,by have:=hin.1;show i<=r.2;omega⟩
      | inr r=>exact absurd h0 (hin.ne rfl)) (HGU.out w4 G4.out) (hps.1.up u4)
     have HND:=Lib.hid hnd;have HW4:=Lib.hid hw4;clear hps hRR hin hlt hnd u4 r4 hw4 hYl hY;go_wp2_with fail;refine(kL 25 _ _ _ _).mono ?_;rintro en w4' ⟨rfl,rfl⟩;rw[World.size_alloc,HW4.out];go_wp2_with fail;refine cO.mono ?_;rintro en w5 hAT;have hAT':=hAT;obtain⟨P5,d5,rfl,g5,h5⟩:=hAT';have hst:ApQ i e l b v R A w w5 (.pointer (some ⟨wr.heap.size+1,0,none⟩)) (.pointer P5) (.bool d5):=by
      refine ApQ.of (f:=f) (g:=fun b'=>(⟨25,0,nob,nob⟩,fr2 a b')) (by have:=G4.out.size;omega) (fun b' m hYe=>?_) (fun p r hYe=>?_) hAT
      ·have h1:=HIN.out
       have hR:=HRR2.out;rw[hYe] at h1 hR;have h1:j<m/\m<=l.length:=h1;exact⟨⟨hij.1,by omega⟩,h1.2,hR,by omega,(HND.out b' m hYe).gsb g5 hb⟩
      ·have hR:=HRR2.out
       rw[hYe] at hR;exact⟨HIN.out.ne hYe,hR⟩
     have hls:boolN (.bool d5) (l.length+1-posW b w5)<boolN (.bool true) (l.length+1-posW b wr):=by
      rw[hpos];refine hU (by have:=HIN.out;cases Y with
       | inl r=>have:=this.2;show 0<l.length+1-r.2;omega
       | inr r=>have:=this.2.1;show 0<l.length+1-r.1;omega) fun hs=>?_
      rcases h5 with ⟨_,h6,_⟩ | ⟨_,h6,h7,_⟩
      ·rw[h6] at hs;cases hs
      ·rw[h7.pos]
       have h8:=HA1.out (rI Y) h6;have h9:rI (A (rI Y))<=l.length\/l.length<rI (A (rI Y)):=by omega
       have h10:rI Y<=l.length:=by
        have:=HIN.out
        cases Y with
        | inl r=>exact this.2
        | inr r=>exact this.2.1
       have h11:=HA.out (rI Y) h10;have h12:rI (A (rI Y))<=l.length:=by
        cases hZ:A (rI Y) with
        | inl r=>rw[hZ] at h11;exact h11.2
        | inr r=>rw[hZ] at h11;exact h11.2.1
       omega
     have HST:=Lib.hid hst;have HLS:=Lib.hid hls;have G5:=Lib.hid (G4.out.trans g5);clear hst hAT g5 h5 hls cO c4;go_wp2_with fail;exact⟨⟨G5.out,HST.out⟩,HLS.out⟩
end
def inS (l:List Te) (E:Nat->Rs Tr) (i:Nat):Rs Tr:=if key (tks l) i kShut then .inl (nd 22 nob .nil,i) else thn (E i) fun a j=>
    if key (tks l) j yN then thn (E (j+1)) fun b m=>.inl (nd 26 nob (fr2 a b),m) else .inl (a,j)
theorem zKp (l:List Te) (E:Nat->Rs Tr) (i:Nat):(if key (tks l) i kShut then .inl (nd 22 nob .nil,i+1) else thn (E i) fun a j=>
  if key (tks l) j yN then thn (thenK (tks l) (E (j+1)) [kShut]) fun b m=>.inl (nd 26 nob (fr2 a b),m)
  else thn (keysL (tks l) j [kShut]) fun _ m=>.inl (a,m):Rs Tr)=thenK (tks l) (inS l E i) [kShut]:=by
 unfold inS
 cases hk:key (tks l) i kShut with
 | true=>
  rw[if_pos rfl,if_pos rfl]
  show _=thn (keysL (tks l) i [kShut]) _
  unfold keysL keysL;rw[hk]
  rfl
 | false=>
  rw[if_neg (by decide),if_neg (by decide)]
  cases E i with
  | inr r=>rfl
  | inl r=>
   show(if key (tks l) r.2 yN then _ else _:Rs Tr)=thenK _ (if key (tks l) r.2 yN then _ else _:Rs Tr) _
   cases key (tks l) r.2 yN with
   | false=>rfl
   | true=>
    rw[if_pos rfl,if_pos rfl]
    cases E (r.2+1) with
    | inr q=>rfl
    | inl q=>
     show thn (thn (keysL (tks l) q.2 [kShut]) _) _=thn (keysL (tks l) q.2 [kShut]) _
     cases keysL (tks l) q.2 [kShut]<;>rfl
theorem zKq {l:List Te} {E:Nat->Rs Tr} (hE:∀j,j<=l.length->In l.length j (E j)) {i:Nat} (hi:i<=l.length):NeO (inS l E i):=by
 unfold inS
 split
 ·exact nD _ _
 ·refine lP (NeO.of_in (hE i hi)) fun a j hj=>?_
  have h1:=hE i hi;rw[hj] at h1;have h1:i<j/\j<=l.length:=h1
  split
  ·rename_i hk
   exact lP (NeO.of_in (hE (j+1) (qF hk))) fun _ _ _=>nD _ _
  ·exact nD _ _
theorem zKr {l:List Te} {E:Nat->Rs Tr} (hE:∀j,j<=l.length->In l.length j (E j)) {i:Nat} (hi:i<=l.length):rI (inS l E i)<=l.length:=by
 unfold inS
 split
 ·exact hi
 ·have h1:=hE i hi
  cases hX:E i with
  | inr r=>rw[hX] at h1;exact h1.2.1
  | inl r=>
   rw[hX] at h1
   show rI (if key (tks l) r.2 yN then _ else _:Rs Tr)<=_
   split
   ·rename_i hk
    have h2:=hE (r.2+1) (qF hk)
    cases hY:E (r.2+1) with
    | inr q=>rw[hY] at h2;exact h2.2.1
    | inl q=>rw[hY] at h2;exact h2.2
   ·exact h1.2
theorem has0 {W w:World} {k:Int} {s:ByteArray} (hW:W.heap.size<=w.heap.size):NewT W (w.alloc (.cells #[.int .i64 k,.int .i64 0,.string s,.string ⟨#[]⟩,.slice none 0 0] 44)) (.pointer (some ⟨w.heap.size,0,none⟩)) (nd k s .nil):=
 kR (x:=⟨k,0,s,nob⟩) (heap_alloc_new w _) ⟨hW,by simp⟩
section
variable {V0:World} {v:Value} {l:List Te} {b:Nat}
theorem zRn (Q:Px8 V0 v l b) (E:Nat->Rs Tr) (hE:∀j,j<=l.length->In l.length j (E j)) (wb:World) (i:Nat) (hi:i<=l.length) (B1 B2:Nat) (A0:Option Addr) (w:World) (hz:wb.heap.size<=w.heap.size) (hbb:b<wb.heap.size) (hbw:b≠B2) (h12:B1≠B2) (h1b:B1≠b) (hV2:V0.heap.size<=B2)
  (c1:w.heap[B1]? = some (.cells #[.pointer (some ⟨b,0,none⟩)] 183 (0,0))) (b2:Boxed w B2 24 (.pointer A0)) (h:Psr w b v i 0) (hu:Up V0 w) (cE:∀j,i<=j->j<=l.length->RuAt V0 v b 191 E j 0) :
  Calls Tryz.prog 269 #[.pointer (some ⟨B1,0,none⟩),.pointer (some ⟨B2,0,none⟩)] w (InL (Two b B2) b v (rI (inS l E i)) (rE (inS l E i)) (P1 wb B2 (inS l E i)) w):=by
 have hll:=Q.hl;have hbV:=Q.hb;have hB2:=b2.lt;have hB1:=qC c1;have k1:w.cell? ⟨B1,0,none⟩=some (.pointer (some ⟨b,0,none⟩)):=cell_of_row w B1 0 _ _ _ c1;have cS:=yW b v i 0 kShut w Q.T h hu;rw[qQ] at cS;have hS2:∀q,Two b B2 q->V0.heap.size<=q:=fun q hq=>by rcases hq with hq | hq<;>omega
 have HS2:=Lib.hid hS2;have HC1:=Lib.hid c1;have HB2:=Lib.hid b2;have HP:=Lib.hid h;have HU:=Lib.hid hu;have HQ:=Lib.hid Q;have HCE:=Lib.hid cE;have HIN:=Lib.hid (hE i hi);have HE:=Lib.hid hE;have fin:∀(w2:World) (A:Option Addr) (t:Tr) (WF:World),Gs (Two b B2) w w2->Boxed w2 B2 24 (.pointer (A0:Option Addr))\/(∃A',Boxed w2 B2 24 (.pointer A'))->w2.setCell ⟨B2,0,none⟩ (.pointer A)=WF->(∀(i2:Nat) (e2:Int),Psr w2 b v i2 e2->Psr WF b v i2 e2)/\Gs (Two b B2) w WF/\Boxed WF B2 24 (.pointer A)/\(NewT w w2 (.pointer A) t->InT WF (fun q=>NewS wb WF q/\q≠B2) (.pointer A) t):=fun w2 A t WF g bx hWF=>by
  have hne:∀q,q≠B2->WF.heap[q]? = w2.heap[q]?:=fun q hq=>by rw[<- hWF];exact Below.heap_setCell _ _ _ _ hq
  have hs:WF.heap.size=w2.heap.size:=by rw[<- hWF];simp[World.setCell]
  refine⟨fun i2 e2 p=>(hne b hbw).trans p,by rw[<- hWF];exact g.set _ _ (.inl (.inr rfl)),?_,fun hn=>InT.keep hn (fun q hq=>⟨⟨by have:=hq.1;omega,by rw[hs];exact hq.2⟩,by have:=hq.1;omega⟩) fun q hq=>hne q (by have:=hq.1;omega)⟩
  rcases bx with bx | ⟨A',bx⟩
  ·rw[<- hWF];exact bx.set _
  ·rw[<- hWF];exact bx.set _
 have HFIN:=Lib.hid fin;clear c1 b2 h hu Q cE hE fin hS2
 cases hk:key (tks l) i kShut with
 | true=>
  rw[hk] at cS;have hR:inS l E i = .inl (nd 22 nob .nil,i):=by unfold inS;rw[hk];rfl
  rw[hR];clear hk hR
  go_enter Tryz.func269,Tryz.ntmps269
  go_wp2_with fail;refine cS.mono ?_;rintro en w1 ⟨rfl,u1⟩;have U1:=Lib.hid (show Up w w1 from u1);clear u1;go_wp2_with fail;refine(kL 22 _ _ _ _).mono ?_;rintro en w2 ⟨rfl,h2⟩;have u2:Up w w2:=by rw[h2];exact U1.out.alloc _
  have bx:Boxed w2 B2 24 (.pointer A0):=u2.row HB2.out;have c2:=bx.cell;have f2:=bx.frozen;have hb2:=bx.lt;have n2:NewT w w2 (.pointer (some ⟨w1.heap.size,0,none⟩)) (nd 22 nob .nil):=by rw[h2];exact has0 U1.out.size
  have BX:=Lib.hid bx;have N2:=Lib.hid n2;have U2:=Lib.hid u2;clear bx n2 u2 h2;go_wp2_with fail;go_end0;obtain⟨f1,f2,f3,f4⟩:=HFIN.out w2 _ (nd 22 nob .nil) _ (Gs.of U2.out) (.inl BX.out) rfl;exact⟨⟨_,rfl⟩,f2,f1 i 0 (HP.out.up U2.out),_,f3,fun t j ht=>by injection ht with ht;injection ht with e1 e2;rw[<- e1];exact f4 N2.out⟩
 | false=>
  rw[hk] at cS;have HK:=Lib.hid hk;have cX:=fun(w1:World) (u1:Up w w1)=>HCE.out i (Nat.le_refl _) hi w1 (HU.out.trans u1) (HP.out.up u1)
  rw[qG] at cX;obtain⟨X,hX⟩:∃X,E i=X:=⟨_,rfl⟩;rw[hX] at cX;have HX:=Lib.hid hX;have hR:inS l E i=thn X fun a j=>if key (tks l) j yN then thn (E (j+1)) fun b m=>.inl (nd 26 nob (fr2 a b),m) else .inl (a,j):=by
   unfold inS;rw[hk,if_neg (by decide),hX]
  have HR:=Lib.hid hR;have hXl:rI X<=l.length:=by
   have h1:=HIN.out;rw[hX] at h1
   cases X with
   | inl r=>exact h1.2
   | inr r=>exact h1.2.1
  obtain⟨R,hRe⟩:∃R,inS l E i=R:=⟨_,rfl⟩;rw[hRe] at HR ⊢;obtain⟨cm,hcm⟩:∃cm,tkB (tks l) (rI X) (rE X) yN=cm:=⟨_,rfl⟩;have HCM:=Lib.hid hcm;have HCX:=Lib.hid cX;clear hk hX hR cX hRe hcm
  cases cm with
  | false=>
   have hRX:R=X:=by
    rw[HR.out]
    cases X with
    | inr r=>rfl
    | inl r=>
     have h:=HCM.out;simp only[rI,rE] at h;rw[qQ] at h
     show(if key (tks l) r.2 yN then _ else _:Rs Tr)=_
     rw[h]
     rfl
   have HRX:=Lib.hid hRX;clear hRX
   go_enter Tryz.func269,Tryz.ntmps269
   go_wp2_with fail;refine cS.mono ?_;rintro en w1 ⟨rfl,u1⟩;have k2:=(show Up w w1 from u1).cell k1;have U1:=Lib.hid (show Up w w1 from u1);clear u1;go_wp2_with fail;refine(HCX.out w1 U1.out).mono ?_;rintro en w2 hP2;obtain⟨A2,rfl,g2,p2,n2⟩:=hP2.psr;have bx:Boxed w2 B2 24 (.pointer A0):=g2.row (U1.out.row HB2.out) (by unfold On;omega);have c2:=bx.cell;have f2:=bx.frozen;have hb2:=bx.lt;have r2:w2.heap[B1]? = some (.cells #[.pointer (some ⟨b,0,none⟩)] 183 (0,0)):=g2.row (U1.out.row HC1.out) (by unfold On;omega);obtain⟨WF,hWF⟩:∃WF,w2.setCell ⟨B2,0,none⟩ (.pointer A2)=WF:=⟨_,rfl⟩;have g02:Gs (Two b B2) w w2:=((Gs.of U1.out:Gs (On b) w w1).trans g2).two;have hfin:=fun t=>HFIN.out w2 A2 t WF g02 (.inl bx) hWF
   have k22:w2.cell? ⟨B1,0,none⟩=some (.pointer (some ⟨b,0,none⟩)):=cell_of_row w2 B1 0 _ _ _ r2;have hb12:=qC r2;have r3:WF.heap[B1]? = some (.cells #[.pointer (some ⟨b,0,none⟩)] 183 (0,0)):=by rw[<- hWF];exact(Below.heap_setCell _ _ _ _ h12).trans r2
   have k3:WF.cell? ⟨B1,0,none⟩=some (.pointer (some ⟨b,0,none⟩)):=cell_of_row WF B1 0 _ _ _ r3;have hb13:=qC r3;obtain⟨f1,f2',f3,-⟩:=hfin (nd 22 nob .nil);have cT:=qP b v (rI X) (rE X) yN WF HQ.out.T (f1 _ _ p2) (f2'.up HU.out HS2.out) (by omega);rw[HCM.out] at cT;have HWF:=Lib.hid hWF;have HFN:=Lib.hid hfin;have N2:=Lib.hid n2;have HF3:=Lib.hid f3;clear bx r2 hWF hfin n2 g2 p2 hP2 r3 f1 f2' f3 g02;go_wp2_with fail;rw[HWF.out];refine cT.mono ?_;rintro en w4 ⟨rfl,g4,p4⟩;have P4:=Lib.hid p4;have G4:=Lib.hid g4;clear p4 g4 cT;go_wp2_with fail;go_end0;rw[HRX.out];refine⟨⟨_,rfl⟩,(HFN.out (nd 22 nob .nil)).2.1.trans G4.out.two,P4.out,A2,G4.out.row HF3.out (by unfold On;omega),fun t j ht=>?_⟩;have hn:=(HFN.out t).2.2.2 ((N2.out t j ht).base U1.out.size);exact InT.keep hn (fun q hq=>⟨⟨hq.1.1,Nat.lt_of_lt_of_le hq.1.2 G4.out.size⟩,hq.2⟩) fun q hq=>G4.out.block q hq.1.2 (by have:=hq.1.1;unfold On;omega)
  | true=>
   cases X with
   | inr r=>
    have hr:¬r.2=0:=HIN.out.ne (p:=r.1) (by rw[HX.out]);have h:=HCM.out;rw[show tkB (tks l) (rI (.inr r:Rs Tr)) (rE (.inr r:Rs Tr)) yN=false from zE hr] at h
    cases h
   | inl r=>
    obtain⟨a,j⟩:=r;have hkc:key (tks l) j yN=true:=by have h:=HCM.out;simp only[rI,rE] at h;rw[qQ] at h;exact h
    have hj1:j+1<=l.length:=qF hkc;have hij:i<=j:=by have h:=HIN.out;rw[HX.out] at h;exact Nat.le_of_lt h.1
    obtain⟨Y,hY⟩:∃Y,E (j+1)=Y:=⟨_,rfl⟩;have hRY:R=thn Y fun b m=>.inl (nd 26 nob (fr2 a b),m):=by
     rw[HR.out]
     show(if key (tks l) j yN then _ else _:Rs Tr)=_
     rw[hkc,if_pos rfl,hY]
    have HRY:=Lib.hid hRY;have HY:=Lib.hid hY;clear hkc hY hRY
    go_enter Tryz.func269,Tryz.ntmps269
    go_wp2_with fail;refine cS.mono ?_;rintro en w1 ⟨rfl,u1⟩;have k2:=(show Up w w1 from u1).cell k1;have U1:=Lib.hid (show Up w w1 from u1);clear u1;go_wp2_with fail;refine(HCX.out w1 U1.out).mono ?_;rintro en w2 hP2;obtain⟨A2,rfl,g2,p2,n2⟩:=hP2.psr;have p2:Psr w2 b v j 0:=p2;have bx:Boxed w2 B2 24 (.pointer A0):=g2.row (U1.out.row HB2.out) (by unfold On;omega);have c2:=bx.cell;have f2:=bx.frozen;have hb2:=bx.lt;have r2:w2.heap[B1]? = some (.cells #[.pointer (some ⟨b,0,none⟩)] 183 (0,0)):=g2.row (U1.out.row HC1.out) (by unfold On;omega);obtain⟨WF,hWF⟩:∃WF,w2.setCell ⟨B2,0,none⟩ (.pointer A2)=WF:=⟨_,rfl⟩;have g02:Gs (Two b B2) w w2:=((Gs.of U1.out:Gs (On b) w w1).trans g2).two;obtain⟨f1,f2',f3,-⟩:=HFIN.out w2 A2 (nd 22 nob .nil) WF g02 (.inl bx) hWF;have k22:w2.cell? ⟨B1,0,none⟩=some (.pointer (some ⟨b,0,none⟩)):=cell_of_row w2 B1 0 _ _ _ r2;have hb12:=qC r2;have r3:WF.heap[B1]? = some (.cells #[.pointer (some ⟨b,0,none⟩)] 183 (0,0)):=by rw[<- hWF];exact(Below.heap_setCell _ _ _ _ h12).trans r2
    have hb13:=qC r3;have cT:=qP b v j 0 yN WF HQ.out.T (f1 _ _ p2) (f2'.up HU.out HS2.out) (by omega);rw[show tkB (tks l) j 0 yN=true from HCM.out] at cT;have hsz:WF.heap.size=w2.heap.size:=by rw[<- hWF];simp[World.setCell]
    have hwz:w.heap.size<=w2.heap.size:=g02.size;have nA:NewT w WF (.pointer A2) a:=InT.keep ((n2 a j rfl).base U1.out.size) (fun q hq=>⟨hq.1,by rw[hsz];exact hq.2⟩) fun q hq=>by rw[<- hWF];exact Below.heap_setCell _ _ _ _ (by have:=hq.1;show q≠B2;omega)
    obtain⟨o1,q1,hA2⟩:=InT.ptr nA;injection hA2 with hA2;subst hA2;have NA:=Lib.hid nA;have HWF:=Lib.hid hWF;have HF3:=Lib.hid f3;have HF2:=Lib.hid f2';have R3:=Lib.hid r3;clear bx r2 hWF n2 g2 p2 hP2 r3 f1 f2' f3 g02 nA;go_wp2_with fail;rw[HWF.out];refine cT.mono ?_;rintro en w4 ⟨rfl,g4,p4⟩;have g04:=HF2.out.trans g4.two;have bx4:Boxed w4 B2 24 (.pointer (some ⟨o1,q1,none⟩)):=g4.row HF3.out (by unfold On;omega);have c4:=bx4.cell;have f4:=bx4.frozen;have hb4:=bx4.lt;have r4:w4.heap[B1]? = some (.cells #[.pointer (some ⟨b,0,none⟩)] 183 (0,0)):=g4.row R3.out (by unfold On;omega);have k4:w4.cell? ⟨B1,0,none⟩=some (.pointer (some ⟨b,0,none⟩)):=cell_of_row w4 B1 0 _ _ _ r4;have hb14:=qC r4;have p4:Psr w4 b v (j+1) 0:=p4;have cY:=HCE.out (j+1) (by omega) hj1;have cY:∀w5,Up w4 w5->Calls Tryz.prog 191 #[.agg #[.pointer (some ⟨b,0,none⟩)]] w5 (PaT (On b) b v Y (fun _ _=>True) w5):=fun w5 u5=>by
     have c:=cY w5 ((g04.up HU.out HS2.out).trans u5) (p4.up u5);rw[qG,HY.out] at c;exact c
    have CY:=Lib.hid cY;have BX4:=Lib.hid bx4;have R4:=Lib.hid r4;have G04:=Lib.hid g04;have NA4:Hid (NewT w w4 (.pointer (some ⟨o1,q1,none⟩)) a):=Lib.hid (NA.out.gsb g4 (by omega));clear g04 bx4 r4 g4 p4 cT cY;go_wp2_with fail
    go_region_with (first
     | (go_at_call 191;refine(CY.out _ (by first | exact Below.refl _ _ | exact qE (Below.refl _ _) 1)).mono ?_;rintro e w6 hP6;obtain⟨A6,rfl,g6,p6,n6⟩:=hP6.psr;have g6:Gs (On b) w4 w6:=⟨g6.os,g6.tape,g6.output,g6.size,g6.block⟩;have bx6:Boxed w6 B2 24 (.pointer (some ⟨o1,q1,none⟩)):=g6.row BX4.out (by unfold On;omega);have c6:=bx6.cell;have f6:=bx6.frozen;have hb6:=bx6.lt;have P6:=Lib.hid p6;have N6:=Lib.hid n6;have G6:=Lib.hid g6;have BX6:=Lib.hid bx6;clear p6 n6 g6 hP6 bx6)
     | (go_at_call 217;refine(kL 26 _ _ _ _).mono ?_;rintro e w7 ⟨rfl,h7⟩;have bx7:Boxed w7 B2 24 (.pointer (some ⟨o1,q1,none⟩)):=(by rw[h7];exact(BX6.out.alloc _).alloc _);have c7:=bx7.cell;have f7:=bx7.frozen;have hb7:=bx7.lt;have H7:=Lib.hid h7;have BX7:=Lib.hid bx7;clear h7 bx7))
    all_goals go_end0
    all_goals
     have h7:=H7.out;have u67:Up w6 w7:=by rw[h7];exact((Up.refl _).alloc _).alloc _
     have z4:w4.drew.heap.size=w4.heap.size:=rfl;have hz6:=G6.out.size;have hz4:=G04.out.size;have hnd:∀b' m,Y = .inl (b',m)->NewT w w7 (.pointer (some ⟨w6.heap.size+1,0,none⟩)) (nd 26 nob (fr2 a b')):=fun b' m hYe=>by
      have h1:=zKl (k:=26) (s:=nob) (by omega) (NA4.out.gsb G6.out (by omega)) ((N6.out b' m hYe).base (by omega));rw[h7];exact h1
     have hfin:=fun t=>HFIN.out w7 (some ⟨w6.heap.size+1,0,none⟩) t _ ((G04.out.trans G6.out.two).trans (Gs.of u67)) (.inr ⟨_,BX7.out⟩) rfl
     have hst:stO R=stO Y:=by rw[HRY.out];cases Y<;>rfl
     have e1:rI R=rI Y:=congrArg Prod.fst hst;have e2:rE R=rE Y:=congrArg Prod.snd hst;rw[e1,e2];refine⟨⟨_,rfl⟩,(hfin a).2.1,(hfin a).1 _ _ (P6.out.up u67),_,(hfin a).2.2.1,fun t m ht=>?_⟩;rw[HRY.out] at ht;obtain⟨b',m',h8,h9⟩:=qD ht;injection h9 with h9;injection h9 with h9 h10;rw[<- h9];exact(hfin (nd 26 nob (fr2 a b'))).2.2.2 (hnd b' m' h8)
end
end Go.Proofs.YtgeghilbikljcaaGreatDoor
