/-
  Layer 7, the program's leftward: a loop of what binds tighter; sum, term, comparison.
-/
import Derived.Test.YtgeghilbikljcaaGreatDoorGj15
set_option maxHeartbeats 40000000
set_option maxRecDepth 100000
namespace Go.Proofs.YtgeghilbikljcaaGreatDoor
open Go.RowKit
theorem PaT.psr {S:Nat->Prop} {b:Nat} {v:Value} {R:Rs Tr} {w w':World} {en:Ending} (h:PaT S b v R (fun _ _=>True) w en w'):∃A,en = .returned (.pointer A)/\Gs S w w'/\Psr w' b v (rI R) (rE R)/\∀t j,R = .inl (t,j)->NewT w w' (.pointer A) t:=by
 obtain⟨A,h1,h2,h3⟩:=h
 cases R with
 | inl r=>exact⟨A,h1,h2,h3.2.1,fun t j e=>by injection e with e;rw[e] at h3;exact h3.1⟩
 | inr r=>exact⟨A,h1,h2,h3,fun t j e=>by cases e⟩
theorem PaT.mk {S:Nat->Prop} {b:Nat} {v:Value} {R:Rs Tr} {w w':World} {A:Option Addr} (g:Gs S w w') (p:Psr w' b v (rI R) (rE R)) (n:∀t j,R = .inl (t,j)->NewT w w' (.pointer A) t):PaT S b v R (fun _ _=>True) w (.returned (.pointer A)) w':=by
 refine⟨A,rfl,g,?_⟩
 cases R with
 | inl r=>exact⟨n r.1 r.2 rfl,p,trivial⟩
 | inr r=>exact p
theorem NewT.gsb {b:Nat} {W w w':World} {v:Value} {t:Tr} (h:NewT W w v t) (g:Gs (On b) w w') (hb:b<W.heap.size):NewT W w' v t:=
 InT.keep h (fun _ hq=>⟨hq.1,Nat.lt_of_lt_of_le hq.2 g.size⟩) fun q hq=>g.block q hq.2 (by have:=hq.1;unfold On;omega)
theorem zWc (n:Int) (a b:Option Addr) (w:World) :
  Calls Tryz.prog 238 #[.int .i64 n,.pointer a,.pointer b] w fun e w'=>e = .returned (.pointer (some ⟨w.heap.size+1,0,none⟩))/\w'=(w.alloc (.cells #[.pointer a,.pointer b] 24)).alloc (.cells #[.int .i64 31,.int .i64 n,.string ⟨#[]⟩,.string ⟨#[]⟩,.slice (some ⟨w.heap.size,0,none⟩) 2 2] 44):=by
 go_enter Tryz.func238,Tryz.ntmps238
 go_wp2_with fail
 go_ret
 exact⟨rfl,rfl⟩
def boolN (v:Value) (n:Nat):Nat:=match v with
 | .bool true=>n
 | _=>0
theorem hU {b:Bool} {n m:Nat} (h0:0<n) (h:b=true->m<n):boolN (.bool b) m<boolN (.bool true) n:=by
 cases b with
 | false=>exact h0
 | true=>exact h rfl
inductive LeQ (i0:Nat) (e0:Int) (l:List Te) (b:Nat) (v:Value) (R:Rs Tr) (Tq:Nat->Rs Tr) (rl:Int) (w wr:World) (nv kv iv:Value):Prop
 | good (a:Tr) (j f:Nat) (q:Option Nat) (he:e0=0/\i0<=j) (hj:j<=l.length) (hR:R=lop Tq (sgo l rl) f a j) (hf:l.length-j+1<=f) (hn:NewT w wr nv a) (hq:opQ (tks l) rl j 0=q) (hk:kv = .int .i64 (opK q)) (hi:iv = .bool q.isSome) (hp:Psr wr b v (opI q j) 0):LeQ i0 e0 l b v R Tq rl w wr nv kv iv
 | bad (p:Nat) (r:Int) (A:Option Addr) (hr:¬r=0) (hR:R = .inr (p,r)) (hn:nv = .pointer A) (hk:kv = .int .i64 0) (hi:iv = .bool false) (hp:Psr wr b v p r):LeQ i0 e0 l b v R Tq rl w wr nv kv iv
theorem LeQ.of {i0:Nat} {e0:Int} {l:List Te} {b:Nat} {v:Value} {R:Rs Tr} {Tq:Nat->Rs Tr} {rl:Int} {w w2 wr:World} {A:Option Addr} {X:Rs Tr} {kv iv:Value} {f:Nat} {g:Tr->Tr} (hX:∀a j,X = .inl (a,j)->(e0=0/\i0<=j)/\j<=l.length/\R=lop Tq (sgo l rl) f (g a) j/\l.length-j+1<=f/\NewT w wr (.pointer A) (g a)) (hX2:∀p r,X = .inr (p,r)->¬r=0/\R = .inr (p,r))
  (h:OpP b v (opQ (tks l) rl (rI X) (rE X)) (rI X) (rE X) w2 (.returned (.tuple #[kv,iv])) wr):LeQ i0 e0 l b v R Tq rl w wr (.pointer A) kv iv:=by
 obtain⟨h1,_,h3⟩:=h;injection h1 with h1;injection h1 with h1;have e1:kv = .int .i64 (opK (opQ (tks l) rl (rI X) (rE X))):=by have:=congrArg (·[0]?) h1;exact Option.some.inj this
 have e2:iv = .bool (opQ (tks l) rl (rI X) (rE X)).isSome:=by have:=congrArg (·[1]?) h1;exact Option.some.inj this
 cases X with
 | inl r=>
  obtain⟨a,j⟩:=r;obtain⟨h8,h4,h5,h6,h7⟩:=hX a j rfl;exact .good (g a) j f _ h8 h4 h5 h6 h7 rfl e1 e2 h3
 | inr r=>
  obtain⟨p,r⟩:=r;obtain⟨h4,h5⟩:=hX2 p r rfl;have hq:opQ (tks l) rl p r=none:=zRl h4;simp only[rI,rE] at e1 e2 h3;rw[hq] at e1 e2 h3;exact .bad p r A h4 h5 rfl e1 e2 h3
theorem zN8 {l:List Te} {b:Nat} {v:Value} {rl:Int} {j:Nat} {Y:Rs Tr} {w2 w3:World} {en:Ending} (hin:In l.length (j+1) Y) (h:OpP b v (opQ (tks l) rl (rI Y) (rE Y)) (rI Y) (rE Y) w2 en w3) (hs:(opQ (tks l) rl (rI Y) (rE Y)).isSome=true):l.length+1-posW b w3<l.length+1-(j+1):=by
 obtain⟨_,_,h3⟩:=h
 cases Y with
 | inr r=>
  have hne:=hin.ne (p:=r.1) (e:=r.2) rfl;rw[show opQ (tks l) rl (rI (.inr r:Rs Tr)) (rE (.inr r:Rs Tr))=none from zRl hne] at hs
  cases hs
 | inl r=>
  obtain⟨a,m⟩:=r;have hm:j+1<m/\m<=l.length:=hin;obtain⟨q,hq⟩:∃q,opQ (tks l) rl (rI (.inl (a,m):Rs Tr)) (rE (.inl (a,m):Rs Tr))=some q:=Option.isSome_iff_exists.1 hs;rw[hq] at h3;rw[h3.pos]
  show l.length+1-(m+1)<_
  omega
section
variable {nk lg:ByteArray->Bool}
theorem mC {V0:World} {l:List Te} (b:Nat) (v:Value) (kt:FuncId) (pre cap:Array Value) (hE:EntF kt) (rl:Int) (Tq:Nat->Rs Tr) (hT:∀j,j<=l.length->In l.length j (Tq j)) (n i:Nat) (e:Int) (hi:i<=l.length) (hn:e=0->l.length-i+1<=n) (hl:l.length<=100000) (w:World)
  (T:Toks nk lg V0 v (tks l)) (h:Psr w b v i e) (hu:Up V0 w) (hbW:V0.heap.size<=b) (hO:Op7 V0)
  (cT:∀(j:Nat) (e':Int) (w':World),j<=l.length->(e'=0->e=0/\i<=j)->Up V0 w'->Psr w' b v j e'->Calls Tryz.prog kt (pre++cap) w' (PaT (On b) b v (at0 Tq (j,e')) (fun _ _=>True) w')) :
  Calls Tryz.prog 248 #[.agg #[.pointer (some ⟨b,0,none⟩)],.func (.func kt) pre cap,.int .i64 rl] w (PaT (On b) b v (at0 (lopS Tq (sgo l rl) n) (i,e)) (fun _ _=>True) w):=by
 have hb:b<w.heap.size:=qC h;obtain⟨W0,hW0⟩:∃W0,w.alloc (.cells #[.pointer (some ⟨b,0,none⟩)] 183)=W0:=⟨_,rfl⟩;have u0:Up w W0:=by rw[<- hW0];exact(Up.refl w).alloc _
 have b1:W0.heap[w.heap.size]? = some (.cells #[.pointer (some ⟨b,0,none⟩)] 183 (0,0)):=by rw[<- hW0];exact heap_alloc_new w _
 have c0:=cT i e W0 hi (fun h=>⟨h,Nat.le_refl _⟩) (hu.trans u0) (h.up u0);have hgU:∀w',Gs (On b) W0 w'->Up V0 w':=fun w' g=>g.up (hu.trans u0) fun q hq=>by rw[hq];exact hbW
 have hOp:∀(j:Nat) (e':Int) (w':World),j<=l.length->Gs (On b) W0 w'->Psr w' b v j e'->Calls Tryz.prog 237 #[.agg #[.pointer (some ⟨b,0,none⟩)],.int .i64 rl] w' (OpP b v (opQ (tks l) rl j e') j e' w'):=fun j e' w' hj g p=>gZ b v j e' rl w' T p (hgU w' g) hbW (hO.up (hgU w' g)) (by omega)
 obtain⟨R,hR⟩:∃R,at0 (lopS Tq (sgo l rl) n) (i,e)=R:=⟨_,rfl⟩;have hX1:∀a j,at0 Tq (i,e) = .inl (a,j)->(e=0/\i<=j)/\j<=l.length/\R=lop Tq (sgo l rl) n a j/\l.length-j+1<=n:=fun a j hX=>by
  by_cases he:e=0
  ·subst he
   rw[qG] at hX hR;have h1:=hT i hi;rw[hX] at h1;have h1:i<j/\j<=l.length:=h1;have:=hn rfl;refine⟨⟨rfl,by omega⟩,h1.2,?_,by omega⟩;rw[<- hR];unfold lopS;rw[hX]
   rfl
  ·rw[qM _ he] at hX
   cases hX
 have hX2:∀p r,at0 Tq (i,e) = .inr (p,r)->¬r=0/\R = .inr (p,r):=fun p r hX=>by
  by_cases he:e=0
  ·subst he
   rw[qG] at hX hR;refine⟨(hT i hi).ne hX,?_⟩;rw[<- hR];unfold lopS;rw[hX]
   rfl
  ·rw[qM _ he] at hX hR
   rw[<- hR,hX];injection hX with hX;injection hX with _ hX;exact⟨by rw[<- hX];exact he,rfl⟩
 have hXl:rI (at0 Tq (i,e))<=l.length:=by
  by_cases he:e=0
  ·subst he
   rw[qG];have h1:=hT i hi
   cases hX:Tq i with
   | inl r=>rw[hX] at h1;exact h1.2
   | inr r=>rw[hX] at h1;exact h1.2.1
  ·rw[qM _ he];exact hi
 rw[hR];obtain⟨X,hXe⟩:∃X,at0 Tq (i,e)=X:=⟨_,rfl⟩;rw[hXe] at c0 hX1 hX2 hXl;have HE:=Lib.hid hE;have HT:=Lib.hid hT;have HOP:=Lib.hid hOp;have HX1:=Lib.hid hX1;have HX2:=Lib.hid hX2;have HGU:=Lib.hid hgU;have HCT:=Lib.hid cT;have B1:=Lib.hid b1;have UZ:=Lib.hid u0;have HW0:=Lib.hid hW0;have z0:W0.heap.size=w.heap.size+1:=by rw[<- hW0];simp
 clear hT hOp hX1 hX2 hgU cT b1 u0 hW0 h hu hR hXe hE T hn
 go_enter Tryz.func248,Tryz.ntmps248
 go_wp2_with fail;rw[HE.out,Oper.upon_enter,HW0.out];refine c0.mono ?_;rintro en w1 hP1;obtain⟨A1,rfl,g1,p1,n1⟩:=hP1.psr;have cO:=HOP.out _ _ w1 hXl g1 p1;have r1:w1.heap[w.heap.size]? = some (.cells #[.pointer (some ⟨b,0,none⟩)] 183 (0,0)):=g1.row B1.out (by unfold On;omega);have c1:w1.cell? ⟨w.heap.size,0,none⟩=some (.pointer (some ⟨b,0,none⟩)):=cell_of_row w1 w.heap.size 0 _ _ _ r1;have hb1:=qC r1;have G1:=Lib.hid g1;have HN1:=Lib.hid n1;clear r1 g1 n1 p1 c0 hP1;go_wp2_with fail;refine cO.mono ?_;rintro en w2 hOP;obtain⟨rfl,g2,h2⟩:=id hOP;have hst:LeQ i e l b v R Tq rl w w2 (.pointer A1) (.int .i64 (opK (opQ (tks l) rl (rI X) (rE X)))) (.bool (opQ (tks l) rl (rI X) (rE X)).isSome):=by
  refine LeQ.of (f:=n) (g:=fun a=>a) (fun a j hX=>?_) HX2.out hOP;obtain⟨h8,h4,h5,h6⟩:=HX1.out a j hX;refine⟨h8,h4,h5,h6,?_⟩;exact((HN1.out a j hX).base UZ.out.size).gsb g2 hb
 have HST:=Lib.hid hst;have G2:=Lib.hid (G1.out.trans g2);clear hst hOP g2 h2 cO c1
 generalize (opK (opQ (tks l) rl (rI X) (rE X)))=k0 at HST ⊢
 generalize ((opQ (tks l) rl (rI X) (rE X)).isSome)=q0 at HST ⊢
 go_wp2_with fail
 go_loopw [7,8,9] (fun nv kv iv wr=>Gs (On b) W0 wr/\LeQ i e l b v R Tq rl w wr nv kv iv) (fun _ _ iv wr=>boolN iv (l.length+1-posW b wr))
 case atStart=>exact⟨G2.out,HST.out⟩
 case round=>
  obtain⟨hg,hst⟩:=hrel;have hgs:=hg.size;have r1:wr.heap[w.heap.size]? = some (.cells #[.pointer (some ⟨b,0,none⟩)] 183 (0,0)):=hg.row B1.out (by unfold On;omega);have HR1:=Lib.hid r1;have HG:=Lib.hid hg;clear r1 hg
  cases hst with
  | bad p r A hr hRe hnv hkv hiv hp=>
   subst hnv hkv hiv;have HP:=Lib.hid hp;have HRR:=Lib.hid hRe;clear hp hRe hr;go_wp2_with fail
   go_ret
   refine⟨A,rfl,(Gs.of UZ.out).trans HG.out,?_⟩;rw[HRR.out];exact HP.out
  | good a j f q hij hj hRl hf hnw hq hkv hiv hp=>
   subst hkv hiv;obtain⟨o1,p1,rfl⟩:=InT.ptr hnw;have HP:=Lib.hid hp;have HN:=Lib.hid hnw;have HRR:=Lib.hid hRl;have HQ:=Lib.hid hq;clear hp hnw hRl hq;obtain⟨f,rfl⟩:∃g,f=g+1:=⟨f-1,by omega⟩
   cases q with
   | none=>
    go_wp2_with fail
    go_ret
    refine⟨_,rfl,(Gs.of UZ.out).trans HG.out,?_⟩;have hs:sgo l rl j=none:=by unfold sgo;rw[HQ.out];rfl
    have hRR:R = .inl (a,j):=by rw[HRR.out];unfold lop;rw[hs]
    rw[hRR];exact⟨HN.out,HP.out,trivial⟩
   | some k=>
    have hs:sgo l rl j=some (opN ((k+1:Nat):Int),1):=by unfold sgo;rw[HQ.out];rfl
    have hjl:j+1<=l.length:=by
     by_cases hjl:j<l.length
     ·exact hjl
     ·have hq:=HQ.out
      unfold opQ at hq;have:uS (opT (tks l) rl j 0)=none:=wS fun m _=>by
       unfold opT;rw[qQ,zR (by rw[qK];omega),Bool.and_false]
      rw[this] at hq
      cases hq
    have hRR:R=thn (Tq (j+1)) fun b m=>lop Tq (sgo l rl) f (opN ((k+1:Nat):Int),fr2 a b) m:=by rw[HRR.out];conv=>lhs;unfold lop;rw[hs]
    have hin:=HT.out (j+1) hjl;have cT:=HCT.out (j+1) 0 wr hjl (fun _=>⟨hij.1,by omega⟩) (HGU.out wr HG.out) HP.out;have HIN:=Lib.hid hin;have HRR2:=Lib.hid hRR;rw[qG] at cT;obtain⟨Y,hY⟩:∃Y,Tq (j+1)=Y:=⟨_,rfl⟩;rw[hY] at cT;have HY:=Lib.hid hY;have hpos:=HP.out.pos;clear hs hRR hin hY;go_wp2_with fail;rw[HE.out,Oper.upon_enter];refine cT.mono ?_;rintro en w3 hP3;obtain⟨A3,rfl,g3,p3,n3⟩:=hP3.psr;obtain⟨w4,hw4⟩:∃w4,(w3.alloc (.cells #[.pointer (some ⟨o1,p1,none⟩),.pointer A3] 24)).alloc (.cells #[.int .i64 31,.int .i64 (opK (some k)),.string ⟨#[]⟩,.string ⟨#[]⟩,.slice (some ⟨w3.heap.size,0,none⟩) 2 2] 44)=w4:=⟨_,rfl⟩;have u4:Up w3 w4:=by rw[<- hw4];exact((Up.refl _).alloc _).alloc _
    have hz3:=g3.size;have hwz:w.heap.size<=wr.heap.size:=by omega
    have hnd:∀b' m,Y = .inl (b',m)->NewT w w4 (.pointer (some ⟨w3.heap.size+1,0,none⟩)) (opN ((k+1:Nat):Int),fr2 a b'):=fun b' m hYe=>by
     have h1:=HN.out.gsb g3 hb;have h2:=hasOp (k:=opK (some k)) (by omega) h1 ((n3 b' m hYe).base hwz);rw[hw4] at h2;exact h2
    have r4:w4.heap[w.heap.size]? = some (.cells #[.pointer (some ⟨b,0,none⟩)] 183 (0,0)):=u4.row (g3.row HR1.out (by unfold On;omega));have c4:w4.cell? ⟨w.heap.size,0,none⟩=some (.pointer (some ⟨b,0,none⟩)):=cell_of_row w4 w.heap.size 0 _ _ _ r4;have hb4:=qC r4;have hYl:rI Y<=l.length:=by
     have h1:=HIN.out;rw[HY.out] at h1
     cases Y with
     | inl r=>exact h1.2
     | inr r=>exact h1.2.1
    have G4:=Lib.hid ((HG.out.trans g3).trans (Gs.of u4));have cO:=HOP.out _ _ w4 hYl G4.out (p3.up u4);have HND:=Lib.hid hnd;have HW4:=Lib.hid hw4;clear n3 g3 p3 hnd u4 r4 hw4 cT hYl hP3;go_wp2_with fail;refine(zWc _ _ _ _).mono ?_;rintro en w4' ⟨rfl,rfl⟩;rw[HW4.out];go_wp2_with fail;refine cO.mono ?_;rintro en w5 hOP;obtain⟨rfl,g5,h5⟩:=id hOP;have hst:LeQ i e l b v R Tq rl w w5 (.pointer (some ⟨w3.heap.size+1,0,none⟩)) (.int .i64 (opK (opQ (tks l) rl (rI Y) (rE Y)))) (.bool (opQ (tks l) rl (rI Y) (rE Y)).isSome):=by
     refine LeQ.of (f:=f) (g:=fun b'=>(opN ((k+1:Nat):Int),fr2 a b')) (fun b' m hYe=>?_) (fun p r hYe=>?_) hOP
     ·have h1:=HIN.out
      have hR:=HRR2.out;rw[HY.out,hYe] at h1 hR;have h1:j+1<m/\m<=l.length:=h1;exact⟨⟨hij.1,by omega⟩,h1.2,hR,by omega,(HND.out b' m hYe).gsb g5 hb⟩
     ·have h1:=HIN.out
      have hR:=HRR2.out;rw[HY.out,hYe] at hR;exact⟨h1.ne (by rw[HY.out,hYe]),hR⟩
    have HST:=Lib.hid hst;have HOPP:=Lib.hid hOP;have G5:=Lib.hid (G4.out.trans g5);have hls:boolN (.bool (opQ (tks l) rl (rI Y) (rE Y)).isSome) (l.length+1-posW b w5)<boolN (.bool true) (l.length+1-posW b wr):=by
     have hpos:posW b wr=j+1:=hpos;refine hU (by rw[hpos];omega) fun hs=>?_
     rw[hpos];exact zN8 (HY.out▸HIN.out) HOPP.out hs
    have HLS:=Lib.hid hls;clear hst hOP g5 h5 hls cO c4
    generalize (opK (opQ (tks l) rl (rI Y) (rE Y)))=k1 at HST ⊢
    generalize ((opQ (tks l) rl (rI Y) (rE Y)).isSome)=q1 at HST HLS ⊢
    go_wp2_with fail;exact⟨⟨G5.out,HST.out⟩,HLS.out⟩
end
theorem zRm (b:Nat) (v:Value) (R:Rs Tr) (w:World) (cL:∀w',Up w w'->Calls Tryz.prog 248 #[.agg #[.pointer (some ⟨b,0,none⟩)],.func (.func 249) #[.agg #[.pointer (some ⟨b,0,none⟩)]] #[],.int .i64 2] w' (PaT (On b) b v R (fun _ _=>True) w')) :
  Calls Tryz.prog 236 #[.agg #[.pointer (some ⟨b,0,none⟩)]] w (PaT (On b) b v R (fun _ _=>True) w):=by
 have u0:=(Up.refl w).alloc (.cells #[.pointer (some ⟨b,0,none⟩)] 183);have cN:=cL _ u0;have U0:=Lib.hid u0;clear cL u0
 go_enter Tryz.func236,Tryz.ntmps236
 go_wp2_with fail;refine cN.mono ?_;rintro en w1 hP;obtain⟨A,rfl,h⟩:=PaT.base U0.out hP;have H:=Lib.hid h;clear h hP;go_wp2_with fail
 go_ret
 exact⟨A,rfl,H.out⟩
theorem zVv (b:Nat) (v:Value) (R:Rs Tr) (w:World) (cL:∀w',Up w w'->Calls Tryz.prog 248 #[.agg #[.pointer (some ⟨b,0,none⟩)],.func (.func 257) #[.agg #[.pointer (some ⟨b,0,none⟩)]] #[],.int .i64 3] w' (PaT (On b) b v R (fun _ _=>True) w')) :
  Calls Tryz.prog 249 #[.agg #[.pointer (some ⟨b,0,none⟩)]] w (PaT (On b) b v R (fun _ _=>True) w):=by
 have u0:=(Up.refl w).alloc (.cells #[.pointer (some ⟨b,0,none⟩)] 183);have cN:=cL _ u0;have U0:=Lib.hid u0;clear cL u0
 go_enter Tryz.func249,Tryz.ntmps249
 go_wp2_with fail;refine cN.mono ?_;rintro en w1 hP;obtain⟨A,rfl,h⟩:=PaT.base U0.out hP;have H:=Lib.hid h;clear h hP;go_wp2_with fail
 go_ret
 exact⟨A,rfl,H.out⟩
structure Px8 (V0:World) (v:Value) (l:List Te) (b:Nat):Prop where
 T:Toks B.nck B.long V0 v (tks l)
 O:Op7 V0
 hb:V0.heap.size<=b
 hl:l.length<=100000
def RuAt (V0:World) (v:Value) (b:Nat) (f:FuncId) (R:Nat->Rs Tr) (j:Nat) (e:Int):Prop:=∀w,Up V0 w->Psr w b v j e->Calls Tryz.prog f #[.agg #[.pointer (some ⟨b,0,none⟩)]] w (PaT (On b) b v (at0 R (j,e)) (fun _ _=>True) w)
section
variable {V0:World} {v:Value} {l:List Te} {b:Nat}
theorem zN9 (Q:Px8 V0 v l b) (n:Nat) (A:Nat->Rs Tr) (hA:∀j,j<=l.length->In l.length j (A j)) (i:Nat) (e:Int) (hi:i<=l.length) (hn:e=0->l.length-i+1<=n)
  (cT:∀(j:Nat) (e':Int),j<=l.length->(e'=0->e=0/\i<=j)->RuAt V0 v b 257 (appS B.long l n A) j e'):RuAt V0 v b 249 (mulS B.long l n A) i e:=fun w hu h=>by
 have es:mulS B.long l n A=lopS (appS B.long l n A) (sgo l 3) n:=by unfold mulS;rw[show sgo l 3=sMul l from funext (sgo_3 l)]
 rw[es];exact zVv b v _ w fun w' u=>mC b v 257 #[.agg #[.pointer (some ⟨b,0,none⟩)]] #[] (fun _ _=>by kernel_rfl) 3 (appS B.long l n A) (fun j hj=>eX hA hj) n i e hi hn Q.hl w' Q.T (h.up u) (hu.trans u) Q.hb Q.O (fun j e' w2 hj he u2 p2=>cT j e' hj he w2 u2 p2)
theorem zKm (Q:Px8 V0 v l b) (n:Nat) (A:Nat->Rs Tr) (hA:∀j,j<=l.length->In l.length j (A j)) (i:Nat) (e:Int) (hi:i<=l.length) (hn:e=0->l.length-i+1<=n)
  (cT:∀(j:Nat) (e':Int),j<=l.length->(e'=0->e=0/\i<=j)->RuAt V0 v b 257 (appS B.long l n A) j e'):RuAt V0 v b 236 (addS B.long l n A) i e:=fun w hu h=>by
 have es:addS B.long l n A=lopS (mulS B.long l n A) (sgo l 2) n:=by unfold addS;rw[show sgo l 2=sAdd l from funext (sgo_2 l)]
 rw[es];refine zRm b v _ w fun w' u=>mC b v 249 #[.agg #[.pointer (some ⟨b,0,none⟩)]] #[] (fun _ _=>by kernel_rfl) 2 (mulS B.long l n A) (fun j hj=>eY hA hj) n i e hi hn Q.hl w' Q.T (h.up u) (hu.trans u) Q.hb Q.O (fun j e' w2 hj he u2 p2=>?_)
 exact zN9 Q n A hA j e' hj (fun h0=>by have:=hn (he h0).1;have:=(he h0).2;omega) (fun j2 e2 hj2 he2=>cT j2 e2 hj2 fun h0=>⟨(he (he2 h0).1).1,Nat.le_trans (he (he2 h0).1).2 (he2 h0).2⟩) w2 u2 p2
theorem zKn (Q:Px8 V0 v l b) (n:Nat) (A:Nat->Rs Tr) (hA:∀j,j<=l.length->In l.length j (A j)) (i:Nat) (e:Int) (hi:i<=l.length)
  (cS:∀(j:Nat) (e':Int),j<=l.length->(e'=0->e=0/\i<=j)->RuAt V0 v b 236 (addS B.long l n A) j e'):RuAt V0 v b 220 (cmpS B.long l n A) i e:=fun w hu h=>by
 have hb:b<w.heap.size:=qC h;have hbV:=Q.hb;obtain⟨W0,hW0⟩:∃W0,w.alloc (.cells #[.pointer (some ⟨b,0,none⟩)] 183)=W0:=⟨_,rfl⟩;have u0:Up w W0:=by rw[<- hW0];exact(Up.refl w).alloc _
 have b1:W0.heap[w.heap.size]? = some (.cells #[.pointer (some ⟨b,0,none⟩)] 183 (0,0)):=by rw[<- hW0];exact heap_alloc_new w _
 have c0:=cS i e hi (fun h=>⟨h,Nat.le_refl _⟩) W0 (hu.trans u0) (h.up u0);have hgU:∀w',Gs (On b) W0 w'->Up V0 w':=fun w' g=>g.up (hu.trans u0) fun q hq=>by rw[hq];exact hbV
 obtain⟨S,hS⟩:∃S,addS B.long l n A=S:=⟨_,rfl⟩;have hSin:∀j,j<=l.length->In l.length j (S j):=fun j hj=>by rw[<- hS];exact sG hA hj
 have hR:at0 (cmpS B.long l n A) (i,e)=thn (at0 S (i,e)) fun a j=>match opQ (tks l) 1 j 0 with
   | none=>.inl (a,j)
   | some k=>thn (S (j+1)) fun b m=>.inl ((opN ((k+1:Nat):Int),fr2 a b),m):=by
  by_cases he:e=0
  ·subst he
   rw[qG,qG];unfold cmpS;rw[hS]
   congr 1
   funext a j
   rw[<- sgo_1];unfold sgo
   cases opQ (tks l) 1 j 0<;>rfl
  ·rw[qM _ he,qM _ he]
   rfl
 rw[hR];rw[hS] at c0 cS;have hXe:∀p r,at0 S (i,e) = .inr (p,r)->¬r=0:=fun p r hX=>by
  by_cases he:e=0
  ·subst he
   rw[qG] at hX;exact(hSin i hi).ne hX
  ·rw[qM _ he] at hX
   injection hX with hX;injection hX with _ hX;rw[<- hX];exact he
 have hXi:∀a j,at0 S (i,e) = .inl (a,j)->e=0/\i<=j/\j<=l.length:=fun a j hX=>by
  by_cases he:e=0
  ·subst he
   rw[qG] at hX;have h1:=hSin i hi;rw[hX] at h1;exact⟨rfl,Nat.le_of_lt h1.1,h1.2⟩
  ·rw[qM _ he] at hX;cases hX
 have hXl:rI (at0 S (i,e))<=1000000:=by
  have hl:=Q.hl
  by_cases he:e=0
  ·subst he
   rw[qG];have h1:=hSin i hi
   cases hX:S i with
   | inl r=>rw[hX] at h1;have:=h1.2;simp only[rI];omega
   | inr r=>rw[hX] at h1;have:=h1.2.1;simp only[rI];omega
  ·rw[qM _ he];simp only[rI];omega
 obtain⟨X,hXq⟩:∃X,at0 S (i,e)=X:=⟨_,rfl⟩;rw[hXq] at c0 hXe hXi hXl;rw[hXq];have HCS:=Lib.hid cS;have HXE:=Lib.hid hXe;have HXI:=Lib.hid hXi;have HGU:=Lib.hid hgU;have B1:=Lib.hid b1;have UZ:=Lib.hid u0;have HW0:=Lib.hid hW0;have HQ:=Lib.hid Q;have HSI:=Lib.hid hSin;have z0:W0.heap.size=w.heap.size+1:=by rw[<- hW0];simp
 clear hW0 b1 u0 hR hXe hXi hgU cS hXq hS hSin h hu Q
 go_enter Tryz.func220,Tryz.ntmps220
 go_wp2_with fail;rw[HW0.out];refine c0.mono ?_;rintro en w1 hP1;obtain⟨A1,rfl,g1,p1,n1⟩:=hP1.psr;have cO:=gZ b v _ _ 1 w1 HQ.out.T p1 (HGU.out w1 g1) hbV (HQ.out.O.up (HGU.out w1 g1)) hXl;have r1:w1.heap[w.heap.size]? = some (.cells #[.pointer (some ⟨b,0,none⟩)] 183 (0,0)):=g1.row B1.out (by unfold On;omega);have c1:w1.cell? ⟨w.heap.size,0,none⟩=some (.pointer (some ⟨b,0,none⟩)):=cell_of_row w1 w.heap.size 0 _ _ _ r1;have hb1:=qC r1;have G1:=Lib.hid g1;have HN1:=Lib.hid n1;have R1:=Lib.hid r1;obtain⟨q,hq⟩:∃q,opQ (tks l) 1 (rI X) (rE X)=q:=⟨_,rfl⟩;rw[hq] at cO;have HQQ:=Lib.hid hq;clear r1 g1 n1 p1 c0 hP1 hq
 cases q with
 | none=>
  go_wp2_with fail;refine cO.mono ?_;rintro en w2 ⟨rfl,g2,h2⟩;have H2:=Lib.hid h2;have G2:=Lib.hid g2;clear g2 h2 cO;go_wp2_with fail
  go_ret
  refine⟨A1,rfl,(Gs.of UZ.out).trans (G1.out.trans G2.out),?_⟩;have h2:=H2.out
  cases X with
  | inr r=>exact h2
  | inl r=>
   obtain⟨a,j⟩:=r;have hqq:opQ (tks l) 1 j 0=none:=HQQ.out
   show match (match opQ (tks l) 1 j 0 with
    | none=>.inl (a,j)
    | some k=>thn (S (j+1)) fun b m=>.inl ((opN ((k+1:Nat):Int),fr2 a b),m):Rs Tr) with
    | .inl (t,j)=>_
    | .inr (p,r)=>_
   rw[hqq];exact⟨((HN1.out a j rfl).base UZ.out.size).gsb G2.out hb,h2,trivial⟩
 | some k=>
  cases X with
  | inr r=>
   have h0:opQ (tks l) 1 r.1 r.2=none:=zRl (HXE.out r.1 r.2 rfl);have h1:opQ (tks l) 1 r.1 r.2=some k:=HQQ.out;rw[h0] at h1
   cases h1
  | inl r=>
   obtain⟨a,j⟩:=r;obtain⟨he,hij,hjl⟩:=HXI.out a j rfl;have hqq:opQ (tks l) 1 j 0=some k:=HQQ.out;have hj1:j+1<=l.length:=by
    by_cases hjl:j<l.length
    ·exact hjl
    ·unfold opQ at hqq
     have:uS (opT (tks l) 1 j 0)=none:=wS fun m _=>by
      unfold opT;rw[qQ,zR (by rw[qK];omega),Bool.and_false]
     rw[this] at hqq
     cases hqq
   obtain⟨o1,p1,hp1⟩:=InT.ptr (HN1.out a j rfl);injection hp1 with hp1;subst hp1;have HQ2:=Lib.hid hqq;clear hqq;go_wp2_with fail;refine cO.mono ?_;rintro en w2 ⟨rfl,g2,h2⟩;have h2:Psr w2 b v (j+1) 0:=h2;have cT:=HCS.out (j+1) 0 hj1 (fun _=>⟨he,by omega⟩) w2 (HGU.out w2 (G1.out.trans g2)) h2;rw[qG] at cT;have hin:=HSI.out (j+1) hj1;obtain⟨Y,hY⟩:∃Y,S (j+1)=Y:=⟨_,rfl⟩;rw[hY] at cT hin;have r2:w2.heap[w.heap.size]? = some (.cells #[.pointer (some ⟨b,0,none⟩)] 183 (0,0)):=g2.row R1.out (by unfold On;omega);have c2:w2.cell? ⟨w.heap.size,0,none⟩=some (.pointer (some ⟨b,0,none⟩)):=cell_of_row w2 w.heap.size 0 _ _ _ r2;have hb2:=qC r2;have G2:=Lib.hid g2;have HY:=Lib.hid hY;clear g2 h2 r2 hY cO c1;go_wp2_with fail;refine cT.mono ?_;rintro en w3 hP3;obtain⟨A3,rfl,g3,p3,n3⟩:=hP3.psr;have P3:=Lib.hid p3;have N3:=Lib.hid n3;have G3:=Lib.hid g3;clear p3 n3 g3 hP3 cT;go_wp2_with fail;refine(zWc _ _ _ _).mono ?_;rintro en w4 ⟨rfl,h4⟩;have u4:Up w3 w4:=by rw[h4];exact((Up.refl _).alloc _).alloc _
   have hnd:∀b' m,Y = .inl (b',m)->NewT w w4 (.pointer (some ⟨w3.heap.size+1,0,none⟩)) (opN ((k+1:Nat):Int),fr2 a b'):=fun b' m hYe=>by
    have h1:=(((HN1.out a j rfl).base UZ.out.size).gsb (G2.out.trans G3.out) hb);have hz1:=UZ.out.size;have hz2:=G1.out.size;have hz3:=G2.out.size;have hz4:=G3.out.size;have h2:=hasOp (k:=opK (some k)) (by omega) h1 ((N3.out b' m hYe).base (by omega));rw[h4];exact h2
   have HND:=Lib.hid hnd;have U4:=Lib.hid u4;clear u4 hnd h4;go_wp2_with fail
   go_ret
   refine PaT.mk (((Gs.of UZ.out).trans (G1.out.trans (G2.out.trans G3.out))).trans (Gs.of U4.out)) ?_ fun t m hR=>?_
   ·have hst:stO (thn (.inl (a,j):Rs Tr) fun a j=>match opQ (tks l) 1 j 0 with
     | none=>.inl (a,j)
     | some k=>thn (S (j+1)) fun b m=>.inl ((opN ((k+1:Nat):Int),fr2 a b),m))=stO Y:=by
     show stO (match opQ (tks l) 1 j 0 with
      | none=>.inl (a,j)
      | some k=>thn (S (j+1)) fun b m=>.inl ((opN ((k+1:Nat):Int),fr2 a b),m):Rs Tr)=_
     rw[HQ2.out]
     show stO (thn (S (j+1)) _)=_
     rw[HY.out]
     cases Y<;>rfl
    have e1:=congrArg Prod.fst hst;have e2:=congrArg Prod.snd hst;simp only[stO] at e1 e2;rw[e1,e2];exact P3.out.up U4.out
   ·have hR:(match opQ (tks l) 1 j 0 with
      | none=>.inl (a,j)
      | some k=>thn (S (j+1)) fun b m=>.inl ((opN ((k+1:Nat):Int),fr2 a b),m):Rs Tr) = .inl (t,m):=hR
    rw[HQ2.out] at hR;obtain⟨b',m',hb',hm'⟩:=qD hR;rw[HY.out] at hb';injection hm' with hm';injection hm' with e1 e2;rw[<- e1];exact HND.out b' m' hb'
end
end Go.Proofs.YtgeghilbikljcaaGreatDoor
