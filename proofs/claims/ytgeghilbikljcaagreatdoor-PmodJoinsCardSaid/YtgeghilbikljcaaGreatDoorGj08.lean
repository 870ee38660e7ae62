/-
  Plain: where a type ends, or is refused, hangs on the tokens up to there alone; no place is behind the list's end.
-/
import Derived.Test.YtgeghilbikljcaaGreatDoorGj03
import Derived.Test.YtgeghilbikljcaaGreatDoorGj07
import Derived.Laws.Tables
import Derived.Lib.CutLaws
import Derived.Lib.Join
import Derived.Lib.Split
namespace Go.Proofs.YtgeghilbikljcaaGreatDoor
section
variable {nk lg:ByteArray->Bool}
def pl {α:Type}:Rs α->Nat
 | .inl (_,j)=>j
 | .inr (p,_)=>p
def BadOk {α:Type} (N:Nat) (R:Rs α):Prop:=∀p e,R = .inr (p,e)->e=6\/(e=9/\p<N)
structure St {α:Type} (N:Nat) (R R':Rs α):Prop where
 le:pl R<=N
 same:pl R<N->R'=R
 more:N<=pl R->N<=pl R'
 bad:BadOk N R
theorem St.at {α:Type} {N i:Nat} (h:i<=N):St (α:=α) N (.inr (i,6)) (.inr (i,6)):=⟨h,fun _=>rfl,fun h=>h,fun p e he=>by injection he with he;injection he with h1 h2;exact .inl h2.symm⟩
theorem St.yes {α:Type} {N i:Nat} (a:α) (h:i<=N):St N (.inl (a,i)) (.inl (a,i)):=⟨h,fun _=>rfl,fun h=>h,fun p e he=>by cases he⟩
theorem St.err {α β:Type} {N:Nat} {p q:Nat×Int} (h:St (α:=α) N (.inr p) (.inr q)):St (α:=β) N (.inr p) (.inr q):=
 ⟨h.le,fun hp=>by have:=h.same hp;injection this with this;rw[this],h.more,fun p' e he=>h.bad p' e (by injection he with he;rw[he])⟩
theorem St.end {α:Type} {N:Nat} {R R':Rs α} (h1:pl R=N) (h2:N<=pl R') (h3:BadOk N R):St N R R':=⟨by omega,fun h=>by omega,fun _=>h2,h3⟩
theorem pS {α:Type} {N:Nat} (r:α×Nat):BadOk (α:=α) N (.inl r):=fun p e h=>by cases h
theorem dY {α:Type} {N i:Nat}:BadOk (α:=α) N (.inr (i,6)):=fun p e he=>by injection he with he;injection he with h1 h2;exact .inl h2.symm
theorem vE {α β:Type} {N:Nat} {p:Nat×Int} (h:BadOk (α:=α) N (.inr p)):BadOk (α:=β) N (.inr p):=fun p' e he=>h p' e (by injection he with he;rw[he])
theorem jA {l m:List Tk} {i:Nat} {x:ByteArray} (h:i<l.length):key (l++m) i x=key l i x:=by
 unfold key;rw[List.getElem?_append_left h]
theorem zR {l:List Tk} {i:Nat} {x:ByteArray} (h:l.length<=i):key l i x=false:=by
 unfold key;rw[List.getElem?_eq_none h]
theorem eE {p:ByteArray->Bool} {l m:List Tk} {i:Nat} (h:i<l.length):nam p (l++m) i=nam p l i:=by
 unfold nam;rw[List.getElem?_append_left h]
theorem pU {p:ByteArray->Bool} {l:List Tk} {i:Nat} (h:l.length<=i):nam p l i=none:=by
 unfold nam;rw[List.getElem?_eq_none h]
theorem xR {α:Type} {i:Nat} {R:Rs α} (h:Ahead i R):i<=pl R:=by
 cases R with
 | inl r=>exact Nat.le_of_lt h
 | inr r=>exact h
theorem zOb {m:ByteArray} {k:Int} {l:List Tk} {r:Rs Tr} {T:Nat->Rs Tr} (hT:∀j,j<=pl (T j)):pl r<=pl (typS m k l r T):=by
 unfold typS
 cases r with
 | inr e=>exact Nat.le_refl _
 | inl r=>
  obtain⟨a,j⟩:=r;simp only
  split
  ·have:=hT (j+1)
   cases h:T (j+1) with
   | inr e=>rw[h] at this;have this:j+1<=e.1:=this;show j<=e.1;omega
   | inl q=>rw[h] at this;have this:j+1<=q.2:=this;show j<=q.2;omega
  ·exact Nat.le_refl _
theorem zXx {m:ByteArray} {k:Int} {l x:List Tk} {r r':Rs Tr} {T T':Nat->Rs Tr} (hr:St l.length r r') (hT:∀j,j<=l.length->St l.length (T j) (T' j)) (hT':∀j,j<=pl (T' j)) :
  St l.length (typS m k l r T) (typS m k (l++x) r' T'):=by
 by_cases hlt:pl r<l.length
 ·rw[hr.same hlt]
  cases r with
  | inr e=>exact⟨hr.le,fun _=>rfl,fun h=>h,vE hr.bad⟩
  | inl r=>
   obtain⟨a,j⟩:=r;have hlt:j<l.length:=hlt;unfold typS;simp only[jA hlt]
   split
   ·have h:=hT (j+1) hlt
    cases h1:T (j+1) with
    | inr e=>
     rw[h1] at h
     cases h2:T' (j+1) with
     | inr e'=>rw[h2] at h;exact h.err
     | inl q=>
      rw[h2] at h;refine⟨h.le,fun hp=>?_,h.more,vE h.bad⟩;have:=h.same hp
      cases this
    | inl q=>
     rw[h1] at h
     cases h2:T' (j+1) with
     | inr e'=>
      rw[h2] at h;refine⟨h.le,fun hp=>?_,h.more,pS _⟩;have:=h.same hp
      cases this
     | inl q'=>
      rw[h2] at h;refine⟨h.le,fun hp=>?_,h.more,pS _⟩;have:=h.same hp;injection this with this;rw[this]
   ·exact St.yes a (by omega)
 ·have he:pl r=l.length:=by have:=hr.le;omega
  have h2:l.length<=pl r':=hr.more (by omega);have h3:l.length<=pl (typS m k (l++x) r' T'):=Nat.le_trans h2 (zOb hT')
  cases r with
  | inr e=>exact St.end he h3 (vE hr.bad)
  | inl r=>
   obtain⟨a,j⟩:=r;have he:j=l.length:=he;have:typS m k l (.inl (a,j)) T = .inl (a,j):=by
    unfold typS;simp only;rw[zR (by omega)]
    rfl
   rw[this];exact St.end he h3 (pS _)
theorem zSb {l:List Tk} {i:Nat} {T:Nat->Rs Tr} {C:Nat->Fr->Rs Fr} (hT:∀j,j<=pl (T j)) (hC:∀j a,j<=pl (C j a)):i<=pl (atomS nk lg l i T C):=by
 have h1:=hT (i+1);have h2:=hC (i+3) .nil;unfold atomS
 split
 ·exact Nat.le_succ i
 ·split
  ·exact Nat.le_succ i
  ·split
   ·exact Nat.le_succ i
   ·split
    ·exact Nat.le_succ i
    ·split
     ·cases h:T (i+1) with
      | inr e=>rw[h] at h1;have h1:i+1<=e.1:=h1;show i<=e.1;omega
      | inl r=>
       rw[h] at h1;have h1:i+1<=r.2:=h1;simp only
       split
       ·show i<=r.2+1;omega
       ·show i<=r.2;omega
     ·split
      ·split
       ·exact Nat.le_succ i
       ·split
        ·cases h:C (i+3) .nil with
         | inr e=>rw[h] at h2;have h2:i+3<=e.1:=h2;show i<=e.1;omega
         | inl r=>
          rw[h] at h2;have h2:i+3<=r.2:=h2;simp only
          split
          ·show i<=r.2+1;omega
          ·show i<=r.2;omega
        ·show i<=i+2;omega
      ·exact Nat.le_refl i
def shutS {α:Type} (l:List Tk) (x:ByteArray) (g:α->Tr) (R:Rs α):Rs Tr:=match R with
 | .inr e=>.inr e
 | .inl (t,j)=>if key l j x then .inl (g t,j+1) else .inr (j,6)
theorem tS {α:Type} {l:List Tk} {x:ByteArray} {g:α->Tr} {R:Rs α}:pl R<=pl (shutS l x g R):=by
 unfold shutS
 cases R with
 | inr e=>exact Nat.le_refl _
 | inl r=>
  simp only
  split
  ·exact Nat.le_succ _
  ·exact Nat.le_refl _
theorem oQ {α:Type} {l m:List Tk} {x:ByteArray} {g:α->Tr} {R R':Rs α} (h:St l.length R R'):St l.length (shutS l x g R) (shutS (l++m) x g R'):=by
 by_cases hlt:pl R<l.length
 ·rw[h.same hlt]
  cases R with
  | inr e=>exact⟨h.le,fun _=>rfl,fun h=>h,vE h.bad⟩
  | inl r=>
   obtain⟨a,j⟩:=r;have hlt:j<l.length:=hlt;unfold shutS;simp only[jA hlt]
   split
   ·exact St.yes _ hlt
   ·exact St.at (by omega)
 ·have he:pl R=l.length:=by have:=h.le;omega
  have h3:l.length<=pl (shutS (l++m) x g R'):=Nat.le_trans (h.more (by omega)) tS
  cases R with
  | inr e=>exact St.end he h3 (vE h.bad)
  | inl r=>
   obtain⟨a,j⟩:=r;have he:j=l.length:=he;have:shutS l x g (.inl (a,j)) = .inr (j,6):=by
    unfold shutS;simp only;rw[zR (by omega)]
    rfl
   rw[this];exact St.end he h3 dY
theorem zSc {l x:List Tk} {i:Nat} {T T':Nat->Rs Tr} {C C':Nat->Fr->Rs Fr} (hi:i<=l.length) (hT:∀j,j<=l.length->St l.length (T j) (T' j)) (hC:∀j a,j<=l.length->St l.length (C j a) (C' j a)) (hT':∀j,j<=pl (T' j)) (hC':∀j a,j<=pl (C' j a)) :
  St l.length (atomS nk lg l i T C) (atomS nk lg (l++x) i T' C'):=by
 by_cases hlt:i<l.length
 ·unfold atomS
  rw[eE hlt,jA hlt,jA hlt,jA hlt,jA hlt,jA hlt]
  split
  ·exact St.yes _ hlt
  ·split
   ·exact St.yes _ hlt
   ·split
    ·exact St.yes _ hlt
    ·split
     ·exact St.yes _ hlt
     ·split
      ·have h:=oQ (m:=x) (x:=kShut) (g:=fun t=>t) (hT (i+1) hlt)
       revert h
       cases T (i+1)<;>cases T' (i+1)<;>exact fun h=>h
      ·split
       ·by_cases h1:i+1<l.length
        ·rw[eE h1]
         split
         ·exact St.at hlt
         ·rename_i s hs
          by_cases h2:i+2<l.length
          ·rw[jA h2]
           split
           ·have h:=oQ (m:=x) (x:=jW) (g:=fun c=>nd 7 s c) (hC (i+3) .nil h2)
            revert h
            cases C (i+3) .nil<;>cases C' (i+3) .nil<;>exact fun h=>h
           ·exact St.at (by omega)
          ·rw[zR (i:=i+2) (by omega)]
           refine St.end (by show i+2=_;omega) ?_ dY
           split
           ·have h:=Nat.le_trans (hC' (i+3) .nil) (tS (l:=l++x) (x:=jW) (g:=fun c=>nd 7 s c))
            have h3:l.length<=i+3:=by omega
            revert h
            cases C' (i+3) .nil<;>exact fun h=>Nat.le_trans h3 h
           ·show _<=i+2;omega
        ·rw[pU (i:=i+1) (by omega)]
         refine St.end (by show i+1=_;omega) ?_ dY
         split
         ·show _<=i+1;omega
         ·rename_i s hs
          split
          ·have h:=Nat.le_trans (hC' (i+3) .nil) (tS (l:=l++x) (x:=jW) (g:=fun c=>nd 7 s c))
           have h3:l.length<=i+3:=by omega
           revert h
           cases C' (i+3) .nil<;>exact fun h=>Nat.le_trans h3 h
          ·show _<=i+2;omega
       ·exact St.at hi
 ·have he:i=l.length:=by omega
  have h0:atomS nk lg l i T C = .inr (i,6):=by
   unfold atomS;rw[pU (by omega)];simp only;rw[zR (by omega),zR (by omega),zR (by omega),zR (by omega),zR (by omega)]
   rfl
  rw[h0];exact St.end he (by rw[<- he];exact zSb hT' hC') dY
theorem zSd {l:List Tk} {i:Nat} {acc:Fr} {T:Nat->Rs Tr} {C:Nat->Fr->Rs Fr} (hT:∀j,j<=pl (T j)) (hC:∀j a,j<=pl (C j a)):i<=pl (consS nk l i acc T C):=by
 have h1:=hT (i+2);unfold consS
 split
 ·exact Nat.le_refl _
 ·split
  ·exact Nat.le_refl _
  ·split
   ·cases h:T (i+2) with
    | inr e=>rw[h] at h1;have h1:i+2<=e.1:=h1;show i<=e.1;omega
    | inl r=>
     rw[h] at h1;have h1:i+2<=r.2:=h1;simp only
     split
     ·have:=hC (r.2+1) (acc.app (fr1 (nd 8 ‹ByteArray› (fr1 r.1))));omega
     ·show i<=r.2;omega
   ·exact Nat.le_succ _
def barS (l:List Tk) (g:Tr->Fr) (R:Rs Tr) (C:Nat->Fr->Rs Fr):Rs Fr:=match R with
 | .inr e=>.inr e
 | .inl (t,j)=>if key l j kBar then C (j+1) (g t) else .inl (g t,j)
theorem zXy {l:List Tk} {g:Tr->Fr} {R:Rs Tr} {C:Nat->Fr->Rs Fr} (hC:∀j a,j<=pl (C j a)):pl R<=pl (barS l g R C):=by
 unfold barS
 cases R with
 | inr e=>exact Nat.le_refl _
 | inl r=>
  simp only
  split
  ·have:=hC (r.2+1) (g r.1)
   show r.2<=_
   omega
  ·exact Nat.le_refl _
theorem zOc {l m:List Tk} {g:Tr->Fr} {R R':Rs Tr} {C C':Nat->Fr->Rs Fr} (h:St l.length R R') (hC:∀j a,j<=l.length->St l.length (C j a) (C' j a)) (hC':∀j a,j<=pl (C' j a)):St l.length (barS l g R C) (barS (l++m) g R' C'):=by
 by_cases hlt:pl R<l.length
 ·rw[h.same hlt]
  cases R with
  | inr e=>exact⟨h.le,fun _=>rfl,fun h=>h,vE h.bad⟩
  | inl r=>
   obtain⟨a,j⟩:=r;have hlt:j<l.length:=hlt;unfold barS;simp only[jA hlt]
   split
   ·exact hC _ _ hlt
   ·exact St.yes _ (by omega)
 ·have he:pl R=l.length:=by have:=h.le;omega
  have h3:l.length<=pl (barS (l++m) g R' C'):=Nat.le_trans (h.more (by omega)) (zXy hC')
  cases R with
  | inr e=>exact St.end he h3 (vE h.bad)
  | inl r=>
   obtain⟨a,j⟩:=r;have he:j=l.length:=he;have:barS l g (.inl (a,j)) C = .inl (g a,j):=by
    unfold barS;simp only;rw[zR (by omega)]
    rfl
   rw[this];exact St.end he h3 (pS _)
theorem zSe {l x:List Tk} {i:Nat} {acc:Fr} {T T':Nat->Rs Tr} {C C':Nat->Fr->Rs Fr} (hi:i<=l.length) (hT:∀j,j<=l.length->St l.length (T j) (T' j)) (hC:∀j a,j<=l.length->St l.length (C j a) (C' j a)) (hT':∀j,j<=pl (T' j)) (hC':∀j a,j<=pl (C' j a)) :
  St l.length (consS nk l i acc T C) (consS nk (l++x) i acc T' C'):=by
 by_cases hlt:i<l.length
 ·unfold consS
  rw[eE hlt]
  split
  ·exact St.at hi
  ·rename_i s hs
   split
   ·refine⟨hi,fun _=>rfl,fun h=>h,fun p e he=>?_⟩
    injection he with he;injection he with h1 h2;exact .inr ⟨h2.symm,by omega⟩
   ·by_cases h1:i+1<l.length
    ·rw[jA h1]
     split
     ·exact zOc (g:=fun t=>acc.app (fr1 (nd 8 s (fr1 t)))) (hT (i+2) h1) hC hC'
     ·exact St.at hlt
    ·rw[zR (i:=i+1) (by omega)]
     refine St.end (by show i+1=_;omega) ?_ dY
     split
     ·refine Nat.le_trans ?_ (zXy (g:=fun t=>acc.app (fr1 (nd 8 s (fr1 t)))) hC')
      have:=hT' (i+2);omega
     ·show _<=i+1;omega
 ·have he:i=l.length:=by omega
  have h0:consS nk l i acc T C = .inr (i,6):=by
   unfold consS;rw[pU (by omega)]
  rw[h0];exact St.end he (by rw[<- he];exact zSd hT' hC') dY
theorem vW (l x:List Tk):∀(n:Nat),(∀i,i<=l.length->St l.length (typF nk lg n l i) (typF nk lg n (l++x) i))/\(∀i,i<=l.length->St l.length (prodF nk lg n l i) (prodF nk lg n (l++x) i))/\
  (∀i,i<=l.length->St l.length (atomF nk lg n l i) (atomF nk lg n (l++x) i))/\(∀i acc,i<=l.length->St l.length (consF nk lg n l i acc) (consF nk lg n (l++x) i acc))
 | 0=>⟨fun i h=>by rw[typF,typF];exact St.at h,fun i h=>by rw[prodF,prodF];exact St.at h,fun i h=>by rw[atomF,atomF];exact St.at h,fun i _ h=>by rw[consF,consF];exact St.at h⟩
 | n+1=>by
  obtain⟨hT,hP,hA,hC⟩:=vW l x n;obtain⟨aT,aP,aA,aC⟩:=kV (nk:=nk) (lg:=lg) (l++x) n;refine⟨fun i hi=>?_,fun i hi=>?_,fun i hi=>?_,fun i acc hi=>?_⟩
  ·rw[vS,vS]
   exact zXx (hP i hi) hT fun j=>xR (aT j)
  ·rw[xD,xD]
   exact zXx (hA i hi) hP fun j=>xR (aP j)
  ·rw[xE,xE]
   exact zSc hi hT (fun j a h=>hC j a h) (fun j=>xR (aT j)) fun j a=>xR (aC j a)
  ·rw[xF,xF]
   exact zSe hi hT (fun j a h=>hC j a h) (fun j=>xR (aT j)) fun j a=>xR (aC j a)
theorem zOd (l x:List Tk) (i:Nat) (hi:i<=l.length):St l.length (typL nk lg l i) (typL nk lg (l++x) i):=by
 have h:=(vW (nk:=nk) (lg:=lg) l x (4*l.length+8+4*x.length)).1 i hi;rw[xQ (by omega) (4*x.length)] at h;have e:4*l.length+8+4*x.length=4*(l++x).length+8:=by rw[List.length_append];omega
 rw[e] at h;exact h
end
section
variable {nk lg:ByteArray->Bool}
theorem eF (k:Int) (h:k=1\/k=2\/k=3):isT nk lg (nd k nob .nil) 1=true:=by
 rcases h with rfl | rfl | rfl
 ·exact qT.2 ⟨⟨1,1,[],[],0,0,[]⟩,by simp[RWS],qU.2 ⟨rfl,rfl,rfl,rfl,Int.le_refl 0,Int.le_refl 0,rfl⟩⟩
 ·exact qT.2 ⟨⟨1,2,[],[],0,0,[]⟩,by simp[RWS],qU.2 ⟨rfl,rfl,rfl,rfl,Int.le_refl 0,Int.le_refl 0,rfl⟩⟩
 ·exact qT.2 ⟨⟨1,3,[],[],0,0,[]⟩,by simp[RWS],qU.2 ⟨rfl,rfl,rfl,rfl,Int.le_refl 0,Int.le_refl 0,rfl⟩⟩
theorem zOe {s:ByteArray} (h:lg s=true):isT nk lg (nd 4 s .nil) 1=true:=
 qT.2 ⟨⟨1,4,[108],[],0,0,[]⟩,by simp[RWS],qU.2 ⟨rfl,rfl,h,rfl,Int.le_refl 0,Int.le_refl 0,rfl⟩⟩
theorem zLd {k:Int} (h:k=5\/k=6) {a b:Tr} (ha:isT nk lg a 1=true) (hb:isT nk lg b 1=true):isT nk lg (nd k nob (fr2 a b)) 1=true:=by
 have hs:seqOk (infF nk lg (fr2 a b)) [116,116]=true:=by
  show((isT nk lg a 1)&&((isT nk lg b 1)&&true))=true
  rw[ha,hb]
  rfl
 rcases h with rfl | rfl
 ·exact qT.2 ⟨⟨1,5,[],[],0,0,[116,116]⟩,by simp[RWS],qU.2 ⟨rfl,rfl,rfl,rfl,Int.le_refl 0,Int.le_refl 0,hs⟩⟩
 ·exact qT.2 ⟨⟨1,6,[],[],0,0,[116,116]⟩,by simp[RWS],qU.2 ⟨rfl,rfl,rfl,rfl,Int.le_refl 0,Int.le_refl 0,hs⟩⟩
theorem zLe {s:ByteArray} (h:nk s=true) {t:Tr} (ht:isT nk lg t 1=true):isT nk lg (nd 8 s (fr1 t)) 8=true:=by
 have hs:seqOk (infF nk lg (fr1 t)) [116]=true:=by
  show((isT nk lg t 1)&&true)=true
  rw[ht]
  rfl
 exact qT.2 ⟨⟨8,8,[110],[],0,0,[116]⟩,by simp[RWS],qU.2 ⟨rfl,rfl,h,rfl,Int.le_refl 0,Int.le_refl 0,hs⟩⟩
theorem tT (j:Inf):∀l:List Inf,jV (l++[j])=(jV l&&l.all fun i=>decide (i.a≠j.a))
 | []=>rfl
 | i::t=>by
  show((t++[j]).all (fun x=>decide (i.a≠x.a))&&jV (t++[j]))=((t.all (fun x=>decide (i.a≠x.a))&&jV t)&&(decide (i.a≠j.a)&&t.all fun x=>decide (x.a≠j.a)))
  rw[tT j t,List.all_append,List.all_cons,List.all_nil]
  cases t.all (fun x=>decide (i.a≠x.a))<;>cases decide (i.a≠j.a)<;>cases jV t<;>cases (t.all fun x=>decide (x.a≠j.a))<;>rfl
theorem oR:∀(f:Fr) (s:ByteArray),hasN f s=false->((infF nk lg f).all fun i=>decide (i.a≠s))=true
 | .nil,_,_=>rfl
 | .cons x k r,s,h=>by
  unfold hasN at h;rw[Bool.or_eq_false_iff] at h
  show(decide (x.a≠s)&&(infF nk lg r).all fun i=>decide (i.a≠s))=true
  rw[oR r s h.2,Bool.and_true,decide_eq_true_eq];exact of_decide_eq_false h.1
def ConOk (nk lg:ByteArray->Bool) (f:Fr):Prop:=((infF nk lg f).all fun i=>i.is 8)=true/\jV (infF nk lg f)=true
theorem ConOk.nil:ConOk nk lg .nil:=⟨rfl,rfl⟩
theorem ConOk.more {f:Fr} (h:ConOk nk lg f) {s:ByteArray} (hs:nk s=true) (hn:hasN f s=false) {t:Tr} (ht:isT nk lg t 1=true):ConOk nk lg (f.app (fr1 (nd 8 s (fr1 t)))):=by
 have e:infF nk lg (f.app (fr1 (nd 8 s (fr1 t))))=infF nk lg f++[infT nk lg (nd 8 s (fr1 t))]:=tP f _;unfold ConOk;rw[e];refine⟨?_,?_⟩
 ·rw[List.all_append,h.1]
  show(true&&(isT nk lg (nd 8 s (fr1 t)) 8&&true))=true
  rw[zLe hs ht]
  rfl
 ·rw[tT,h.2]
  exact oR f s hn
theorem is_mu {s:ByteArray} (h:nk s=true) {c:Fr} (hc:ConOk nk lg c) (h0:0<c.len):isT nk lg (nd 7 s c) 1=true:=by
 have hs:seqOk (infF nk lg c) [67]=true:=by
  have hl:=tO (nk:=nk) (lg:=lg) c
  cases hq:infF nk lg c with
  | nil=>rw[hq] at hl;simp at hl;omega
  | cons i t=>
   rw[<- hq];have e:seqOk (infF nk lg c) [67]=(!(infF nk lg c).isEmpty&&((infF nk lg c).all fun i=>i.is 8)&&jV (infF nk lg c)):=by cases infF nk lg c<;>rfl
   rw[e,hc.1,hc.2,hq]
   rfl
 exact qT.2 ⟨⟨1,7,[110],[],0,0,[67]⟩,by simp[RWS],qU.2 ⟨rfl,rfl,h,rfl,Int.le_refl 0,Int.le_refl 0,hs⟩⟩
theorem tU {p:ByteArray->Bool} {l:List Tk} {i:Nat} {s:ByteArray} (h:nam p l i=some s):p s=true:=by
 unfold nam at h
 split at h
 ·split at h
  ·rename_i hp
   injection h with h;rw[Bool.and_eq_true] at hp;rw[<- h];exact hp.2
  ·cases h
 ·cases h
def FormT (nk lg:ByteArray->Bool) (i:Nat) (R:Rs Tr):Prop:=∀t j,R = .inl (t,j)->isT nk lg t 1=true/\szT t+i<=j
def FormC (nk lg:ByteArray->Bool) (i:Nat) (acc:Fr) (R:Rs Fr):Prop:=∀c j,R = .inl (c,j)->ConOk nk lg c/\c.sz+i<=acc.sz+j/\0<c.len
theorem dZ {m:ByteArray} {k:Int} (hk:k=5\/k=6) {l:List Tk} {i:Nat} {r:Rs Tr} {T:Nat->Rs Tr} (hr:FormT nk lg i r) (hT:∀j,FormT nk lg j (T j)):FormT nk lg i (typS m k l r T):=by
 intro t j h;unfold typS at h
 cases r with
 | inr e=>cases h
 | inl r=>
  obtain⟨a,q⟩:=r;obtain⟨h1,h2⟩:=hr a q rfl;simp only at h
  split at h
  ·cases h':T (q+1) with
   | inr e=>rw[h'] at h;cases h
   | inl r=>
    obtain⟨b,p⟩:=r;rw[h'] at h;injection h with h;injection h with h3 h4;obtain⟨h5,h6⟩:=hT (q+1) b p h';subst h3;subst h4;refine⟨zLd hk h1 h5,?_⟩;have e:szT (nd k nob (fr2 a b))=1+(szT a+szT b):=by unfold szT;simp only[nd,fr2,fr1,Fr.sz];omega
    omega
  ·injection h with h
   injection h with h3 h4;subst h3;subst h4;exact⟨h1,h2⟩
theorem zY0 {l:List Tk} {i:Nat} {T:Nat->Rs Tr} {C:Nat->Fr->Rs Fr} (hT:∀j,FormT nk lg j (T j)) (hC:∀j,FormC nk lg j .nil (C j .nil)):FormT nk lg i (atomS nk lg l i T C):=by
 intro t j h;have one:∀k s,szT (nd k s .nil)=1:=fun _ _=>rfl
 unfold atomS at h
 split at h
 ·rename_i s hs
  injection h with h;injection h with h1 h2;subst h1;subst h2;exact⟨zOe (tU hs),by rw[one];omega⟩
 ·split at h
  ·injection h with h
   injection h with h1 h2;subst h1;subst h2;exact⟨eF 1 (by omega),by rw[one];omega⟩
  ·split at h
   ·injection h with h
    injection h with h1 h2;subst h1;subst h2;exact⟨eF 2 (by omega),by rw[one];omega⟩
   ·split at h
    ·injection h with h
     injection h with h1 h2;subst h1;subst h2;exact⟨eF 3 (by omega),by rw[one];omega⟩
    ·split at h
     ·cases h':T (i+1) with
      | inr e=>rw[h'] at h;cases h
      | inl r=>
       obtain⟨a,q⟩:=r;rw[h'] at h;simp only at h;obtain⟨h5,h6⟩:=hT (i+1) a q h'
       split at h
       ·injection h with h
        injection h with h1 h2;subst h1;subst h2;exact⟨h5,by omega⟩
       ·cases h
     ·split at h
      ·split at h
       ·cases h
       ·rename_i s hs
        split at h
        ·cases h':C (i+3) .nil with
         | inr e=>rw[h'] at h;cases h
         | inl r=>
          obtain⟨c,q⟩:=r;rw[h'] at h;simp only at h;obtain⟨h5,h6,h7⟩:=hC (i+3) c q h';have h8:Fr.nil.sz=0:=rfl
          split at h
          ·injection h with h
           injection h with h1 h2;subst h1;subst h2;exact⟨is_mu (tU hs) h5 h7,by show 1+c.sz+i<=q+1;omega⟩
          ·cases h
        ·cases h
      ·cases h
theorem zY1 {l:List Tk} {i:Nat} {acc:Fr} {T:Nat->Rs Tr} {C:Nat->Fr->Rs Fr} (ha:ConOk nk lg acc) (hT:∀j,FormT nk lg j (T j)) (hC:∀j a,ConOk nk lg a->FormC nk lg j a (C j a)):FormC nk lg i acc (consS nk l i acc T C):=by
 intro c j h;unfold consS at h
 split at h
 ·cases h
 ·rename_i s hs
  split at h
  ·cases h
  ·rename_i hn
   split at h
   ·cases h':T (i+2) with
    | inr e=>rw[h'] at h;cases h
    | inl r=>
     obtain⟨t,q⟩:=r;rw[h'] at h;simp only at h;obtain⟨h5,h6⟩:=hT (i+2) t q h';have hk:=ha.more (tU hs) (Bool.eq_false_iff.2 hn) h5;have hz:(acc.app (fr1 (nd 8 s (fr1 t)))).sz=acc.sz+(1+szT t):=by rw[Fr.sz_app];unfold szT;simp only[nd,fr1,Fr.sz];omega
     split at h
     ·obtain⟨h7,h8,h9⟩:=hC (q+1) _ hk c j h
      exact⟨h7,by omega,h9⟩
     ·injection h with h
      injection h with h1 h2;subst h1;subst h2;exact⟨hk,by omega,by rw[Fr.len_app];show 0<acc.len+1;omega⟩
   ·cases h
theorem tV (l:List Tk):∀(n:Nat),(∀i,FormT nk lg i (typF nk lg n l i))/\(∀i,FormT nk lg i (prodF nk lg n l i))/\(∀i,FormT nk lg i (atomF nk lg n l i))/\(∀i acc,ConOk nk lg acc->FormC nk lg i acc (consF nk lg n l i acc))
 | 0=>⟨(fun i t j h=>by rw[typF] at h;cases h),(fun i t j h=>by rw[prodF] at h;cases h),(fun i t j h=>by rw[atomF] at h;cases h),(fun i _ _ c j h=>by rw[consF] at h;cases h)⟩
 | n+1=>by
  obtain⟨hT,hP,hA,hC⟩:=tV l n;refine⟨fun i=>?_,fun i=>?_,fun i=>?_,fun i acc ha=>?_⟩
  ·rw[vS]
   exact dZ (.inl rfl) (hP i) hT
  ·rw[xD]
   exact dZ (.inr rfl) (hA i) hP
  ·rw[xE]
   exact zY0 hT fun j=>hC j .nil ConOk.nil
  ·rw[xF]
   exact zY1 ha hT hC
theorem mT {l:List Tk} {i j:Nat} {t:Tr} (h:typL nk lg l i = .inl (t,j)):isT nk lg t 1=true/\szT t+i<=j:=(tV l _).1 i t j h
end
def ky (x:ByteArray):Tk:=⟨3,x⟩
def nmT (s:ByteArray):Tk:=⟨1,s⟩
theorem zLf {l:List Tk} {i:Nat} {x:ByteArray} (h:l[i]? = some (ky x)) (y:ByteArray):key l i y=decide (x=y):=by
 unfold key;rw[h]
 show(decide ((3:Int)=3)&&decide (x=y))=_
 rw[decide_eq_true rfl,Bool.true_and]
theorem zLg {p:ByteArray->Bool} {l:List Tk} {i:Nat} {x:ByteArray} (h:l[i]? = some (ky x)):nam p l i=none:=by
 unfold nam;rw[h]
 show(if (decide ((3:Int)=1)&&p x)=true then some x else none)=none
 rw[decide_eq_false (by decide),Bool.false_and]
 rfl
section
variable {nk lg:ByteArray->Bool}
theorem mU {s:ByteArray} (h:isEmp s=true):s=nob:=by
 have h:=of_decide_eq_true h;obtain⟨⟨l⟩⟩:=s
 cases l with
 | nil=>rfl
 | cons a l=>simp[ByteArray.size] at h
theorem fH {x:Nod} {k:Int} {a:ByteArray} (hk:k=x.k) (h1:0<=x.n) (h2:x.n<=0) (ha:x.a=a) (hm:isEmp x.m=true):x=⟨k,0,a,nob⟩:=by
 obtain⟨k',n,a',m⟩:=x;simp only at hk h1 h2 ha hm;subst hk;subst ha;have h3:n=0:=by omega
 rw[h3,mU hm]
inductive tW (nk lg:ByteArray->Bool):Tr->Prop
 | leaf (k:Int) (h:k=1\/k=2\/k=3):tW nk lg (nd k nob .nil)
 | name (s:ByteArray) (h:lg s=true):tW nk lg (nd 4 s .nil)
 | two (k:Int) (h:k=5\/k=6) (a b:Tr) (ha:isT nk lg a 1=true) (hb:isT nk lg b 1=true):tW nk lg (nd k nob (fr2 a b))
 | mu (s:ByteArray) (h:nk s=true) (c:Fr) (hc:ConOk nk lg c) (h0:0<c.len):tW nk lg (nd 7 s c)
theorem zOf (l:List Inf):seqOk l []=l.isEmpty:=by cases l<;>rfl
theorem pV {f:Fr} (h:seqOk (infF nk lg f) []=true):f = .nil:=by
 cases f with
 | nil=>rfl
 | cons x k r=>cases h
theorem zXz {f:Fr} (h:seqOk (infF nk lg f) [116,116]=true):∃a b,f=fr2 a b/\isT nk lg a 1=true/\isT nk lg b 1=true:=by
 cases f with
 | nil=>cases h
 | cons x k r=>
  cases r with
  | nil=>
   have h:(isT nk lg (x,k) 1&&false)=true:=h;rw[Bool.and_false] at h
   cases h
  | cons y m q=>
   have h:(isT nk lg (x,k) 1&&(isT nk lg (y,m) 1&&seqOk (infF nk lg q) []))=true:=h;rw[zOf] at h;simp only[Bool.and_eq_true] at h;refine⟨(x,k),(y,m),?_,h.1,h.2.1⟩
   cases q with
   | nil=>rfl
   | cons _ _ _=>cases h.2.2
theorem zOg {t:Tr} (h:isT nk lg t 1=true):tW nk lg t:=by
 obtain⟨x,f⟩:=t;obtain⟨r,hr,hf⟩:=qT.1 h;obtain⟨hc,hk,ha,hm,h1,h2,hs⟩:=qU.1 hf;simp only[RWS,List.mem_cons,List.not_mem_nil,or_false] at hr
 rcases hr with rfl | rfl | rfl | rfl | rfl | rfl | rfl | rfl | rfl | rfl | rfl | rfl | rfl | rfl | rfl | rfl | rfl | rfl | rfl | rfl | rfl | rfl | rfl | rfl | rfl | rfl | rfl | rfl | rfl | rfl | rfl | rfl | rfl | rfl | rfl | rfl | rfl | rfl | rfl | rfl | rfl | rfl | rfl | rfl | rfl | rfl | rfl
 all_goals try (exact absurd hc (by decide))
 ·have e:x=⟨1,0,nob,nob⟩:=fH hk h1 h2 (mU ha) hm
  have ef:f = .nil:=pV hs;rw[e,ef];exact .leaf 1 (by omega)
 ·have e:x=⟨2,0,nob,nob⟩:=fH hk h1 h2 (mU ha) hm
  have ef:f = .nil:=pV hs;rw[e,ef];exact .leaf 2 (by omega)
 ·have e:x=⟨3,0,nob,nob⟩:=fH hk h1 h2 (mU ha) hm
  have ef:f = .nil:=pV hs;rw[e,ef];exact .leaf 3 (by omega)
 ·have e:x=⟨4,0,x.a,nob⟩:=fH hk h1 h2 rfl hm
  have ha:lg x.a=true:=ha;have ef:f = .nil:=pV hs;rw[e,ef];exact .name x.a ha
 ·obtain⟨a,b,rfl,hA,hB⟩:=zXz hs
  have e:x=⟨5,0,nob,nob⟩:=fH hk h1 h2 (mU ha) hm;rw[e];exact .two 5 (by omega) a b hA hB
 ·obtain⟨a,b,rfl,hA,hB⟩:=zXz hs
  have e:x=⟨6,0,nob,nob⟩:=fH hk h1 h2 (mU ha) hm;rw[e];exact .two 6 (by omega) a b hA hB
 ·have e7:x=⟨7,0,x.a,nob⟩:=fH hk h1 h2 rfl hm
  have ha:nk x.a=true:=ha;rw[e7];have e:seqOk (infF nk lg f) [67]=(!(infF nk lg f).isEmpty&&((infF nk lg f).all fun i=>i.is 8)&&jV (infF nk lg f)):=by cases infF nk lg f<;>rfl
  have hs:seqOk (infF nk lg f) [67]=true:=hs;rw[e] at hs;simp only[Bool.and_eq_true] at hs;refine .mu x.a ha f ⟨hs.1.2,hs.2⟩ ?_
  cases f with
  | nil=>cases hs.1.1
  | cons _ _ _=>exact Nat.succ_pos _
end
end Go.Proofs.YtgeghilbikljcaaGreatDoor
namespace Go.Proofs.YtgeghilbikljcaaGreatDoor
open Go.RowKit
def Tkm (w:World) (v:Value) (l:List Tk):Prop:=∃A c,v = .slice A l.length c/\∀(j:Nat) (t:Tk),l[j]? = some t->∃b o,A=some ⟨b,o,none⟩/\b<w.heap.size/\w.cell? ⟨b,o+j*4,none⟩=some (.int .i64 t.k)/\w.cell? ⟨b,o+j*4+1,none⟩=some (.string t.s)
theorem Tkm.up {W w:World} {v:Value} {l:List Tk} (h:Tkm W v l) (u:Up W w):Tkm w v l:=by
 obtain⟨A,c,rfl,h⟩:=h;refine⟨A,c,rfl,fun j t ht=>?_⟩;obtain⟨b,o,h1,h2,h3,h4⟩:=h j t ht;exact⟨b,o,h1,Nat.lt_of_lt_of_le h2 u.size,u.cell h3,u.cell h4⟩
theorem zLh (a b:ByteArray):(a.toList==b.toList)=decide (a=b):=by
 by_cases h:a=b
 ·rw[h,decide_eq_true rfl]
  simp
 ·rw[decide_eq_false h,beq_eq_false_iff_ne]
  intro e;rw[Lib.toList_data,Lib.toList_data] at e;exact h (B.fB e)
def keyZ (l:List Tk) (i:Int) (x:ByteArray):Bool:=decide (0<=i)&&key l i.toNat x
def BoU (b:Bool) (w:World) (e:Ending) (w':World):Prop:=e = .returned (.bool b)/\Up w w'
theorem vF {a b:Bool} {w w':World} (h:a=b) (u:Up w w'):BoU a w (.returned (.bool b)) w':=⟨by rw[h],u⟩
def namZ (p:ByteArray->Bool) (l:List Tk) (i:Int):Option ByteArray:=if 0<=i then nam p l i.toNat else none
def NaP (o:Option ByteArray) (w:World) (e:Ending) (w':World):Prop:=e = .returned (.tuple #[.string (o.getD nob),.bool o.isSome])/\Up w w'
section
variable {nk lg:ByteArray->Bool}
def LeOk {α:Type} (N:Nat) (R:Rs α):Prop:=pl R<=N/\∀p e,R = .inr (p,e)->¬e=0
theorem St.leok {α:Type} {N:Nat} {R R':Rs α} (h:St N R R'):LeOk N R:=⟨h.le,fun p e he=>by rcases h.bad p e he with h | ⟨h,_⟩<;>omega⟩
theorem eG (l:List Tk) (i:Nat) (hi:i<=l.length):LeOk l.length (typL nk lg l i):=((vW l [] _).1 i hi).leok
theorem zSf (l:List Tk) (i:Nat) (hi:i<=l.length):LeOk l.length (prodL nk lg l i):=((vW l [] _).2.1 i hi).leok
theorem zSg (l:List Tk) (i:Nat) (hi:i<=l.length):LeOk l.length (atomL nk lg l i):=((vW l [] _).2.2.1 i hi).leok
theorem oS (l:List Tk) (i:Nat) (acc:Fr) (hi:i<=l.length):LeOk l.length (consL nk lg l i acc):=((vW l [] _).2.2.2 i acc hi).leok
end
def NewS (W w:World) (q:Nat):Prop:=W.heap.size<=q/\q<w.heap.size
def NewT (W w:World) (v:Value) (t:Tr):Prop:=InT w (NewS W w) v t
theorem NewT.up {W a w:World} {v:Value} {t:Tr} (h:NewT W a v t) (u:Up a w):NewT W w v t:=InT.keep h (fun _ hq=>⟨hq.1,Nat.lt_of_lt_of_le hq.2 u.size⟩) fun b hb=>Below.block u b hb.2
theorem NewT.base {W a w:World} {v:Value} {t:Tr} (h:NewT a w v t) (u:W.heap.size<=a.heap.size):NewT W w v t:=InT.keep h (fun _ hq=>⟨Nat.le_trans u hq.1,hq.2⟩) fun _ _=>rfl
theorem NewT.has {W w:World} {v:Value} {t:Tr} (h:NewT W w v t):HasT w v (some t):=InT.keep h (fun _ hq=>hq.2) fun _ _=>rfl
theorem yU (w:World) (o:Obj) {n:Nat} (h:w.heap.size=n):(w.alloc o).heap[n]? = some o:=by rw[<- h];exact heap_alloc_new w o
theorem yF {w:World} {b:Nat} {o:Obj} (o':Obj) (h:w.heap[b]? = some o):(w.alloc o').heap[b]? = some o:=(Below.heap_alloc _ _ _ (qC h)).trans h
theorem yV {w:World} {S:Nat->Prop} {b g n c:Nat} {x:Nod} {f:Fr} (h:w.heap[b]? = some (.cells #[.int .i64 x.k,.int .i64 x.n,.string x.a,.string x.m,.slice (some ⟨g,0,none⟩) n c] 44 (0,0))) (hn:f.len=n) (hc:n<=c) (hS:S b) (hg:S g) (hf:InF w S f g 0):InT w S (.pointer (some ⟨b,0,none⟩)) (x,f):=by
 subst hn;exact⟨b,0,some ⟨g,0,none⟩,c,rfl,hS,⟨_,_,h⟩,cell_of_row w b 0 _ _ _ h,cell_of_row w b 1 _ _ _ h,cell_of_row w b 2 _ _ _ h,cell_of_row w b 3 _ _ _ h,cell_of_row w b 4 _ _ _ h,hc,fun _=>⟨g,0,rfl,hg,hf⟩⟩
theorem kR {w:World} {S:Nat->Prop} {b:Nat} {x:Nod} (h:w.heap[b]? = some (.cells #[.int .i64 x.k,.int .i64 x.n,.string x.a,.string x.m,.slice none 0 0] 44 (0,0))) (hS:S b):InT w S (.pointer (some ⟨b,0,none⟩)) (x,.nil):=
 ⟨b,0,none,0,rfl,hS,⟨_,_,h⟩,cell_of_row w b 0 _ _ _ h,cell_of_row w b 1 _ _ _ h,cell_of_row w b 2 _ _ _ h,cell_of_row w b 3 _ _ _ h,cell_of_row w b 4 _ _ _ h,Nat.le_refl _,fun hn=>absurd hn (by simp[Fr.len])⟩
end Go.Proofs.YtgeghilbikljcaaGreatDoor
namespace Go.Proofs.YtgeghilbikljcaaGreatDoor
def rowF (l:List Tk) (m:ByteArray) (part:Fr->Nat->Rs Tr):Nat->Fr->Nat->Rs Fr
 | 0,_,i=>.inr (i,6)
 | n+1,acc,i=>match part acc i with
  | .inr e=>.inr e
  | .inl (t,j)=>if key l j m then rowF l m part n (acc.app (fr1 t)) (j+1) else .inl (acc.app (fr1 t),j)
def rowS (l:List Tk) (m:ByteArray) (r:Rs Tr) (acc:Fr) (R:Fr->Nat->Rs Fr):Rs Fr:=match r with
 | .inr e=>.inr e
 | .inl (t,j)=>if key l j m then R (acc.app (fr1 t)) (j+1) else .inl (acc.app (fr1 t),j)
theorem zY2 (l:List Tk) (m:ByteArray) (part:Fr->Nat->Rs Tr) (n:Nat) (acc:Fr) (i:Nat):rowF l m part (n+1) acc i=rowS l m (part acc i) acc (rowF l m part n):=by rw[rowF];rfl
theorem bB {l:List Tk} {m:ByteArray} {part:Fr->Nat->Rs Tr} (ha:∀acc i,Ahead i (part acc i)):∀(n:Nat) (acc:Fr) (i:Nat),i<=l.length->l.length+1-i<=n->rowF l m part (n+1) acc i=rowF l m part n acc i
 | 0,acc,i,hi,hn=>by omega
 | n+1,acc,i,hi,hn=>by
  rw[zY2,zY2];unfold rowS;have h1:=ha acc i
  cases h:part acc i with
  | inr e=>rfl
  | inl r=>
   obtain⟨t,j⟩:=r;rw[h] at h1;have h1:i<j:=h1;simp only
   split
   ·rename_i hk
    have:=zY hk;exact bB ha n _ _ (by omega) (by omega)
   ·rfl
theorem zW0 {l:List Tk} {m:ByteArray} {part:Fr->Nat->Rs Tr} (ha:∀acc i,Ahead i (part acc i)) {n:Nat} {acc:Fr} {i:Nat} (hi:i<=l.length) (hn:l.length+1-i<=n):∀d,rowF l m part (n+d) acc i=rowF l m part n acc i
 | 0=>rfl
 | d+1=>by rw[<- Nat.add_assoc,bB ha _ _ _ hi (by omega),zW0 ha hi hn d]
def rowL (l:List Tk) (m:ByteArray) (part:Fr->Nat->Rs Tr) (acc:Fr) (i:Nat):Rs Fr:=rowF l m part (l.length+1) acc i
theorem wR {l:List Tk} {m:ByteArray} {part:Fr->Nat->Rs Tr} (ha:∀acc i,Ahead i (part acc i)) (acc:Fr) (i:Nat) (hi:i<=l.length):rowL l m part acc i=rowS l m (part acc i) acc (rowL l m part):=by
 have h:rowL l m part acc i=rowF l m part (l.length+1+1) acc i:=(zW0 ha hi (by omega) 1).symm;rw[h,zY2]
 rfl
def foldK (k:Int):Fr->Tr
 | .nil=>nd k nob .nil
 | .cons x f r=>if r.len=0 then (x,f) else nd k nob (fr2 (x,f) (foldK k r))
theorem bC (k:Int) (t:Tr) {r:Fr} (h:0<r.len):foldK k ((fr1 t).app r)=nd k nob (fr2 t (foldK k r)):=by
 show(if (Fr.app .nil r).len=0 then _ else _)=_
 rw[if_neg (by show ¬r.len=0;omega)]
 rfl
def toT (k:Int):Rs Fr->Rs Tr
 | .inr e=>.inr e
 | .inl (f,j)=>.inl (foldK k f,j)
def mapF (a:Fr):Rs Fr->Rs Fr
 | .inr e=>.inr e
 | .inl (f,j)=>.inl (a.app f,j)
section
variable {l:List Tk} {m:ByteArray} {P:Nat->Rs Tr}
theorem gD (ha:∀i,Ahead i (P i)):∀(d:Nat) (acc:Fr) (i:Nat),l.length-i<=d->i<=l.length->rowL l m (fun _=>P) acc i=mapF acc (rowL l m (fun _=>P) .nil i)
 | d,acc,i,hd,hi=>by
  have h1:=ha i;rw[wR (fun _=>ha) acc i hi,wR (fun _=>ha) .nil i hi];unfold rowS
  cases h:P i with
  | inr e=>rfl
  | inl r=>
   obtain⟨t,j⟩:=r;rw[h] at h1;have h1:i<j:=h1;simp only
   split
   ·rename_i hk
    have:=zY hk
    cases d with
    | zero=>omega
    | succ d=>
     rw[gD ha d _ (j+1) (by omega) (by omega),gD ha d (Fr.app .nil (fr1 t)) (j+1) (by omega) (by omega)]
     cases rowL l m (fun _=>P) .nil (j+1) with
     | inr e=>rfl
     | inl q=>show Sum.inl (_,_)=Sum.inl (_,_);rw[Fr.app_assoc];rfl
   ·rfl
theorem zOh (ha:∀i,Ahead i (P i)):∀(d:Nat) (i:Nat),l.length-i<=d->i<=l.length->∀f j,rowL l m (fun _=>P) .nil i = .inl (f,j)->0<f.len
 | d,i,hd,hi,f,j,h=>by
  have h1:=ha i;rw[wR (fun _=>ha) .nil i hi] at h;unfold rowS at h
  cases hp:P i with
  | inr e=>rw[hp] at h;cases h
  | inl r=>
   obtain⟨t,q⟩:=r;rw[hp] at h h1;have h1:i<q:=h1;simp only at h
   split at h
   ·rename_i hk
    have:=zY hk;rw[gD ha (l.length-(q+1)) _ (q+1) (Nat.le_refl _) (by omega)] at h
    cases hr:rowL l m (fun _=>P) .nil (q+1) with
    | inr e=>rw[hr] at h;cases h
    | inl s=>
     rw[hr] at h;have h:=Sum.inl.inj h;have h:=congrArg Prod.fst h;have h:(Fr.app .nil (fr1 t)).app s.1=f:=h;rw[<- h,Fr.len_app]
     show 0<1+_
     omega
   ·have h:=congrArg Prod.fst (Sum.inl.inj h)
    have h:Fr.app .nil (fr1 t)=f:=h;rw[<- h];exact Nat.succ_pos _
theorem eH {k:Int} {T:Nat->Rs Tr} (ha:∀i,Ahead i (P i)) (hT:∀i,T i=typS m k l (P i) T):∀(d:Nat) (i:Nat),l.length-i<=d->i<=l.length->toT k (rowL l m (fun _=>P) .nil i)=T i
 | d,i,hd,hi=>by
  have h1:=ha i;rw[wR (fun _=>ha) .nil i hi,hT i];unfold rowS typS
  cases h:P i with
  | inr e=>rfl
  | inl r=>
   obtain⟨t,j⟩:=r;rw[h] at h1;have h1:i<j:=h1;simp only
   split
   ·rename_i hk
    have:=zY hk
    cases d with
    | zero=>omega
    | succ d=>
     have ih:=eH (k:=k) ha hT d (j+1) (by omega) (by omega);rw[gD ha d _ (j+1) (by omega) (by omega),<- ih]
     cases hr:rowL l m (fun _=>P) .nil (j+1) with
     | inr e=>rfl
     | inl q=>
      obtain⟨f,q⟩:=q;have hne:=zOh ha d (j+1) (by omega) (by omega) f q hr
      show Sum.inl (foldK k ((fr1 t).app f),q)=Sum.inl (nd k nob (fr2 t (foldK k f)),q)
      rw[bC k t hne]
   ·rfl
end
section
variable {nk lg:ByteArray->Bool}
theorem zSh (l:List Tk) (i:Nat) (hi:i<=l.length):toT 5 (rowL l jX (fun _=>prodL nk lg l) .nil i)=typL nk lg l i:=eH (vU l) (zOa l) _ i (Nat.le_refl _) hi
theorem zVi (l:List Tk) (i:Nat) (hi:i<=l.length):toT 6 (rowL l kStar (fun _=>atomL nk lg l) .nil i)=prodL nk lg l i:=eH (vV l) (zS8 l) _ i (Nat.le_refl _) hi
def conS (nk lg:ByteArray->Bool) (l:List Tk) (acc:Fr) (i:Nat):Rs Tr:=match nam nk l i with
 | none=>.inr (i,6)
 | some s=>if hasN acc s then .inr (i,9) else if key l (i+1) kOf then (match typL nk lg l (i+2) with
  | .inr e=>.inr e
  | .inl (t,j)=>.inl (nd 8 s (fr1 t),j)) else .inr (i+1,6)
theorem zY3 (l:List Tk) (acc:Fr) (i:Nat):Ahead i (conS nk lg l acc i):=by
 have h1:=fG (nk:=nk) (lg:=lg) l (i+2);unfold conS
 split
 ·exact Nat.le_refl _
 ·split
  ·exact Nat.le_refl _
  ·split
   ·cases h:typL nk lg l (i+2) with
    | inr e=>rw[h] at h1;have h1:i+2<=e.1:=h1;show i<=e.1;omega
    | inl r=>rw[h] at h1;have h1:i+2<r.2:=h1;show i<r.2;omega
   ·show i<=i+1;omega
theorem zY4 (l:List Tk) (acc:Fr) (i:Nat):consL nk lg l i acc=rowS l kBar (conS nk lg l acc i) acc fun a j=>consL nk lg l j a:=by
 rw[zSa];unfold consS conS rowS
 cases nam nk l i with
 | none=>rfl
 | some s=>
  simp only
  split
  ·rfl
  ·split
   ·cases typL nk lg l (i+2) with
    | inr e=>rfl
    | inl r=>rfl
   ·rfl
end
end Go.Proofs.YtgeghilbikljcaaGreatDoor
