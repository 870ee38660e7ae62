/-
  Plain: what is parsed of some tokens is parsed of them wherever they stand, if a sign that ends it stands behind.
-/
import Derived.Test.YtbpijnalmakfaaaGreatDoorGs44
import Derived.Test.YtbpijnalmakfaaaGreatDoorGs45
set_option maxHeartbeats 40000000
set_option maxRecDepth 100000
namespace Go.Proofs.YtbpijnalmakfaaaGreatDoor
def Keep {α:Type} (d:Nat) (R R':Rs α):Prop:=∀a j,R = .inl (a,j)→R' = .inl (a,d+j)
theorem Keep.bnd {α β:Type} {d:Nat} {R R':Rs α} {f f':α→Nat→Rs β} (h:Keep d R R') (hf:∀a j,R = .inl (a,j)→Keep d (f a j) (f' a (d+j))):Keep d (thn R f) (thn R' f'):=fun b m hb=>by
 obtain⟨a,j,h1,h2⟩:=qG hb;rw[h a j h1];exact hf a j h1 b m h2
theorem Keep.ok {α:Type} {d:Nat} {a:α} {j j':Nat} (h:j'=d+j):Keep (α:=α) d (.inl (a,j)) (.inl (a,j')):=fun b m hb=>by
 injection hb with hb;injection hb with h1 h2;rw[←h1,←h2,h]
theorem Keep.no {α:Type} {d:Nat} {e:Nat×Int} {R':Rs α}:Keep (α:=α) d (.inr e) R':=fun b m hb=>by cases hb
structure vB (l l':List Te) (d:Nat):Prop where
 at_:∀i,i<l.length→l'[d+i]? = l[i]?
 end_:l'[d+l.length]? = none∨∃y n,l'[d+l.length]? = some ⟨ky y,n⟩∧(y=kShut∨y=qJ)
section
variable {nk lg:ByteArray→Bool} {l l':List Te} {d:Nat}
theorem vB.key (h:vB l l' d) {i:Nat} (hi:i≤l.length) {x:ByteArray} (h1:¬x=kShut) (h2:¬x=qJ):key (tks l') (d+i) x=key (tks l) i x:=by
 by_cases hlt:i<l.length
 ·unfold Proofs.YtbpijnalmakfaaaGreatDoor.key
  rw[kD,kD,h.at_ i hlt]
 ·have e:i=l.length:=by omega
  subst e;rw[yO (l:=tks l) (i:=l.length) (by rw[zD];exact Nat.le_refl _)]
  rcases h.end_ with h0 | ⟨y,n,h0,hy⟩
  ·unfold Proofs.YtbpijnalmakfaaaGreatDoor.key
   rw[kD,h0];rfl
  ·have:(tks l')[d+l.length]? = some (ky y):=by rw[kD,h0];rfl
   rw[zN this]
   rcases hy with rfl | rfl
   ·exact decide_eq_false fun e=>h1 e.symm
   ·exact decide_eq_false fun e=>h2 e.symm
theorem vB.keyT (h:vB l l' d) {i:Nat} {x:ByteArray} (hk:Proofs.YtbpijnalmakfaaaGreatDoor.key (tks l) i x=true):Proofs.YtbpijnalmakfaaaGreatDoor.key (tks l') (d+i) x=true:=by
 have hlt:=qH hk;unfold Proofs.YtbpijnalmakfaaaGreatDoor.key at *;rw[kD] at *;rw[h.at_ i hlt];exact hk
theorem vB.keyL (h:vB l l' d) {i:Nat} (hi:i<l.length) {x:ByteArray}:Proofs.YtbpijnalmakfaaaGreatDoor.key (tks l') (d+i) x=Proofs.YtbpijnalmakfaaaGreatDoor.key (tks l) i x:=by
 unfold Proofs.YtbpijnalmakfaaaGreatDoor.key;rw[kD,kD,h.at_ i hi]
theorem vB.nam (h:vB l l' d) {i:Nat} (hi:i≤l.length) {p:ByteArray→Bool}:nam p (tks l') (d+i)=nam p (tks l) i:=by
 by_cases hlt:i<l.length
 ·unfold Proofs.YtbpijnalmakfaaaGreatDoor.nam
  rw[kD,kD,h.at_ i hlt]
 ·have e:i=l.length:=by omega
  subst e;rw[nW (l:=tks l) (by rw[zD];exact Nat.le_refl _)]
  rcases h.end_ with h0 | ⟨y,n,h0,hy⟩
  ·unfold Proofs.YtbpijnalmakfaaaGreatDoor.nam
   rw[kD,h0];rfl
  ·have:(tks l')[d+l.length]? = some (ky y):=by rw[kD,h0];rfl
   exact dU this
theorem vB.hd (h:vB l l' d) {i:Nat} (hi:i≤l.length):hdE lg l' (d+i)=hdE lg l i:=by
 by_cases hlt:i<l.length
 ·unfold hdE
  rw[h.at_ i hlt]
 ·have e:i=l.length:=by omega
  subst e;have e0:hdE lg l l.length = .no:=by
   unfold hdE;rw[List.getElem?_eq_none (Nat.le_refl _)]
  rw[e0]
  rcases h.end_ with h0 | ⟨y,n,h0,hy⟩
  ·unfold hdE
   rw[h0]
  ·rw[zOp h0]
   rcases hy with rfl | rfl<;>rfl
theorem wP (h:vB l l' d):∀(ks:List ByteArray) (i:Nat),Keep d (keysL (tks l) i ks) (keysL (tks l') (d+i) ks)
 | [],i=>Keep.ok rfl
 | k::r,i=>by
  unfold keysL
  cases hk:key (tks l) i k with
  | false=>exact Keep.no
  | true=>
   rw[h.keyT hk];exact wP h r (i+1)
theorem kP (h:vB l l' d) {α:Type} {R R':Rs α} (hR:Keep d R R') (ks:List ByteArray):Keep d (thenK (tks l) R ks) (thenK (tks l') R' ks):=
 hR.bnd fun _ j _=>(wP h ks j).bnd fun _ _ _=>Keep.ok rfl
theorem mS (h:vB l l' d) {p:ByteArray→Bool} {i:Nat} (hi:i≤l.length) (ks:List ByteArray):Keep d (nameQ p (tks l) i ks) (nameQ p (tks l') (d+i) ks):=by
 unfold nameQ;rw[h.nam hi]
 split
 ·exact Keep.no
 ·rename_i s hs
  exact(wP h ks (i+1)).bnd fun _ _ _=>Keep.ok rfl
theorem zTr (m:ByteArray) (k:Int) (l:List Tk) (r:Rs Tr) (T:Nat→Rs Tr):typS m k l r T=thn r fun a j=>if key l j m then thn (T (j+1)) fun b q=>.inl (nd k nob (fr2 a b),q) else .inl (a,j):=by
 unfold typS thn
 cases r with
 | inr e=>rfl
 | inl r=>
  simp only
  split
  ·cases T (r.2+1)<;>rfl
  ·rfl
theorem zY9 (nk:ByteArray→Bool) (l:List Tk) (i:Nat) (acc:Fr) (T:Nat→Rs Tr) (C:Nat→Fr→Rs Fr):consS nk l i acc T C=match nam nk l i with
 | none=>.inr (i,6)
 | some s=>if hasN acc s then .inr (i,9) else if key l (i+1) kOf then thn (T (i+2)) fun t j=>(if key l j kBar then C (j+1) (acc.app (fr1 (nd 8 s (fr1 t)))) else .inl (acc.app (fr1 (nd 8 s (fr1 t))),j)) else .inr (i+1,6):=by
 unfold consS thn
 cases nam nk l i with
 | none=>rfl
 | some s=>
  simp only
  split
  ·rfl
  ·split
   ·cases T (i+2)<;>rfl
   ·rfl
theorem zYa (h:vB l l' d) {m:ByteArray} (h1:¬m=kShut) (h2:¬m=qJ) {k:Int} {r r':Rs Tr} {T T':Nat→Rs Tr} (hr:Keep d r r') (hj:∀a j,r = .inl (a,j)→j≤l.length) (hT:∀j,j≤l.length→Keep d (T j) (T' (d+j))):Keep d (typS m k (tks l) r T) (typS m k (tks l') r' T'):=by
 rw[zTr,zTr];refine hr.bnd fun a j ha=>?_
 have hjl:=hj a j ha;rw[h.key hjl h1 h2]
 split
 ·rename_i hk
  exact(hT (j+1) (qH hk)).bnd fun _ _ _=>Keep.ok rfl
 ·exact Keep.ok rfl
theorem zQd (h:vB l l' d) {i:Nat} (hi:i≤l.length) {T T':Nat→Rs Tr} {C C':Nat→Fr→Rs Fr} (hT:∀j,j≤l.length→Keep d (T j) (T' (d+j))) (hC:∀j a,j≤l.length→Keep d (C j a) (C' (d+j) a)):Keep d (atomS nk lg (tks l) i T C) (atomS nk lg (tks l') (d+i) T' C'):=by
 unfold atomS;rw[h.nam hi,h.key hi (by decide) (by decide),h.key hi (by decide) (by decide),h.key hi (by decide) (by decide),h.key hi (by decide) (by decide),h.key hi (by decide) (by decide)]
 split
 ·exact Keep.ok rfl
 ·split
  ·exact Keep.ok rfl
  ·split
   ·exact Keep.ok rfl
   ·split
    ·exact Keep.ok rfl
    ·split
     ·rename_i hk
      have hlt:=qH hk;have:=hT (i+1) hlt
      cases hq:T (i+1) with
      | inr e=>exact Keep.no
      | inl r=>
       obtain⟨a,j⟩:=r;have e:=this a j hq;rw[show d+i+1=d+(i+1) from rfl,e];simp only
       cases hs:key (tks l) j kShut with
       | false=>exact Keep.no
       | true=>
        rw[h.keyT hs];exact Keep.ok rfl
     ·split
      ·rename_i hk
       have hlt:=qH hk;rw[show d+i+1=d+(i+1) from rfl,h.nam hlt]
       cases hn:nam nk (tks l) (i+1) with
       | none=>exact Keep.no
       | some s=>
        simp only;rw[show d+i+2=d+(i+2) from rfl]
        cases h2:key (tks l) (i+2) kLeft with
        | false=>exact Keep.no
        | true=>
         rw[h.keyT h2];have:=hC (i+3) .nil (qH h2);rw[show d+i+3=d+(i+3) from rfl]
         cases hq:C (i+3) .nil with
         | inr e=>exact Keep.no
         | inl r=>
          obtain⟨a,j⟩:=r;rw[this a j hq];simp only
          cases hs:key (tks l) j zY with
          | false=>exact Keep.no
          | true=>
           rw[h.keyT hs];exact Keep.ok rfl
      ·exact Keep.no
theorem zQe (h:vB l l' d) {i:Nat} (hi:i≤l.length) {acc:Fr} {T T':Nat→Rs Tr} {C C':Nat→Fr→Rs Fr} (hj:∀i a j,i≤l.length→T i = .inl (a,j)→j≤l.length) (hT:∀j,j≤l.length→Keep d (T j) (T' (d+j))) (hC:∀j a,j≤l.length→Keep d (C j a) (C' (d+j) a)):Keep d (consS nk (tks l) i acc T C) (consS nk (tks l') (d+i) acc T' C'):=by
 rw[zY9,zY9,h.nam hi]
 cases hn:nam nk (tks l) i with
 | none=>exact Keep.no
 | some s=>
  simp only
  split
  ·exact Keep.no
  ·rw[show d+i+1=d+(i+1) from rfl]
   cases h1:key (tks l) (i+1) kOf with
   | false=>exact Keep.no
   | true=>
    rw[h.keyT h1];have hlt:i+2≤l.length:=qH h1;refine(hT (i+2) hlt).bnd fun a j ha=>?_
    have hjl:=hj _ a j hlt ha;rw[h.key hjl (by decide) (by decide)]
    split
    ·rename_i hk
     exact hC (j+1) _ (qH hk)
    ·exact Keep.ok rfl
theorem zD2 {α:Type} {N:Nat} {R R':Rs α} (h:St N R R') {a:α} {j:Nat} (hR:R = .inl (a,j)):j≤N:=by have:=h.le;rw[hR] at this;exact this
theorem lW (h:vB l l' d):∀(n:Nat),(∀i,i≤l.length→Keep d (typF nk lg n (tks l) i) (typF nk lg n (tks l') (d+i)))∧(∀i,i≤l.length→Keep d (prodF nk lg n (tks l) i) (prodF nk lg n (tks l') (d+i)))∧
  (∀i,i≤l.length→Keep d (atomF nk lg n (tks l) i) (atomF nk lg n (tks l') (d+i)))∧(∀i acc,i≤l.length→Keep d (consF nk lg n (tks l) i acc) (consF nk lg n (tks l') (d+i) acc))
 | 0=>⟨(fun i _=>by rw[typF];exact Keep.no),(fun i _=>by rw[prodF];exact Keep.no),(fun i _=>by rw[atomF];exact Keep.no),(fun i _ _=>by rw[consF];exact Keep.no)⟩
 | n+1=>by
  obtain⟨hT,hP,hA,hC⟩:=lW h n;obtain⟨sT,sP,sA,sC⟩:=sF (nk:=nk) (lg:=lg) (tks l) [] n;rw[zD] at sT sP sA;refine⟨fun i hi=>?_,fun i hi=>?_,fun i hi=>?_,fun i acc hi=>?_⟩
  ·rw[mZ,mZ]
   exact zYa h (by decide) (by decide) (hP i hi) (fun a j ha=>zD2 (sP i hi) ha) hT
  ·rw[fE,fE]
   exact zYa h (by decide) (by decide) (hA i hi) (fun a j ha=>zD2 (sA i hi) ha) hP
  ·rw[fF,fF]
   exact zQd h hi hT hC
  ·rw[fG,fG]
   exact zQe h hi (fun i a j hi ha=>zD2 (sT i hi) ha) hT hC
theorem zTs (h:vB l l' d) {i:Nat} (hi:i≤l.length):Keep d (typL nk lg (tks l) i) (typL nk lg (tks l') (d+i)):=by
 have h1:=(lW (nk:=nk) (lg:=lg) h (4*l.length+8+4*l'.length)).1 i hi;have e1:typF nk lg (4*l.length+8+4*l'.length) (tks l) i=typL nk lg (tks l) i:=by
  have:=gC (nk:=nk) (lg:=lg) (l:=tks l) (i:=i) (n:=4*(tks l).length+8) (by omega) (4*l'.length);rw[zD] at this;rw[this];unfold typL;rw[zD]
 have e2:typF nk lg (4*l.length+8+4*l'.length) (tks l') (d+i)=typL nk lg (tks l') (d+i):=by
  have:=gC (nk:=nk) (lg:=lg) (l:=tks l') (i:=d+i) (n:=4*(tks l').length+8) (by omega) (4*l.length);rw[zD] at this;rw[show 4*l.length+8+4*l'.length=4*l'.length+8+4*l.length by omega,this];unfold typL;rw[zD]
 rw[e1,e2] at h1;exact h1
theorem zTt {T T':Nat→Rs Tr} {s s':Nat→Option (Nod×Nat)} (hs:∀j,j≤l.length→s' (d+j)=s j) (hd:∀j x q,s j=some (x,q)→j+q≤l.length) (hj:∀i a j,i≤l.length→T i = .inl (a,j)→j≤l.length) (hT:∀j,j≤l.length→Keep d (T j) (T' (d+j))) :
  ∀(n:Nat) (a:Tr) (j:Nat),j≤l.length→Keep d (lop T s n a j) (lop T' s' n a (d+j))
 | 0,_,_,_=>Keep.no
 | n+1,a,j,hjl=>by
  unfold lop;rw[hs j hjl]
  cases h:s j with
  | none=>exact Keep.ok rfl
  | some r=>
   obtain⟨x,q⟩:=r;have hq:=hd j x q h;simp only;rw[Nat.add_assoc];exact(hT (j+q) hq).bnd fun b m hb=>zTt hs hd hj hT n _ m (hj _ b m hq hb)
theorem dX {T T':Nat→Rs Tr} {s s':Nat→Option (Nod×Nat)} (hs:∀j,j≤l.length→s' (d+j)=s j) (hd:∀j x q,s j=some (x,q)→j+q≤l.length) (hj:∀i a j,i≤l.length→T i = .inl (a,j)→j≤l.length) (hT:∀j,j≤l.length→Keep d (T j) (T' (d+j))) (n:Nat) {i:Nat} (hi:i≤l.length):Keep d (lopS T s n i) (lopS T' s' n (d+i)):=
 (hT i hi).bnd fun a j ha=>zTt hs hd hj hT n a j (hj i a j hi ha)
theorem zKp (h:vB l l' d) {n:Nat} {A A':Nat→Rs Tr} (aA:∀j,j≤l.length→In l.length j (A j)) (hA:∀j,j≤l.length→Keep d (A j) (A' (d+j))) {i:Nat} (hi:i≤l.length):Keep d (appS lg l n A i) (appS lg l' n A' (d+i)):=
 dX (fun j hj=>by unfold sApp;rw[h.hd hj]) (fun _ _ _ h=>(zX5 h).1) (fun i a j hi ha=>xL (aA i hi) ha) hA n hi
theorem zKq (h:vB l l' d) {n:Nat} {A A':Nat→Rs Tr} (aA:∀j,j≤l.length→In l.length j (A j)) (hA:∀j,j≤l.length→Keep d (A j) (A' (d+j))) {i:Nat} (hi:i≤l.length):Keep d (mulS lg l n A i) (mulS lg l' n A' (d+i)):=
 dX (fun j hj=>by unfold sMul;rw[h.key hj (by decide) (by decide)]) (fun _ _ _ h=>(zX6 h).1) (fun i a j hi ha=>xL (aH aA hi) ha) (fun j hj=>zKp h aA hA hj) n hi
theorem zYb (h:vB l l' d) {n:Nat} {A A':Nat→Rs Tr} (aA:∀j,j≤l.length→In l.length j (A j)) (hA:∀j,j≤l.length→Keep d (A j) (A' (d+j))) {i:Nat} (hi:i≤l.length):Keep d (addS lg l n A i) (addS lg l' n A' (d+i)):=
 dX (fun j hj=>by unfold sAdd;rw[h.key hj (by decide) (by decide),h.key hj (by decide) (by decide)]) (fun _ _ _ h=>(zX7 h).1) (fun i a j hi ha=>xL (aI aA hi) ha) (fun j hj=>zKq h aA hA hj) n hi
theorem zKr (h:vB l l' d) {n:Nat} {A A':Nat→Rs Tr} (aA:∀j,j≤l.length→In l.length j (A j)) (hA:∀j,j≤l.length→Keep d (A j) (A' (d+j))) {i:Nat} (hi:i≤l.length):Keep d (cmpS lg l n A i) (cmpS lg l' n A' (d+i)):=by
 refine(zYb h aA hA hi).bnd fun a j ha=>?_
 have hjl:=xL (tO aA hi) ha;have e:sCmp l' (d+j)=sCmp l j:=by unfold sCmp;rw[h.key hjl (by decide) (by decide),h.key hjl (by decide) (by decide)]
 rw[e]
 cases hs:sCmp l j with
 | none=>exact Keep.ok rfl
 | some r=>
  obtain⟨x,q⟩:=r;simp only;rw[Nat.add_assoc];exact(zYb h aA hA (zX8 hs).1).bnd fun _ _ _=>Keep.ok rfl
theorem zTu (h:vB l l' d) {A A' E E':Nat→Rs Tr} (aE:∀j,j≤l.length→In l.length j (E j)) (hA:∀j,j≤l.length→Keep d (A j) (A' (d+j))) (hE:∀j,j≤l.length→Keep d (E j) (E' (d+j))) {i:Nat} (hi:i≤l.length):Keep d (qK lg l A E i) (qK lg l' A' E' (d+i)):=by
 unfold qK;rw[h.hd hi]
 cases hh:hdE lg l i with
 | no=>exact Keep.no
 | num n=>exact Keep.ok rfl
 | var s=>exact Keep.ok rfl
 | boo n=>exact Keep.ok rfl
 | sel k=>
  have hlt:i+1≤l.length:=jV (lg:=lg) (by rw[hh];rfl);exact(hA (i+1) hlt).bnd fun _ _ _=>Keep.ok rfl
 | opn=>
  have hlt:i+1≤l.length:=jV (lg:=lg) (by rw[hh];rfl);simp only;rw[show d+i+1=d+(i+1) from rfl]
  by_cases hl2:i+1<l.length
  ·rw[h.keyL hl2]
   split
   ·exact Keep.ok rfl
   ·refine(hE (i+1) hlt).bnd fun a j ha=>?_
    have hjl:=xL (aE (i+1) hlt) ha
    by_cases hl3:j<l.length
    ·rw[h.keyL hl3]
     split
     ·rename_i hk
      exact(kP h (hE (j+1) (qH hk)) [kShut]).bnd fun _ _ _=>Keep.ok rfl
     ·exact(wP h [kShut] j).bnd fun _ _ _=>Keep.ok rfl
    ·have e:j=l.length:=by omega
     rw[if_neg (by rw[yO (by rw[zD];omega)];decide)];have e2:keysL (tks l) j [kShut] = .inr (j,6):=by
      unfold keysL;rw[if_neg (by rw[yO (by rw[zD];omega)];decide)]
     rw[e2];exact Keep.no
  ·rw[if_neg (by rw[yO (by rw[zD];omega)];decide)]
   have hq:=aE (i+1) hlt
   cases he:E (i+1) with
   | inr e=>exact Keep.no
   | inl r=>
    rw[he] at hq;have h1:i+1<r.2:=hq.1;have h2:r.2≤l.length:=hq.2;omega
theorem zQf (h:vB l l' d) {E E':Nat→Rs Tr} {M M':Nat→Fr→Rs Fr} (aE:∀j,j≤l.length→In l.length j (E j)) (hE:∀j,j≤l.length→Keep d (E j) (E' (d+j))) (hM:∀j a,j≤l.length→Keep d (M j a) (M' (d+j) a)) {i:Nat} (acc:Fr) (hi:i≤l.length):Keep d (armsS nk l E M i acc) (armsS nk l' E' M' (d+i) acc):=by
 refine(mS h hi []).bnd fun c j hc=>?_
 have hj:=xL (zV hi) hc;refine(mS h hj [kFat]).bnd fun x k hx=>?_
 have hk:=xL (zV hj) hx;refine(hE k hk).bnd fun b m hb=>?_
 have hm:=xL (aE k hk) hb;rw[h.key hm (by decide) (by decide)]
 split
 ·rename_i hq
  exact hM (m+1) _ (qH hq)
 ·exact(wP h [kEnd] m).bnd fun _ _ _=>Keep.ok rfl
theorem zQg (h:vB l l' d) {n:Nat} {A A' E E':Nat→Rs Tr} {M M':Nat→Fr→Rs Fr} (aA:∀j,j≤l.length→In l.length j (A j)) (aE:∀j,j≤l.length→In l.length j (E j)) (hA:∀j,j≤l.length→Keep d (A j) (A' (d+j))) (hE:∀j,j≤l.length→Keep d (E j) (E' (d+j))) (hM:∀j a,j≤l.length→Keep d (M j a) (M' (d+j) a)) {i:Nat} (hi:i≤l.length) :
  Keep d (exprS nk lg l n A E M i) (exprS nk lg l' n A' E' M' (d+i)):=by
 unfold exprS;rw[h.key hi (by decide) (by decide),h.key hi (by decide) (by decide),h.key hi (by decide) (by decide),h.key hi (by decide) (by decide),h.key hi (by decide) (by decide)]
 split
 ·rename_i hk
  have h0:i+1≤l.length:=qH hk;refine(wP h [kOpen] (i+1)).bnd fun _ j1 e1=>?_
  have h1:=xL (zX3 h0) e1;refine(mS h h1 [zQ]).bnd fun s j2 e2=>?_
  have h2:=xL (zV h1) e2;refine(kP h (zTs h h2) [kShut,kFat]).bnd fun t j3 e3=>?_
  have h3:=xL (qM (jI h2)) e3;exact(hE j3 h3).bnd fun _ _ _=>Keep.ok rfl
 ·split
  ·rename_i hk
   have h0:i+1≤l.length:=qH hk;refine(mS h h0 [kEq]).bnd fun s j1 e1=>?_
   have h1:=xL (zV h0) e1;refine(kP h (hE j1 h1) [kIn]).bnd fun a j2 e2=>?_
   have h2:=xL (qM (aE j1 h1)) e2;exact(kP h (hE j2 h2) [kEnd]).bnd fun _ _ _=>Keep.ok rfl
  ·split
   ·rename_i hk
    have h0:i+1≤l.length:=qH hk;refine(kP h (hE _ h0) [kThen]).bnd fun a j1 e1=>?_
    have h1:=xL (qM (aE _ h0)) e1;refine(kP h (hE j1 h1) [kElse]).bnd fun b j2 e2=>?_
    have h2:=xL (qM (aE j1 h1)) e2;exact(hE j2 h2).bnd fun _ _ _=>Keep.ok rfl
   ·split
    ·rename_i hk
     have h0:i+1≤l.length:=qH hk;refine(kP h (hE _ h0) [kOf]).bnd fun a j1 e1=>?_
     have h1:=xL (qM (aE _ h0)) e1;exact(hM j1 .nil h1).bnd fun _ _ _=>Keep.ok rfl
    ·split
     ·rename_i hk
      have h0:i+1≤l.length:=qH hk;refine(kP h (hE _ h0) [kTo]).bnd fun a j1 e1=>?_
      have h1:=xL (qM (aE _ h0)) e1;refine(kP h (zTs h h1) [kOf]).bnd fun t j2 e2=>?_
      have h2:=xL (qM (jI h1)) e2;exact(hM j2 .nil h2).bnd fun _ _ _=>Keep.ok rfl
     ·exact zKr h aA hA hi
theorem zTv (h:vB l l' d):∀(n:Nat),(∀i,i≤l.length→Keep d (exprF nk lg l n i) (exprF nk lg l' n (d+i)))∧(∀i,i≤l.length→Keep d (qL nk lg l n i) (qL nk lg l' n (d+i)))∧(∀i acc,i≤l.length→Keep d (armsF nk lg l n i acc) (armsF nk lg l' n (d+i) acc))
 | 0=>⟨(fun i _=>by rw[exprF];exact Keep.no),(fun i _=>by rw[qL];exact Keep.no),(fun i _ _=>by rw[armsF];exact Keep.no)⟩
 | n+1=>by
  obtain⟨hE,hA,hM⟩:=zTv h n;obtain⟨aE,aA,aM⟩:=rU (nk:=nk) (lg:=lg) (l:=l) n;refine⟨fun i hi=>?_,fun i hi=>?_,fun i acc hi=>?_⟩
  ·rw[kZ,kZ];exact zQg h aA aE hA hE hM hi
  ·rw[zO,zO];exact zTu h aE hA hE hi
  ·rw[mD,mD];exact zQf h aE hE hM acc hi
theorem dY (h:vB l l' d) {n i:Nat} (hi:i≤l.length):Keep d (exprF nk lg l n i) (exprF nk lg l' n (d+i)):=(zTv h n).1 i hi
end
end Go.Proofs.YtbpijnalmakfaaaGreatDoor
namespace Go.Proofs.YtbpijnalmakfaaaGreatDoor
open Go.RowKit
theorem yZk (l:List B.RTok):(fl4 l).length=l.length*4:=by
 induction l with
 | nil=>rfl
 | cons t r ih=>show(rc4 t++fl4 r).length=(r.length+1)*4;rw[List.length_append,ih];show 4+_=_;omega
section
variable {nk lg:ByteArray→Bool}
theorem uD {l:List Te} {n i:Nat} {x:Tr} (h:qL nk lg l n i = .inl (x,l.length)):exprF nk lg l (n+1) i = .inl (x,l.length):=by
 have hf:Fol lg 1 l l.length:=Fol.end (Nat.le_refl _);have h4:appS lg l (n+1) (qL nk lg l n) i = .inl (x,l.length):=(Reach.of (l:=l) h (by omega)).done (zOq (hf.up (by omega)));have h3:mulS lg l (n+1) (qL nk lg l n) i = .inl (x,l.length):=(Reach.of (l:=l) (T:=appS lg l (n+1) (qL nk lg l n)) h4 (by omega)).done (zOr (hf.up (by omega)));have h2:addS lg l (n+1) (qL nk lg l n) i = .inl (x,l.length):=(Reach.of (l:=l) (T:=mulS lg l (n+1) (qL nk lg l n)) h3 (by omega)).done (zOs (hf.up (by omega)));have h1:cmpS lg l (n+1) (qL nk lg l n) i = .inl (x,l.length):=by
  unfold cmpS;rw[yK h2,zOt hf]
 rw[kZ,zZt (zQ0 h1)];exact h1
theorem zWq {a b:List Te} {i:Nat}:(a++b)[a.length+i]? = b[i]?:=by
 rw[List.getElem?_append_right (by omega),Nat.add_sub_cancel_left]
theorem zWr (p a r:List Te) (y:ByteArray) (hy:y=kShut∨y=qJ):vB a (p++(a++ke y::r)) p.length where
 at_:=fun i hi=>by
  rw[zWq,List.getElem?_append_left hi]
 end_:=by
  right
  refine⟨y,0,?_,hy⟩;rw[zWq,List.getElem?_append_right (Nat.le_refl _),Nat.sub_self]
  rfl
theorem zTw {a:List Te} {n:Nat} {x:Tr} (h:exprF nk lg a n 0 = .inl (x,a.length)):exprF nk lg (ke kOpen::(a++[ke kShut])) (n+2) 0 = .inl (x,a.length+2):=by
 have hl:(ke kOpen::(a++[ke kShut])).length=a.length+2:=by simp
 have hc:=zWr [ke kOpen] a [] kShut (.inl rfl);have h1:=dY (nk:=nk) (lg:=lg) hc (n:=n) (Nat.zero_le _) _ _ h;have h1:exprF nk lg (ke kOpen::(a++[ke kShut])) n 1 = .inl (x,1+a.length):=h1;have h2:(ke kOpen::(a++[ke kShut]))[1+a.length]? = some (ke kShut):=by
  rw[Nat.add_comm,List.getElem?_cons_succ,List.getElem?_append_right (Nat.le_refl _),Nat.sub_self]
  rfl
 have hh:hdE lg (ke kOpen::(a++[ke kShut])) 0 = .opn:=rfl;have ha:qL nk lg (ke kOpen::(a++[ke kShut])) (n+1) 0 = .inl (x,(ke kOpen::(a++[ke kShut])).length):=by
  rw[zO];unfold qK;rw[hh];simp only;rw[show 0+1=1 from rfl,pN h1,if_neg (by decide),yK h1,if_neg (by rw[yE h2];decide),yK (sN h2)];exact fD (by rw[hl];omega)
 have:=uD ha;rw[hl] at this;exact this
theorem zQh {a b:List Te} {n:Nat} {x y:Tr} (h:exprF nk lg a n 0 = .inl (x,a.length)) (h':exprF nk lg b n 0 = .inl (y,b.length)) :
  exprF nk lg (ke kOpen::(a++ke qJ::(b++[ke kShut]))) (n+2) 0 = .inl (nd 26 nob (fr2 x y),a.length+b.length+3):=by
 have hl:(ke kOpen::(a++ke qJ::(b++[ke kShut]))).length=a.length+b.length+3:=by simp only[List.length_cons,List.length_append,List.length_nil];omega
 have hc:=zWr [ke kOpen] a (b++[ke kShut]) qJ (.inr rfl);have h1:=dY (nk:=nk) (lg:=lg) hc (n:=n) (Nat.zero_le _) _ _ h;have h1:exprF nk lg (ke kOpen::(a++ke qJ::(b++[ke kShut]))) n 1 = .inl (x,1+a.length):=h1;have h2:(ke kOpen::(a++ke qJ::(b++[ke kShut])))[1+a.length]? = some (ke qJ):=by
  rw[Nat.add_comm,List.getElem?_cons_succ,List.getElem?_append_right (Nat.le_refl _),Nat.sub_self]
  rfl
 have hc2:=zWr (ke kOpen::(a++[ke qJ])) b [] kShut (.inl rfl);have e2:(ke kOpen::(a++[ke qJ]))++(b++ke kShut::[])=ke kOpen::(a++ke qJ::(b++[ke kShut])):=by
  show ke kOpen::((a++[ke qJ])++(b++[ke kShut]))=_
  rw[List.append_assoc]
  rfl
 rw[e2] at hc2;have e3:(ke kOpen::(a++[ke qJ])).length=a.length+2:=by simp
 rw[e3] at hc2;have h3:=dY (nk:=nk) (lg:=lg) hc2 (n:=n) (Nat.zero_le _) _ _ h';have h3:exprF nk lg (ke kOpen::(a++ke qJ::(b++[ke kShut]))) n (1+a.length+1) = .inl (y,a.length+2+b.length):=by
  rw[show 1+a.length+1=a.length+2+0 by omega];exact h3
 have h4:(ke kOpen::(a++ke qJ::(b++[ke kShut])))[a.length+2+b.length]? = some (ke kShut):=by
  rw[←e2,show a.length+2+b.length=(ke kOpen::(a++[ke qJ])).length+b.length by rw[e3],zWq,List.getElem?_append_right (Nat.le_refl _),Nat.sub_self]
  rfl
 have hh:hdE lg (ke kOpen::(a++ke qJ::(b++[ke kShut]))) 0 = .opn:=rfl;have ha:qL nk lg (ke kOpen::(a++ke qJ::(b++[ke kShut]))) (n+1) 0 = .inl (nd 26 nob (fr2 x y),(ke kOpen::(a++ke qJ::(b++[ke kShut]))).length):=by
  rw[zO];unfold qK;rw[hh];simp only;rw[show 0+1=1 from rfl,pN h1,if_neg (by decide),yK h1,if_pos (by rw[yE h2];decide),yK (wJ h3 h4)];exact fD (by rw[hl];omega)
 have:=uD ha;rw[hl] at this;exact this
end
theorem zKs (w:World) (base:Nat) (v:Value) (n:Nat) (xs:List Value) (hown:w.ownsRow base 53 4 v n xs) (c:Nat) :
  (Builtin.append_ #[22,22] 22 #[v,.slice none 0 c]).run Tryz.prog w = .ok v w:=by
 obtain⟨i0,hi,hz0,hz1,hz2⟩:=info_parts tK
 rcases hown.2 with ⟨rfl,rfl⟩ | ⟨g,cap,cur,rfl,_,_,hnc,_⟩
 ·simp[Builtin.append_,run_underlying Tryz.underlying22,sizeOf,typeInfo,hi,Builtin.lenOf,Builtin.firstCells]
 ·simp[Builtin.append_,run_underlying Tryz.underlying22,sizeOf,typeInfo,hi,Builtin.lenOf,Builtin.firstCells,hnc,storeCells]
theorem zNe:∀{l:List B.RTok} {i:Nat} {u:Value},(fl4 l)[i]? = some u→∃j t k,l[j]? = some t∧i=j*4+k∧(rc4 t)[k]? = some u
 | [],i,u,h=>by cases i<;>cases h
 | x::r,i,u,h=>by
  have h:(rc4 x++fl4 r)[i]? = some u:=h
  by_cases hi:i<4
  ·rw[List.getElem?_append_left (by show i<4;exact hi)] at h
   exact⟨0,x,i,rfl,by omega,h⟩
  ·rw[List.getElem?_append_right (by show 4≤i;omega)] at h
   obtain⟨j,t,k,h1,h2,h3⟩:=zNe (l:=r) (i:=i-4) h;exact⟨j+1,t,k,h1,by omega,h3⟩
theorem yZl (l:List B.RTok):∀u∈fl4 l,u.oneCell'=true:=fun u hu=>by
 obtain⟨t,_,ht⟩:=List.mem_flatMap.1 hu;unfold rc4 at ht;simp only[List.mem_cons,List.not_mem_nil,or_false] at ht
 rcases ht with rfl | rfl | rfl | rfl<;>rfl
theorem zD3 (w:World) (base:Nat) (v0:Value) (n:Nat) (a:List B.RTok) (hown:w.ownsRow base 53 4 v0 n (fl4 a)) (v:Value) (l:List B.RTok) (h:Tkr w v l) (hl:n+l.length≤1000) (hb:base≤w.heap.size) :
  ∃v' w',(Builtin.append_ #[22,22] 22 #[v0,v]).run Tryz.prog w = .ok v' w'∧w'.ownsRow base 53 4 v' (n+l.length) (fl4 (a++l))∧w.grownBy w' v0.ownBlock:=by
 obtain⟨i0,hi,hz0,hz1,hz2⟩:=info_parts tK;obtain⟨A,c,rfl,hc⟩:=h
 rcases A with _ | ad
 ·have hl0:l=[]:=by
   cases l with
   | nil=>rfl
   | cons x t=>
    obtain⟨b,o,h,_⟩:=hc 0 x rfl
    cases h
  subst hl0;exact⟨_,_,zKs _ _ _ _ _ hown c,by rw[List.append_nil];exact hown,rfl,rfl,rfl,Nat.le_refl _,fun _ _ _=>rfl⟩
 ·obtain⟨v',w',h1,h2,h3,_,_⟩:=run_append_own_at (P:=Tryz.prog) w base 22 22 53 i0 _ 4 40 Tryz.underlying22 hi hz0 hz1 hz2 rfl (by decide) v0 n (fl4 a) hown ad l.length c (fl4 l) (yZk l) (fun j u hu=>by
   obtain⟨p,t,k,q1,q2,q3⟩:=zNe hu;obtain⟨b,o,e,hb,m0,m1,m2,m3⟩:=hc p t q1;have e:=Option.some.inj e;subst e;have e1:(⟨b,o,none⟩:Addr).add j=⟨b,o+p*4+k,none⟩:=by unfold Addr.add;split<;>(try simp_all)<;>omega
   rw[e1];unfold rc4 at q3
   match k,q3 with
   | 0,q3=>rw[←Option.some.inj q3];exact m0
   | 1,q3=>rw[←Option.some.inj q3];exact m1
   | 2,q3=>rw[←Option.some.inj q3];exact m2
   | 3,q3=>rw[←Option.some.inj q3];exact m3
   | k+4,q3=>cases q3) (yZl l) (by unfold maxLen;omega) (by omega) hb
  exact⟨v',w',h1,by rw[zOx];exact h2,h3⟩
def kq (s:ByteArray):B.RTok:=⟨3,s,0,0⟩
theorem keyC (s:ByteArray) (w:World):Calls Tryz.prog 23 #[.string s] w fun e w'=>e = .returned (.slice (some ⟨w.heap.size,0,none⟩) 1 1)∧w'=w.alloc (.cells #[.int .i64 3,.string s,.int .i64 0,.int .i64 0] 53):=by
 go_enter Tryz.func23,Tryz.ntmps23
 go_wp2_with fail
 go_ret
 exact⟨rfl,rfl⟩
def OwnR (B0:Nat) (w:World) (v:Value) (L:List B.RTok):Prop:=w.ownsRow B0 53 4 v L.length (fl4 L)∧B0≤w.heap.size
theorem OwnR.key (s:ByteArray) (w:World):OwnR w.heap.size (w.alloc (.cells #[.int .i64 3,.string s,.int .i64 0,.int .i64 0] 53)) (.slice (some ⟨w.heap.size,0,none⟩) 1 1) [kq s]:=
 ⟨⟨rfl,.inr ⟨w.heap.size,1,_,rfl,Nat.le_refl _,heap_alloc_new w _,Nat.le_refl _,by unfold maxLen;omega,rfl,rfl⟩⟩,by simp⟩
theorem OwnR.alloc {B0:Nat} {w:World} {v:Value} {L:List B.RTok} (h:OwnR B0 w v L) (o:Obj):OwnR B0 (w.alloc o) v L:=⟨h.1.alloc o,by have:=h.2;simp;omega⟩
theorem OwnR.tkr {B0:Nat} {w:World} {v:Value} {L:List B.RTok} (h:OwnR B0 w v L):Tkr w v L:=zW9 h.1 rfl
theorem OwnR.form {B0:Nat} {w:World} {v:Value} {L:List B.RTok} (h:OwnR B0 w v L):∃A c,v = .slice A L.length c:=by
 obtain⟨A,c,hv,-⟩:=h.tkr;exact⟨A,c,hv⟩
theorem OwnR.app {B0:Nat} {w:World} {v u:Value} {L M:List B.RTok} (h:OwnR B0 w v L) (hu:Tkr w u M) (hl:L.length+M.length≤1000) :
  ∃v' w',(Builtin.append_ #[22,22] 22 #[v,u]).run Tryz.prog w = .ok v' w'∧OwnR B0 w' v' (L++M)∧∀W:World,W.heap.size≤B0→Up W w→Up W w':=by
 obtain⟨v',w',r,o,g⟩:=zD3 w B0 v L.length L h.1 u M hu hl h.2;refine⟨v',w',r,⟨by rw[List.length_append];exact o,Nat.le_trans h.2 g.size⟩,fun W hW hU=>hU.grown g (Nat.le_trans hW h.2) fun k hk=>?_⟩;have:=(World.ownsRow.lt h.1 k hk).1;omega
theorem zD4 (s:ByteArray):teR (kq s)=ke s:=rfl
theorem zTx (l:List B.RTok):(fewR l).map teR=fewE l:=rfl
theorem in26 {W w:World} {v:Value} {x y:Tr} (h:InT w (fun q=>W.heap.size≤q∧q<w.heap.size) v (nd 26 nob (fr2 x y))):∃q p kb ko c vx vy,v = .pointer (some ⟨q,p,none⟩)∧w.cell? ⟨q,p,none⟩=some (.int .i64 26)∧w.cell? ⟨q,p+4,none⟩=some (.slice (some ⟨kb,ko,none⟩) 2 c)∧
  w.cell? ⟨kb,ko,none⟩=some vx∧w.cell? ⟨kb,ko+1,none⟩=some vy∧HasT w vx (some x)∧HasT w vy (some y):=by
 obtain⟨q,p,A,c,rfl,hq,c0,c1,c2,c3,c4,hc,hkid⟩:=InT.open h;obtain⟨kb,ko,rfl,hkb,⟨va,ca,ia⟩,⟨vb,cb,ib⟩,-⟩:=hkid (by show 0<2;omega);exact⟨q,p,kb,ko,c,va,vb,rfl,c0,c4,ca,cb,InT.keep ia (fun _ hq=>hq.2) fun _ _=>rfl,InT.keep ib (fun _ hq=>hq.2) fun _ _=>rfl⟩
theorem zQi (l:List Te) (n:Nat):expZ B.nck B.long l n 0=exprF B.nck B.long l n 0:=by
 unfold expZ;rw[if_neg (by omega)]
 rfl
theorem zQj (P:PxAll) (la lb:List B.RTok) (hl:la.length≤9223372036854775807) (hz:∀t∈la,t.s.size≤9223372036854775807) (hm:lb.length≤9223372036854775807) (hy:∀t∈lb,t.s.size≤9223372036854775807) (w:World) (v v':Value) (hx:Vx7 w) (hv:Tkr w v la) (hv':Tkr w v' lb) :
  Calls Tryz.prog 8 #[v,v'] w (BoP true w):=by
 have cF:=zWa la hz w w v hv (Up.refl _) hl;have cF2:Hid (∀w1,Up w w1→Calls Tryz.prog 9 #[v'] w1 (FwP lb w1)):=Lib.hid fun w1 u1=>zWa lb hy w1 w1 v' (hv'.up u1) (Up.refl _) hm
 have HX:=Lib.hid hx;clear hx hz hl hv hm hy hv'
 go_enter Tryz.func8,Tryz.ntmps8
 go_wp2_with fail;refine cF.mono ?_;rintro e w1 ⟨v1,rfl,h1,u1⟩;have U1:=Lib.hid u1;have H1:=Lib.hid h1;clear u1 h1 cF;go_wp2_with fail;refine(cF2.out w1 U1.out).mono ?_;rintro e w2 ⟨v2,rfl,h2,u2⟩;have U2:=Lib.hid (U1.out.trans u2);have HA:=Lib.hid (H1.out.up u2);have HB:=Lib.hid h2;clear u2 h2 cF2;have hla:=lS la;have hlb:=lS lb;have hsa:∀t∈fewE la,t.t.s.size≤1000000000:=fun t h=>by have:=aZ la t h;omega
 have hsb:∀t∈fewE lb,t.t.s.size≤1000000000:=fun t h=>by have:=aZ lb t h;omega
 have tA:Tke w2 v1 (fewE la):=HA.out.tke;have tB:Tke w2 v2 (fewE lb):=HB.out.tke;have cA:=P.expr (fewE la) 0 (by omega) hsa 1000 (by omega) w2 v1 (HX.out.up U2.out) tA;have cB:Hid (∀W,Up w2 W→Calls Tryz.prog 10 #[v2,.int .i64 0] W (mH (expZ B.nck B.long (fewE lb) 1000 0) W)):=Lib.hid fun W u=>P.expr (fewE lb) 0 (by omega) hsb 1000 (by omega) W v2 (HX.out.up (U2.out.trans u)) (tB.up u)
 have eA:(fewR la).length=(fewE la).length:=by unfold fewE;rw[List.length_map]
 have eB:(fewR lb).length=(fewE lb).length:=by unfold fewE;rw[List.length_map]
 obtain⟨A1,ca,hva,-⟩:=id HA.out;obtain⟨A2,cb,hvb,-⟩:=id HB.out;rw[eA] at hva;rw[eB] at hvb;subst hva;subst hvb;obtain⟨NA,hNA⟩:∃n,(fewE la).length=n:=⟨_,rfl⟩;obtain⟨NB,hNB⟩:∃n,(fewE lb).length=n:=⟨_,rfl⟩;obtain⟨RA,hRA⟩:∃R,expZ B.nck B.long (fewE la) 1000 0=R:=⟨_,rfl⟩;obtain⟨RB,hRB⟩:∃R,expZ B.nck B.long (fewE lb) 1000 0=R:=⟨_,rfl⟩;have bA:∀p r,RA = .inr (p,r)→¬r=0:=fun p r h=>(zWn (hRA.trans h)).2
 have bB:∀p r,RB = .inr (p,r)→¬r=0:=fun p r h=>(zWn (hRB.trans h)).2
 have zA:∀t j,RA = .inl (t,j)→szT t≤160:=fun t j h=>by have:=(zW7 (hRA.trans h)).1;omega
 have zB:∀t j,RB = .inl (t,j)→szT t≤160:=fun t j h=>by have:=(zW7 (hRB.trans h)).1;omega
 rw[hRA] at cA;rw[hRB] at cB;rw[hNA] at cA HA tA ⊢;rw[hNB] at cB HB tB ⊢;have HRA:=Lib.hid hRA;have HRB:=Lib.hid hRB;have HNA:=Lib.hid hNA;have HNB:=Lib.hid hNB;have HLA:=Lib.hid hla;have HLB:=Lib.hid hlb;have HSA:=Lib.hid hsa;have HSB:=Lib.hid hsb;have HZA:=Lib.hid zA;have HZB:=Lib.hid zB;have HBA:=Lib.hid bA;have HBB:=Lib.hid bB;have HEA:=Lib.hid eA;have HEB:=Lib.hid eB;clear hla hlb hsa hsb tA tB hRA hRB hNA hNB zA zB bA bB eA eB;go_wp2_with fail;refine cA.mono ?_;rintro e w3 ⟨vx,jx,ex,rfl,hV,u3⟩;have U3:=Lib.hid u3;have HVA:=Lib.hid hV;clear u3 hV cA;go_wp2_with fail;refine(cB.out w3 U3.out).mono ?_;rintro e w4 ⟨vy,jy,ey,rfl,hV,u4⟩;have U4:=Lib.hid (U3.out.trans u4);have u34:=Lib.hid u4;have HVB:=Lib.hid hV;have UW:Hid (Up w w4):=Lib.hid (U2.out.trans U4.out);have cW:=wC P HX.out UW.out;clear u4 hV cB
 cases RA with
 | inr r=>
  obtain⟨p,er⟩:=r;obtain⟨rfl,rfl,rfl⟩:=HVA.out;have hne:(ex != 0)=true:=by rw[bne_iff_ne];exact HBA.out p ex rfl
  go_wp2_with fail;refine cW.mono ?_;rintro e w5 ⟨rfl,u5⟩;go_wp2_with fail
  go_ret
  exact qU rfl u5
 | inl r=>
  obtain⟨x,i⟩:=r;obtain⟨nx,rfl,rfl⟩:=HVA.out;have NX:=Lib.hid nx;clear nx
  cases RB with
  | inr r=>
   obtain⟨p,er⟩:=r;obtain⟨rfl,rfl,rfl⟩:=HVB.out;have hne:(ey != 0)=true:=by rw[bne_iff_ne];exact HBB.out p ey rfl
   go_wp2_with fail;refine cW.mono ?_;rintro e w5 ⟨rfl,u5⟩;go_wp2_with fail
   go_ret
   exact qU rfl u5
  | inl r=>
   obtain⟨y,j⟩:=r;obtain⟨ny,rfl,rfl⟩:=HVB.out;have NY:=Lib.hid ny;clear ny
   by_cases hi:i=NA
   ·by_cases hj:j=NB
    ·subst hi
     subst hj;have xA:exprF B.nck B.long (fewE la) 1000 0 = .inl (x,(fewE la).length):=by rw[←zQi,HRA.out,HNA.out]
     have xB:exprF B.nck B.long (fewE lb) 1000 0 = .inl (y,(fewE lb).length):=by rw[←zQi,HRB.out,HNB.out]
     have hone:=zTw xA;have htwo:=zQh xA xB;rw[HNA.out] at hone htwo;rw[HNB.out] at htwo;rw[←zQi] at hone htwo;have m1:(([kq kOpen]++fewR la)++[kq kShut]).map teR=ke kOpen::(fewE la++[ke kShut]):=by simp only[List.map_append,List.map_cons,List.map_nil,zD4,zTx,List.cons_append,List.nil_append]
     have m2:(((([kq kOpen]++fewR la)++[kq qJ])++fewR lb)++[kq kShut]).map teR=ke kOpen::(fewE la++ke qJ::(fewE lb++[ke kShut])):=by simp only[List.map_append,List.map_cons,List.map_nil,zD4,zTx,List.cons_append,List.nil_append,List.append_assoc]
     have n1:(([kq kOpen]++fewR la)++[kq kShut]).length=i+2:=by simp only[List.length_append,List.length_cons,List.length_nil];rw[HEA.out,HNA.out];omega
     have n2:(((([kq kOpen]++fewR la)++[kq qJ])++fewR lb)++[kq kShut]).length=i+j+3:=by simp only[List.length_append,List.length_cons,List.length_nil];rw[HEA.out,HNA.out,HEB.out,HNB.out];omega
     have l1:([kq kOpen]:List B.RTok).length+(fewR la).length≤100:=by have:=HLA.out;rw[HEA.out];show 1+_≤100;omega
     have lb1:(fewR lb).length≤80:=by have:=HLB.out;rw[HEB.out];omega
     have HONE:=Lib.hid hone;have HTWO:=Lib.hid htwo;have M1:=Lib.hid m1;have M2:=Lib.hid m2;have N1:=Lib.hid n1;have N2:=Lib.hid n2;have L1:=Lib.hid l1;have LB1:=Lib.hid lb1;clear hone htwo m1 m2 n1 n2 l1 lb1 xA xB cW;have HA4:=Lib.hid (HA.out.up U4.out);have HB4:=Lib.hid (HB.out.up U4.out);go_wp2_with fail;refine(keyC kOpen w4).mono ?_;rintro e w5 ⟨rfl,rfl⟩;obtain⟨p6,w6,r6,o6,g6⟩:=(OwnR.key kOpen w4).app (HA4.out.up ((Up.refl _).alloc _)) (by have:=L1.out;omega);have U6:Hid (Up w4 w6):=Lib.hid (g6 w4 (Nat.le_refl _) ((Up.refl _).alloc _));have O6:=Lib.hid o6;clear o6 g6
     go_wp2_with (at_builtin;refine kK _ _ _ rfl rfl rfl rfl r6 ?_)
     refine(keyC kShut w6).mono ?_;rintro e w7 ⟨rfl,rfl⟩;obtain⟨p8,w8,r8,o8,g8⟩:=(O6.out.alloc (.cells #[.int .i64 3,.string kShut,.int .i64 0,.int .i64 0] 53)).app (OwnR.key kShut w6).tkr (by have:=L1.out;rw[List.length_append];show _+1≤_;omega);have U8:Hid (Up w4 w8):=Lib.hid (g8 w4 (Nat.le_refl _) (U6.out.alloc _));have O8:=Lib.hid o8;clear o8 g8 r6
     go_wp2_with (at_builtin;refine kK _ _ _ rfl rfl rfl rfl r8 ?_)
     refine(keyC kOpen w8).mono ?_;rintro e w9 ⟨rfl,rfl⟩;obtain⟨p10,w10,r10,o10,g10⟩:=(OwnR.key kOpen w8).app (HA4.out.up (U8.out.alloc _)) (by have:=L1.out;omega);have U10:Hid (Up w8 w10):=Lib.hid (g10 w8 (Nat.le_refl _) ((Up.refl _).alloc _));have O10:=Lib.hid o10;clear o10 g10 r8
     go_wp2_with (at_builtin;refine kK _ _ _ rfl rfl rfl rfl r10 ?_)
     refine(keyC qJ w10).mono ?_;rintro e w11 ⟨rfl,rfl⟩;obtain⟨p12,w12,r12,o12,g12⟩:=(O10.out.alloc (.cells #[.int .i64 3,.string qJ,.int .i64 0,.int .i64 0] 53)).app (OwnR.key qJ w10).tkr (by have:=L1.out;rw[List.length_append];show _+1≤_;omega);have U12:Hid (Up w8 w12):=Lib.hid (g12 w8 (Nat.le_refl _) (U10.out.alloc _));obtain⟨p13,w13,r13,o13,g13⟩:=o12.app (HB4.out.up (U8.out.trans U12.out)) (by have:=L1.out;have:=LB1.out;rw[List.length_append,List.length_append];show _+1+_≤_;omega);have U13:Hid (Up w8 w13):=Lib.hid (g13 w8 (Nat.le_refl _) U12.out);have O13:=Lib.hid o13;clear o12 o13 g12 g13 r10
     go_wp2_with (at_builtin;first | refine kK _ _ _ rfl rfl rfl rfl r12 ?_ | refine kK _ _ _ rfl rfl rfl rfl r13 ?_)
     refine(keyC kShut w13).mono ?_;rintro e w14 ⟨rfl,rfl⟩;obtain⟨p15,w15,r15,o15,g15⟩:=(O13.out.alloc (.cells #[.int .i64 3,.string kShut,.int .i64 0,.int .i64 0] 53)).app (OwnR.key kShut w13).tkr (by have:=L1.out;have:=LB1.out;rw[List.length_append,List.length_append,List.length_append];show _+1+_+1≤_;omega);have U15:Hid (Up w8 w15):=Lib.hid (g15 w8 (Nat.le_refl _) (U13.out.alloc _));have T1:=(O8.out.tkr.up U15.out).tke;have T2:=o15.tkr.tke;obtain⟨A8,c8,hp8⟩:=O8.out.form;obtain⟨A15,c15,hp15⟩:=o15.form;rw[N1.out] at hp8;rw[N2.out] at hp15;rw[M1.out] at T1;rw[M2.out] at T2;obtain⟨S1,hS1⟩:∃n,i+2=n:=⟨_,rfl⟩;obtain⟨S2,hS2⟩:∃n,i+j+3=n:=⟨_,rfl⟩;have hq1:=HONE.out;have hq2:=HTWO.out;rw[hS1] at hp8 hq1;rw[hS2] at hp15 hq2;subst hp8;subst hp15;have z1:(ke kOpen::(fewE la++[ke kShut])).length≤400:=by have:=HLA.out;simp only[List.length_cons,List.length_append,List.length_nil];omega
     have z2:(ke kOpen::(fewE la++ke qJ::(fewE lb++[ke kShut]))).length≤400:=by have:=HLA.out;have:=HLB.out;simp only[List.length_cons,List.length_append,List.length_nil];omega
     have s0:∀k,k=kOpen∨k=kShut∨k=qJ→(ke k).t.s.size≤1000000000:=fun k hk=>by rcases hk with rfl | rfl | rfl<;>decide
     have s1:∀t∈ke kOpen::(fewE la++[ke kShut]),t.t.s.size≤1000000000:=fun t ht=>by
      rcases List.mem_cons.1 ht with rfl | ht
      ·exact s0 _ (by simp)
      ·rcases List.mem_append.1 ht with ht | ht
       ·exact HSA.out t ht
       ·rw[List.mem_singleton.1 ht];exact s0 _ (by simp)
     have s2:∀t∈ke kOpen::(fewE la++ke qJ::(fewE lb++[ke kShut])),t.t.s.size≤1000000000:=fun t ht=>by
      rcases List.mem_cons.1 ht with rfl | ht
      ·exact s0 _ (by simp)
      ·rcases List.mem_append.1 ht with ht | ht
       ·exact HSA.out t ht
       ·rcases List.mem_cons.1 ht with rfl | ht
        ·exact s0 _ (by simp)
        ·rcases List.mem_append.1 ht with ht | ht
         ·exact HSB.out t ht
         ·rw[List.mem_singleton.1 ht];exact s0 _ (by simp)
     have U415:Hid (Up w4 w15):=Lib.hid (U8.out.trans U15.out);have cO:=P.expr (ke kOpen::(fewE la++[ke kShut])) 0 (by omega) s1 1002 (by omega) w15 _ (HX.out.up (UW.out.trans U415.out)) T1;have cT:Hid (∀W,Up w15 W→Calls Tryz.prog 10 #[.slice A15 S2 c15,.int .i64 0] W (mH (.inl (nd 26 nob (fr2 x y),S2)) W)):=Lib.hid fun W u=>by
      have h:=P.expr (ke kOpen::(fewE la++ke qJ::(fewE lb++[ke kShut]))) 0 (by omega) s2 1002 (by omega) W _ (HX.out.up ((UW.out.trans U415.out).trans u)) (T2.up u);rw[hq2] at h;exact h
     rw[hq1] at cO;clear T1 T2 o15 g15 hS1 hS2 hq1 hq2 z1 z2 s0 s1 s2 r12 r13
     go_wp2_with (at_builtin;refine kK _ _ _ rfl rfl rfl rfl r15 ?_)
     refine cO.mono ?_;rintro e w16 ⟨vm,jm,em,rfl,⟨nm,rfl,rfl⟩,u16⟩;have U16:Hid (Up w15 w16):=Lib.hid u16;have NM:=Lib.hid nm;clear u16 nm cO r15;go_wp2_with fail;refine(cT.out w16 U16.out).mono ?_;rintro e w17 ⟨vn,jn,en,rfl,⟨nn,rfl,rfl⟩,u17⟩;have U417:Hid (Up w4 w17):=Lib.hid ((U415.out.trans U16.out).trans u17);have X17:Hid (HasT w17 vx (some x)):=Lib.hid (NX.out.has.up (u34.out.trans U417.out));have Y17:Hid (HasT w17 vy (some y)):=Lib.hid (NY.out.has.up U417.out);have M17:Hid (HasT w17 vm (some x)):=Lib.hid (NM.out.has.up u17);obtain⟨q,p,kb,ko,c,ux,uy,rfl,c0,c4,cx,cy,tx,ty⟩:=in26 nn;have hzx:=HZA.out x _ rfl;have hzy:=HZB.out y _ rfl;have cS1:=uSame (some x) (some x) M17.out X17.out (by show szT x≤65536;omega) true (by simp) (Up.refl _);have hnil:∀W,(binOp .eql 24 (.pointer (some ⟨q,p,none⟩)) (.pointer none)).run Tryz.prog W = .ok (.bool false) W:=fun W=>zU5 W _
     have C0:=Lib.hid c0;have C4:=Lib.hid c4;have CX:=Lib.hid cx;have CY:=Lib.hid cy;have TX:=Lib.hid tx;have TY:=Lib.hid ty;clear u17 nn c0 c4 cx cy tx ty;go_wp2_with fail;refine cS1.mono ?_;rintro e w18 ⟨rfl,u18⟩;have U18:Hid (Up w4 w18):=Lib.hid (U417.out.trans u18);have u1718:Hid (Up w17 w18):=Lib.hid u18;have k0:=u1718.out.cell C0.out;have k4:=u1718.out.cell C4.out;have kx:=u1718.out.cell CX.out;have cS2:=uSame (some x) (some x) (HasT.up TX.out u1718.out) (HasT.up X17.out u1718.out) (by show szT x≤65536;omega) true (by simp) (Up.refl _);clear u18 cS1;go_wp2_with fail;refine cS2.mono ?_;rintro e w19 ⟨rfl,u19⟩;have U19:Hid (Up w4 w19):=Lib.hid (U18.out.trans u19);have u1719:Hid (Up w17 w19):=Lib.hid (u1718.out.trans u19);have k4':=u1719.out.cell C4.out;have ky':=u1719.out.cell CY.out;have cS3:=uSame (some y) (some y) (HasT.up TY.out u1719.out) (HasT.up Y17.out u1719.out) (by show szT y≤65536;omega) true (by simp) (Up.refl _);clear u19 cS2 k0 k4 kx;go_wp2_with fail;refine cS3.mono ?_;rintro e w20 ⟨rfl,u20⟩;have cW:=wC P HX.out (UW.out.trans (U19.out.trans u20));clear u20 cS3 k4' ky';go_wp2_with fail;refine cW.mono ?_;rintro e w21 ⟨rfl,u21⟩;go_wp2_with fail
     go_ret
     exact qU rfl u21
    ·have hj1:((j:Int) != (NB:Int))=true:=by rw[bne_iff_ne];omega
     subst hi;go_wp2_with fail;refine cW.mono ?_;rintro e w5 ⟨rfl,u5⟩;go_wp2_with fail
     go_ret
     exact qU rfl u5
   ·have hi1:((i:Int) != (NA:Int))=true:=by rw[bne_iff_ne];omega
    go_wp2_with fail;refine cW.mono ?_;rintro e w5 ⟨rfl,u5⟩;go_wp2_with fail
    go_ret
    exact qU rfl u5
end Go.Proofs.YtbpijnalmakfaaaGreatDoor
