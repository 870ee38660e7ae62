/-
  Plain: what is parsed of some tokens is parsed of them wherever they stand, if a sign or a word that ends it stands behind: as XExc, with the words that begin a declaration among the stops. (Written by gk8.py out of XExc.)
-/
import Derived.Test.YtgeghilbikljcaaGreatDoorGj29
set_option maxHeartbeats 40000000
set_option maxRecDepth 100000
namespace Go.Proofs.YtgeghilbikljcaaGreatDoor
def stopK (y:ByteArray):Bool:=decide (y=kShut\/y=yN\/y=kVal\/y=kType\/y=kData\/y=qW\/y=wD\/y=zP\/y=yX\/y=jF)
theorem zM1 {y:ByteArray} (h:stopK y=true):(if y=kTrue then Hd.boo 1 else if y=wB then .boo 0 else if y=kOpen then .opn else if y=kOne then .sel 27 else if y=kTwo then .sel 28 else .no) = .no:=by
 rcases of_decide_eq_true h with rfl | rfl | rfl | rfl | rfl | rfl | rfl | rfl | rfl | rfl<;>rfl
structure zQ (l l':List Te) (d:Nat):Prop where
 at_:∀i,i<l.length->l'[d+i]? = l[i]?
 end_:l'[d+l.length]? = none\/∃y n,l'[d+l.length]? = some ⟨ky y,n⟩/\stopK y=true
section
variable {nk lg:ByteArray->Bool} {l l':List Te} {d:Nat}
theorem zQ.key (h:zQ l l' d) {i:Nat} (hi:i<=l.length) {x:ByteArray} (h2:stopK x=false):key (tks l') (d+i) x=key (tks l) i x:=by
 by_cases hlt:i<l.length
 ·unfold Proofs.YtgeghilbikljcaaGreatDoor.key
  rw[yM,yM,h.at_ i hlt]
 ·have e:i=l.length:=by omega
  subst e;rw[zR (l:=tks l) (i:=l.length) (by rw[qK];exact Nat.le_refl _)]
  rcases h.end_ with h0 | ⟨y,n,h0,hy⟩
  ·unfold Proofs.YtgeghilbikljcaaGreatDoor.key
   rw[yM,h0];rfl
  ·have:(tks l')[d+l.length]? = some (ky y):=by rw[yM,h0];rfl
   rw[zLf this];exact decide_eq_false fun e=>by subst e;rw[hy] at h2;cases h2
theorem zQ.keyT (h:zQ l l' d) {i:Nat} {x:ByteArray} (hk:Proofs.YtgeghilbikljcaaGreatDoor.key (tks l) i x=true):Proofs.YtgeghilbikljcaaGreatDoor.key (tks l') (d+i) x=true:=by
 have hlt:=qF hk;unfold Proofs.YtgeghilbikljcaaGreatDoor.key at *;rw[yM] at *;rw[h.at_ i hlt];exact hk
theorem zQ.keyL (h:zQ l l' d) {i:Nat} (hi:i<l.length) {x:ByteArray}:Proofs.YtgeghilbikljcaaGreatDoor.key (tks l') (d+i) x=Proofs.YtgeghilbikljcaaGreatDoor.key (tks l) i x:=by
 unfold Proofs.YtgeghilbikljcaaGreatDoor.key;rw[yM,yM,h.at_ i hi]
theorem zQ.nam (h:zQ l l' d) {i:Nat} (hi:i<=l.length) {p:ByteArray->Bool}:nam p (tks l') (d+i)=nam p (tks l) i:=by
 by_cases hlt:i<l.length
 ·unfold Proofs.YtgeghilbikljcaaGreatDoor.nam
  rw[yM,yM,h.at_ i hlt]
 ·have e:i=l.length:=by omega
  subst e;rw[pU (l:=tks l) (by rw[qK];exact Nat.le_refl _)]
  rcases h.end_ with h0 | ⟨y,n,h0,hy⟩
  ·unfold Proofs.YtgeghilbikljcaaGreatDoor.nam
   rw[yM,h0];rfl
  ·have:(tks l')[d+l.length]? = some (ky y):=by rw[yM,h0];rfl
   exact zLg this
theorem zJa {i:Nat} {x:ByteArray} {n:Int} (h:l[i]? = some ⟨ky x,n⟩):hdE lg l i=if x=kTrue then .boo 1 else if x=wB then .boo 0 else if x=kOpen then .opn else if x=kOne then .sel 27 else if x=kTwo then .sel 28 else .no:=by
 unfold hdE;rw[h]
 rfl
theorem zQ.hd (h:zQ l l' d) {i:Nat} (hi:i<=l.length):hdE lg l' (d+i)=hdE lg l i:=by
 by_cases hlt:i<l.length
 ·unfold hdE
  rw[h.at_ i hlt]
 ·have e:i=l.length:=by omega
  subst e;have e0:hdE lg l l.length = .no:=by
   unfold hdE;rw[List.getElem?_eq_none (Nat.le_refl _)]
  rw[e0]
  rcases h.end_ with h0 | ⟨y,n,h0,hy⟩
  ·unfold hdE
   rw[h0]
  ·rw[zJa h0]
   exact zM1 hy
theorem yZ (h:zQ l l' d):∀(ks:List ByteArray) (i:Nat),Keep d (keysL (tks l) i ks) (keysL (tks l') (d+i) ks)
 | [],i=>Keep.ok rfl
 | k::r,i=>by
  unfold keysL
  cases hk:key (tks l) i k with
  | false=>exact Keep.no
  | true=>
   rw[h.keyT hk];exact yZ h r (i+1)
theorem zK (h:zQ l l' d) {α:Type} {R R':Rs α} (hR:Keep d R R') (ks:List ByteArray):Keep d (thenK (tks l) R ks) (thenK (tks l') R' ks):=
 hR.bnd fun _ j _=>(yZ h ks j).bnd fun _ _ _=>Keep.ok rfl
theorem zM (h:zQ l l' d) {p:ByteArray->Bool} {i:Nat} (hi:i<=l.length) (ks:List ByteArray):Keep d (nameQ p (tks l) i ks) (nameQ p (tks l') (d+i) ks):=by
 unfold nameQ;rw[h.nam hi]
 split
 ·exact Keep.no
 ·rename_i s hs
  exact(yZ h ks (i+1)).bnd fun _ _ _=>Keep.ok rfl
theorem cG (m:ByteArray) (k:Int) (l:List Tk) (r:Rs Tr) (T:Nat->Rs Tr):typS m k l r T=thn r fun a j=>if key l j m then thn (T (j+1)) fun b q=>.inl (nd k nob (fr2 a b),q) else .inl (a,j):=by
 unfold typS thn
 cases r with
 | inr e=>rfl
 | inl r=>
  simp only
  split
  ·cases T (r.2+1)<;>rfl
  ·rfl
theorem rN (nk:ByteArray->Bool) (l:List Tk) (i:Nat) (acc:Fr) (T:Nat->Rs Tr) (C:Nat->Fr->Rs Fr):consS nk l i acc T C=match nam nk l i with
 | none=>.inr (i,6)
 | some s=>if hasN acc s then .inr (i,9) else if key l (i+1) kOf then thn (T (i+2)) fun t j=>(if key l j kBar then C (j+1) (acc.app (fr1 (nd 8 s (fr1 t)))) else .inl (acc.app (fr1 (nd 8 s (fr1 t))),j)) else .inr (i+1,6):=by
 unfold consS thn
 cases nam nk l i with
 | none=>rfl
 | some s=>
  simp only
  split
  ·rfl
  ·split
   ·cases T (i+2)<;>rfl
   ·rfl
theorem rO (h:zQ l l' d) {m:ByteArray} (h2:stopK m=false) {k:Int} {r r':Rs Tr} {T T':Nat->Rs Tr} (hr:Keep d r r') (hj:∀a j,r = .inl (a,j)->j<=l.length) (hT:∀j,j<=l.length->Keep d (T j) (T' (d+j))):Keep d (typS m k (tks l) r T) (typS m k (tks l') r' T'):=by
 rw[cG,cG];refine hr.bnd fun a j ha=>?_
 have hjl:=hj a j ha;rw[h.key hjl h2]
 split
 ·rename_i hk
  exact(hT (j+1) (qF hk)).bnd fun _ _ _=>Keep.ok rfl
 ·exact Keep.ok rfl
theorem zZ7 (h:zQ l l' d) {i:Nat} (hi:i<=l.length) {T T':Nat->Rs Tr} {C C':Nat->Fr->Rs Fr} (hT:∀j,j<=l.length->Keep d (T j) (T' (d+j))) (hC:∀j a,j<=l.length->Keep d (C j a) (C' (d+j) a)):Keep d (atomS nk lg (tks l) i T C) (atomS nk lg (tks l') (d+i) T' C'):=by
 unfold atomS;rw[h.nam hi,h.key hi (by decide),h.key hi (by decide),h.key hi (by decide),h.key hi (by decide),h.key hi (by decide)]
 split
 ·exact Keep.ok rfl
 ·split
  ·exact Keep.ok rfl
  ·split
   ·exact Keep.ok rfl
   ·split
    ·exact Keep.ok rfl
    ·split
     ·rename_i hk
      have hlt:=qF hk;have:=hT (i+1) hlt
      cases hq:T (i+1) with
      | inr e=>exact Keep.no
      | inl r=>
       obtain⟨a,j⟩:=r;have e:=this a j hq;rw[show d+i+1=d+(i+1) from rfl,e];simp only
       cases hs:key (tks l) j kShut with
       | false=>exact Keep.no
       | true=>
        rw[h.keyT hs];exact Keep.ok rfl
     ·split
      ·rename_i hk
       have hlt:=qF hk;rw[show d+i+1=d+(i+1) from rfl,h.nam hlt]
       cases hn:nam nk (tks l) (i+1) with
       | none=>exact Keep.no
       | some s=>
        simp only;rw[show d+i+2=d+(i+2) from rfl]
        cases h2:key (tks l) (i+2) kLeft with
        | false=>exact Keep.no
        | true=>
         rw[h.keyT h2];have:=hC (i+3) .nil (qF h2);rw[show d+i+3=d+(i+3) from rfl]
         cases hq:C (i+3) .nil with
         | inr e=>exact Keep.no
         | inl r=>
          obtain⟨a,j⟩:=r;rw[this a j hq];simp only
          cases hs:key (tks l) j jW with
          | false=>exact Keep.no
          | true=>
           rw[h.keyT hs];exact Keep.ok rfl
      ·exact Keep.no
theorem zZ8 (h:zQ l l' d) {i:Nat} (hi:i<=l.length) {acc:Fr} {T T':Nat->Rs Tr} {C C':Nat->Fr->Rs Fr} (hj:∀i a j,i<=l.length->T i = .inl (a,j)->j<=l.length) (hT:∀j,j<=l.length->Keep d (T j) (T' (d+j))) (hC:∀j a,j<=l.length->Keep d (C j a) (C' (d+j) a)):Keep d (consS nk (tks l) i acc T C) (consS nk (tks l') (d+i) acc T' C'):=by
 rw[rN,rN,h.nam hi]
 cases hn:nam nk (tks l) i with
 | none=>exact Keep.no
 | some s=>
  simp only
  split
  ·exact Keep.no
  ·rw[show d+i+1=d+(i+1) from rfl]
   cases h1:key (tks l) (i+1) kOf with
   | false=>exact Keep.no
   | true=>
    rw[h.keyT h1];have hlt:i+2<=l.length:=qF h1;refine(hT (i+2) hlt).bnd fun a j ha=>?_
    have hjl:=hj _ a j hlt ha;rw[h.key hjl (by decide)]
    split
    ·rename_i hk
     exact hC (j+1) _ (qF hk)
    ·exact Keep.ok rfl
theorem zX1 {α:Type} {N:Nat} {R R':Rs α} (h:St N R R') {a:α} {j:Nat} (hR:R = .inl (a,j)):j<=N:=by have:=h.le;rw[hR] at this;exact this
theorem xL (h:zQ l l' d):∀(n:Nat),(∀i,i<=l.length->Keep d (typF nk lg n (tks l) i) (typF nk lg n (tks l') (d+i)))/\(∀i,i<=l.length->Keep d (prodF nk lg n (tks l) i) (prodF nk lg n (tks l') (d+i)))/\
  (∀i,i<=l.length->Keep d (atomF nk lg n (tks l) i) (atomF nk lg n (tks l') (d+i)))/\(∀i acc,i<=l.length->Keep d (consF nk lg n (tks l) i acc) (consF nk lg n (tks l') (d+i) acc))
 | 0=>⟨(fun i _=>by rw[typF];exact Keep.no),(fun i _=>by rw[prodF];exact Keep.no),(fun i _=>by rw[atomF];exact Keep.no),(fun i _ _=>by rw[consF];exact Keep.no)⟩
 | n+1=>by
  obtain⟨hT,hP,hA,hC⟩:=xL h n;obtain⟨sT,sP,sA,sC⟩:=vW (nk:=nk) (lg:=lg) (tks l) [] n;rw[qK] at sT sP sA;refine⟨fun i hi=>?_,fun i hi=>?_,fun i hi=>?_,fun i acc hi=>?_⟩
  ·rw[vS,vS]
   exact rO h (by decide) (hP i hi) (fun a j ha=>zX1 (sP i hi) ha) hT
  ·rw[xD,xD]
   exact rO h (by decide) (hA i hi) (fun a j ha=>zX1 (sA i hi) ha) hP
  ·rw[xE,xE]
   exact zZ7 h hi hT hC
  ·rw[xF,xF]
   exact zZ8 h hi (fun i a j hi ha=>zX1 (sT i hi) ha) hT hC
theorem nQ (h:zQ l l' d) {i:Nat} (hi:i<=l.length):Keep d (typL nk lg (tks l) i) (typL nk lg (tks l') (d+i)):=by
 have h1:=(xL (nk:=nk) (lg:=lg) h (4*l.length+8+4*l'.length)).1 i hi;have e1:typF nk lg (4*l.length+8+4*l'.length) (tks l) i=typL nk lg (tks l) i:=by
  have:=xQ (nk:=nk) (lg:=lg) (l:=tks l) (i:=i) (n:=4*(tks l).length+8) (by omega) (4*l'.length);rw[qK] at this;rw[this];unfold typL;rw[qK]
 have e2:typF nk lg (4*l.length+8+4*l'.length) (tks l') (d+i)=typL nk lg (tks l') (d+i):=by
  have:=xQ (nk:=nk) (lg:=lg) (l:=tks l') (i:=d+i) (n:=4*(tks l').length+8) (by omega) (4*l.length);rw[qK] at this;rw[show 4*l.length+8+4*l'.length=4*l'.length+8+4*l.length by omega,this];unfold typL;rw[qK]
 rw[e1,e2] at h1;exact h1
theorem cJ {T T':Nat->Rs Tr} {s s':Nat->Option (Nod×Nat)} (hs:∀j,j<=l.length->s' (d+j)=s j) (hd:∀j x q,s j=some (x,q)->j+q<=l.length) (hj:∀i a j,i<=l.length->T i = .inl (a,j)->j<=l.length) (hT:∀j,j<=l.length->Keep d (T j) (T' (d+j))) :
  ∀(n:Nat) (a:Tr) (j:Nat),j<=l.length->Keep d (lop T s n a j) (lop T' s' n a (d+j))
 | 0,_,_,_=>Keep.no
 | n+1,a,j,hjl=>by
  unfold lop;rw[hs j hjl]
  cases h:s j with
  | none=>exact Keep.ok rfl
  | some r=>
   obtain⟨x,q⟩:=r;have hq:=hd j x q h;simp only;rw[Nat.add_assoc];exact(hT (j+q) hq).bnd fun b m hb=>cJ hs hd hj hT n _ m (hj _ b m hq hb)
theorem yO {α:Type} {N i:Nat} {R:Rs α} (h:In N i R) {a:α} {j:Nat} (hR:R = .inl (a,j)):j<=N:=by rw[hR] at h;exact h.2
theorem fP {T T':Nat->Rs Tr} {s s':Nat->Option (Nod×Nat)} (hs:∀j,j<=l.length->s' (d+j)=s j) (hd:∀j x q,s j=some (x,q)->j+q<=l.length) (hj:∀i a j,i<=l.length->T i = .inl (a,j)->j<=l.length) (hT:∀j,j<=l.length->Keep d (T j) (T' (d+j))) (n:Nat) {i:Nat} (hi:i<=l.length):Keep d (lopS T s n i) (lopS T' s' n (d+i)):=
 (hT i hi).bnd fun a j ha=>cJ hs hd hj hT n a j (hj i a j hi ha)
theorem zX2 (h:zQ l l' d) {n:Nat} {A A':Nat->Rs Tr} (aA:∀j,j<=l.length->In l.length j (A j)) (hA:∀j,j<=l.length->Keep d (A j) (A' (d+j))) {i:Nat} (hi:i<=l.length):Keep d (appS lg l n A i) (appS lg l' n A' (d+i)):=
 fP (fun j hj=>by unfold sApp;rw[h.hd hj]) (fun _ _ _ h=>(eS h).1) (fun i a j hi ha=>yO (aA i hi) ha) hA n hi
theorem zX3 (h:zQ l l' d) {n:Nat} {A A':Nat->Rs Tr} (aA:∀j,j<=l.length->In l.length j (A j)) (hA:∀j,j<=l.length->Keep d (A j) (A' (d+j))) {i:Nat} (hi:i<=l.length):Keep d (mulS lg l n A i) (mulS lg l' n A' (d+i)):=
 fP (fun j hj=>by unfold sMul;rw[h.key hj (by decide)]) (fun _ _ _ h=>(eT h).1) (fun i a j hi ha=>yO (eX aA hi) ha) (fun j hj=>zX2 h aA hA hj) n hi
theorem rP (h:zQ l l' d) {n:Nat} {A A':Nat->Rs Tr} (aA:∀j,j<=l.length->In l.length j (A j)) (hA:∀j,j<=l.length->Keep d (A j) (A' (d+j))) {i:Nat} (hi:i<=l.length):Keep d (addS lg l n A i) (addS lg l' n A' (d+i)):=
 fP (fun j hj=>by unfold sAdd;rw[h.key hj (by decide),h.key hj (by decide)]) (fun _ _ _ h=>(eU h).1) (fun i a j hi ha=>yO (eY aA hi) ha) (fun j hj=>zX3 h aA hA hj) n hi
theorem zX4 (h:zQ l l' d) {n:Nat} {A A':Nat->Rs Tr} (aA:∀j,j<=l.length->In l.length j (A j)) (hA:∀j,j<=l.length->Keep d (A j) (A' (d+j))) {i:Nat} (hi:i<=l.length):Keep d (cmpS lg l n A i) (cmpS lg l' n A' (d+i)):=by
 refine(rP h aA hA hi).bnd fun a j ha=>?_
 have hjl:=yO (sG aA hi) ha;have e:sCmp l' (d+j)=sCmp l j:=by unfold sCmp;rw[h.key hjl (by decide),h.key hjl (by decide)]
 rw[e]
 cases hs:sCmp l j with
 | none=>exact Keep.ok rfl
 | some r=>
  obtain⟨x,q⟩:=r;simp only;rw[Nat.add_assoc];exact(rP h aA hA (eV hs).1).bnd fun _ _ _=>Keep.ok rfl
theorem iL (h:zQ l l' d) {A A' E E':Nat->Rs Tr} (aE:∀j,j<=l.length->In l.length j (E j)) (hA:∀j,j<=l.length->Keep d (A j) (A' (d+j))) (hE:∀j,j<=l.length->Keep d (E j) (E' (d+j))) {i:Nat} (hi:i<=l.length):Keep d (zO lg l A E i) (zO lg l' A' E' (d+i)):=by
 unfold zO;rw[h.hd hi]
 cases hh:hdE lg l i with
 | no=>exact Keep.no
 | num n=>exact Keep.ok rfl
 | var s=>exact Keep.ok rfl
 | boo n=>exact Keep.ok rfl
 | sel k=>
  have hlt:i+1<=l.length:=wC (lg:=lg) (by rw[hh];rfl);exact(hA (i+1) hlt).bnd fun _ _ _=>Keep.ok rfl
 | opn=>
  have hlt:i+1<=l.length:=wC (lg:=lg) (by rw[hh];rfl);simp only;rw[show d+i+1=d+(i+1) from rfl]
  by_cases hl2:i+1<l.length
  ·rw[h.keyL hl2]
   split
   ·exact Keep.ok rfl
   ·refine(hE (i+1) hlt).bnd fun a j ha=>?_
    have hjl:=yO (aE (i+1) hlt) ha
    by_cases hl3:j<l.length
    ·rw[h.keyL hl3]
     split
     ·rename_i hk
      exact(zK h (hE (j+1) (qF hk)) [kShut]).bnd fun _ _ _=>Keep.ok rfl
     ·exact(yZ h [kShut] j).bnd fun _ _ _=>Keep.ok rfl
    ·have e:j=l.length:=by omega
     rw[if_neg (by rw[zR (by rw[qK];omega)];decide)];have e2:keysL (tks l) j [kShut] = .inr (j,6):=by
      unfold keysL;rw[if_neg (by rw[zR (by rw[qK];omega)];decide)]
     rw[e2];exact Keep.no
  ·rw[if_neg (by rw[zR (by rw[qK];omega)];decide)]
   have hq:=aE (i+1) hlt
   cases he:E (i+1) with
   | inr e=>exact Keep.no
   | inl r=>
    rw[he] at hq;have h1:i+1<r.2:=hq.1;have h2:r.2<=l.length:=hq.2;omega
theorem zZ9 (h:zQ l l' d) {E E':Nat->Rs Tr} {M M':Nat->Fr->Rs Fr} (aE:∀j,j<=l.length->In l.length j (E j)) (hE:∀j,j<=l.length->Keep d (E j) (E' (d+j))) (hM:∀j a,j<=l.length->Keep d (M j a) (M' (d+j) a)) {i:Nat} (acc:Fr) (hi:i<=l.length):Keep d (armsS nk l E M i acc) (armsS nk l' E' M' (d+i) acc):=by
 refine(zM h hi []).bnd fun c j hc=>?_
 have hj:=yO (qS hi) hc;refine(zM h hj [kFat]).bnd fun x k hx=>?_
 have hk:=yO (qS hj) hx;refine(hE k hk).bnd fun b m hb=>?_
 have hm:=yO (aE k hk) hb;rw[h.key hm (by decide)]
 split
 ·rename_i hq
  exact hM (m+1) _ (qF hq)
 ·exact(yZ h [kEnd] m).bnd fun _ _ _=>Keep.ok rfl
theorem zZa (h:zQ l l' d) {n:Nat} {A A' E E':Nat->Rs Tr} {M M':Nat->Fr->Rs Fr} (aA:∀j,j<=l.length->In l.length j (A j)) (aE:∀j,j<=l.length->In l.length j (E j)) (hA:∀j,j<=l.length->Keep d (A j) (A' (d+j))) (hE:∀j,j<=l.length->Keep d (E j) (E' (d+j))) (hM:∀j a,j<=l.length->Keep d (M j a) (M' (d+j) a)) {i:Nat} (hi:i<=l.length) :
  Keep d (exprS nk lg l n A E M i) (exprS nk lg l' n A' E' M' (d+i)):=by
 unfold exprS;rw[h.key hi (by decide),h.key hi (by decide),h.key hi (by decide),h.key hi (by decide),h.key hi (by decide)]
 split
 ·rename_i hk
  have h0:i+1<=l.length:=qF hk;refine(yZ h [kOpen] (i+1)).bnd fun _ j1 e1=>?_
  have h1:=yO (sF h0) e1;refine(zM h h1 [qH]).bnd fun s j2 e2=>?_
  have h2:=yO (qS h1) e2;refine(zK h (nQ h h2) [kShut,kFat]).bnd fun t j3 e3=>?_
  have h3:=yO (qL (kK h2)) e3;exact(hE j3 h3).bnd fun _ _ _=>Keep.ok rfl
 ·split
  ·rename_i hk
   have h0:i+1<=l.length:=qF hk;refine(zM h h0 [kEq]).bnd fun s j1 e1=>?_
   have h1:=yO (qS h0) e1;refine(zK h (hE j1 h1) [kIn]).bnd fun a j2 e2=>?_
   have h2:=yO (qL (aE j1 h1)) e2;exact(zK h (hE j2 h2) [kEnd]).bnd fun _ _ _=>Keep.ok rfl
  ·split
   ·rename_i hk
    have h0:i+1<=l.length:=qF hk;refine(zK h (hE _ h0) [kThen]).bnd fun a j1 e1=>?_
    have h1:=yO (qL (aE _ h0)) e1;refine(zK h (hE j1 h1) [kElse]).bnd fun b j2 e2=>?_
    have h2:=yO (qL (aE j1 h1)) e2;exact(hE j2 h2).bnd fun _ _ _=>Keep.ok rfl
   ·split
    ·rename_i hk
     have h0:i+1<=l.length:=qF hk;refine(zK h (hE _ h0) [kOf]).bnd fun a j1 e1=>?_
     have h1:=yO (qL (aE _ h0)) e1;exact(hM j1 .nil h1).bnd fun _ _ _=>Keep.ok rfl
    ·split
     ·rename_i hk
      have h0:i+1<=l.length:=qF hk;refine(zK h (hE _ h0) [kTo]).bnd fun a j1 e1=>?_
      have h1:=yO (qL (aE _ h0)) e1;refine(zK h (nQ h h1) [kOf]).bnd fun t j2 e2=>?_
      have h2:=yO (qL (kK h1)) e2;exact(hM j2 .nil h2).bnd fun _ _ _=>Keep.ok rfl
     ·exact zX4 h aA hA hi
theorem cQ (h:zQ l l' d):∀(n:Nat),(∀i,i<=l.length->Keep d (exprF nk lg l n i) (exprF nk lg l' n (d+i)))/\(∀i,i<=l.length->Keep d (qV nk lg l n i) (qV nk lg l' n (d+i)))/\(∀i acc,i<=l.length->Keep d (armsF nk lg l n i acc) (armsF nk lg l' n (d+i) acc))
 | 0=>⟨(fun i _=>by rw[exprF];exact Keep.no),(fun i _=>by rw[qV];exact Keep.no),(fun i _ _=>by rw[armsF];exact Keep.no)⟩
 | n+1=>by
  obtain⟨hE,hA,hM⟩:=cQ h n;obtain⟨aE,aA,aM⟩:=lK (nk:=nk) (lg:=lg) (l:=l) n;refine⟨fun i hi=>?_,fun i hi=>?_,fun i acc hi=>?_⟩
  ·rw[gR,gR];exact zZa h aA aE hA hE hM hi
  ·rw[kE,kE];exact iL h aE hA hE hi
  ·rw[gS,gS];exact zZ9 h aE hE hM acc hi
theorem zX5 (h:zQ l l' d) {n i:Nat} (hi:i<=l.length):Keep d (exprF nk lg l n i) (exprF nk lg l' n (d+i)):=(cQ h n).1 i hi
end
section
variable {nk lg:ByteArray->Bool} {l l':List Te} {d:Nat}
theorem rQ (h:zQ l l' d) {i:Nat} (hi:i<=l.length) (acc:Fr):Keep d (consL nk lg (tks l) i acc) (consL nk lg (tks l') (d+i) acc):=by
 have h1:=(xL (nk:=nk) (lg:=lg) h (4*l.length+8+4*l'.length)).2.2.2 i acc hi;have e1:consF nk lg (4*l.length+8+4*l'.length) (tks l) i acc=consL nk lg (tks l) i acc:=by
  have:=vD (nk:=nk) (lg:=lg) (l:=tks l) (i:=i) (acc:=acc) (n:=4*(tks l).length+8) (by omega) (4*l'.length);rw[qK] at this;rw[this];unfold consL;rw[qK]
 have e2:consF nk lg (4*l.length+8+4*l'.length) (tks l') (d+i) acc=consL nk lg (tks l') (d+i) acc:=by
  have:=vD (nk:=nk) (lg:=lg) (l:=tks l') (i:=d+i) (acc:=acc) (n:=4*(tks l').length+8) (by omega) (4*l.length);rw[qK] at this;rw[show 4*l.length+8+4*l'.length=4*l'.length+8+4*l.length by omega,this];unfold consL;rw[qK]
 rw[e1,e2] at h1;exact h1
def jL (l:List Te) (d:Nat) (O O':UInt8->Nat->Rs Tr):Prop:=∀c j,j<=l.length->Keep d (O c j) (O' c (d+j))
def KeepL {α:Type} (N d:Nat) (R R':Rs α):Prop:=∀a j,R = .inl (a,j)->j<N->R' = .inl (a,d+j)
theorem Keep.low {α:Type} {N d:Nat} {R R':Rs α} (h:Keep d R R'):KeepL N d R R':=fun a j h1 _=>h a j h1
theorem zUn (h:zQ l l' d) {O O':UInt8->Nat->Rs Tr} (hO:jL l d O O') (c:UInt8) {i:Nat} (hi:i<=l.length) (a:Pa):Keep d (stepS nk lg l O c i a) (stepS nk lg l' O' c (d+i) a):=by
 unfold stepS
 repeat' split
 ·exact(zM h hi []).bnd fun _ _ _=>Keep.ok rfl
 ·exact(zM h hi []).bnd fun _ _ _=>Keep.ok rfl
 ·exact(zM h hi []).bnd fun _ _ _=>Keep.ok rfl
 ·exact(zM h hi []).bnd fun _ _ _=>Keep.ok rfl
 ·exact(rQ h hi .nil).bnd fun _ _ _=>Keep.ok rfl
 ·exact(hO c i hi).bnd fun _ _ _=>Keep.ok rfl
 ·exact(yZ h _ i).bnd fun _ _ _=>Keep.ok rfl
theorem nR (h:zQ l l' d) {O O':UInt8->Nat->Rs Tr} (aO:OneIn l O) (hO:jL l d O O'):∀(sh:List UInt8) (i:Nat) (a:Pa),i<=l.length->Keep d (partS nk lg l O sh i a) (partS nk lg l' O' sh (d+i) a)
 | [],i,a,_=>Keep.ok rfl
 | c::r,i,a,hi=>by
  unfold partS;exact(zUn h hO c hi a).bnd fun b j hb=>nR h aO hO r j b (uM (iC aO c hi a) hb)
theorem nU (h:zQ l l' d) {S S':Nat->Rs Tr} (aS:∀j,j<=l.length->In l.length j (S j)) (hS:∀j,j<=l.length->Keep d (S j) (S' (d+j))):∀(n:Nat) (m:Tr) (i:Nat),i<=l.length->Keep d (sealS l S n m i) (sealS l' S' n m (d+i))
 | 0,_,_,_=>Keep.no
 | n+1,m,i,hi=>by
  unfold sealS;rw[h.key hi (by decide),h.key hi (by decide)]
  split
  ·rename_i hk
   exact(hS (i+1) (qF hk)).bnd fun s j hj=>nU h aS hS n _ j (uM (aS _ (qF hk)) hj)
  ·split
   ·rename_i hk
    exact(hS (i+1) (qF hk)).bnd fun s j hj=>nU h aS hS n _ j (uM (aS _ (qF hk)) hj)
   ·exact Keep.ok rfl
theorem zJb {α:Type} {N i:Nat} {R:Rs α} (h:In0 N i R) {a:α} {j:Nat} (hR:R = .inl (a,j)):j<=N:=by rw[hR] at h;exact h.2
theorem pJ (h:zQ l l' d) {O O':UInt8->Nat->Rs Tr} (aO:OneIn l O) (hO:jL l d O O'):∀(n:Nat) (m:Tr) (i:Nat),i<=l.length->Keep d (zV nk lg l O n m i) (zV nk lg l' O' n m (d+i))
 | 0,_,_,_=>Keep.no
 | n+1,m,i,hi=>by
  unfold zV;rw[h.key hi (by decide)]
  split
  ·rename_i hk
   exact(nR h aO hO iB (i+1) _ (qF hk)).bnd fun p j hj=>pJ h aO hO n _ j (zJb (wE aO _ _ _ (qF hk)) hj)
  ·exact Keep.ok rfl
theorem pK (h:zQ l l' d) {D D':Nat->Rs Fr} (hD:∀j,j<=l.length->KeepL l.length d (D j) (D' (d+j))) (k:Int) {i:Nat} (hi:i<=l.length):Keep d (kU l D k i) (kU l' D' k (d+i)):=fun t m hm=>by
 obtain⟨f,j,h1,h2⟩:=qD hm;obtain⟨u,q,h3,h4⟩:=qD h2;have hlt:j<l.length:=by
  unfold keysL at h3
  split at h3
  ·rename_i hk;exact qF hk
  ·cases h3
 unfold kU;rw[hD i hi f j h1 hlt];exact(yZ h [kEnd] j).bnd (f:=fun _ m=>.inl (nd k nob f,m)) (f':=fun _ m=>.inl (nd k nob f,m)) (fun _ _ _=>Keep.ok rfl) t m h2
theorem zUo (h:zQ l l' d) {M M':Nat->Rs Tr} {D D':Nat->Rs Fr} (hM:∀j,j<=l.length->Keep d (M j) (M' (d+j))) (hD:∀j,j<=l.length->KeepL l.length d (D j) (D' (d+j))) {i:Nat} (hi:i<=l.length):Keep d (primS nk lg l M D i) (primS nk lg l' M' D' (d+i)):=by
 unfold primS;rw[h.key hi (by decide),h.key hi (by decide),h.nam hi]
 split
 ·rename_i hk
  exact pK h hD 40 (qF hk)
 ·have tail:Keep d (if key (tks l) i kOpen=true then thenK (tks l) (M (i+1)) [kShut] else thn (nameQ lg (tks l) i []) fun s j=>.inl (nd 41 s .nil,j))
    (if key (tks l) i kOpen=true then thenK (tks l') (M' (d+i+1)) [kShut] else thn (nameQ lg (tks l') (d+i) []) fun s j=>.inl (nd 41 s .nil,j)):=by
   split
   ·rename_i hk
    exact zK h (hM (i+1) (qF hk)) [kShut]
   ·exact(zM h hi []).bnd fun _ _ _=>Keep.ok rfl
  cases hs:nam nk (tks l) i with
  | none=>exact tail
  | some s=>
   rw[show d+i+1=d+(i+1) from rfl] at tail ⊢;rw[h.key (eQ hs) (by decide)]
   cases hk:key (tks l) (i+1) kOpen with
   | false=>exact tail
   | true=>exact(zK h (hM (i+2) (qF hk)) [kShut]).bnd fun _ _ _=>Keep.ok rfl
theorem zUp (h:zQ l l' d) {D D':Nat->Rs Fr} (hD:∀j,j<=l.length->KeepL l.length d (D j) (D' (d+j))) {i:Nat} (hi:i<=l.length):Keep d (bodyS nk l D i) (bodyS nk l' D' (d+i)):=by
 unfold bodyS;rw[h.key hi (by decide)]
 split
 ·rename_i hk
  exact pK h hD 50 (qF hk)
 ·exact(zM h hi []).bnd fun _ _ _=>Keep.ok rfl
structure TabOk (t:List Rw8):Prop where
 alt:∀r∈t,r.fit≠none->∃r'∈t,r'.w=r.w/\r'.fit=none/\¬(74<=r'.k/\r'.k<=75)
 sign:∀r∈t,∀s,r.fit=some s->stopK s=false
 some_:∀r∈t,r.sh≠[]
theorem zQy:TabOk specR:=by
 refine⟨?_,?_,?_⟩
 ·intro r hr hf
  simp only[specR,List.mem_cons,List.not_mem_nil,or_false] at hr
  rcases hr with rfl | rfl | rfl | rfl | rfl | rfl | rfl
  all_goals first | exact absurd rfl hf | exact⟨⟨kType,61,[110],none⟩,by simp[specR],rfl,rfl,by decide⟩
 ·intro r hr s hs
  simp only[specR,List.mem_cons,List.not_mem_nil,or_false] at hr
  rcases hr with rfl | rfl | rfl | rfl | rfl | rfl | rfl
  all_goals first | (cases hs;done) | (injection hs with hs;subst hs;decide)
 ·intro r hr
  simp only[specR,List.mem_cons,List.not_mem_nil,or_false] at hr
  rcases hr with rfl | rfl | rfl | rfl | rfl | rfl | rfl<;>exact List.cons_ne_nil _ _
theorem rR:TabOk declR:=by
 refine⟨?_,?_,?_⟩
 ·intro r hr hf
  simp only[declR,List.mem_cons,List.not_mem_nil,or_false] at hr
  rcases hr with rfl | rfl | rfl | rfl | rfl | rfl | rfl | rfl | rfl
  all_goals first | exact absurd rfl hf | exact⟨⟨kVal,70,[110,61,101],none⟩,by simp[declR],rfl,rfl,by decide⟩
 ·intro r hr s hs
  simp only[declR,List.mem_cons,List.not_mem_nil,or_false] at hr
  rcases hr with rfl | rfl | rfl | rfl | rfl | rfl | rfl | rfl | rfl
  all_goals first | (cases hs;done) | (injection hs with hs;subst hs;decide)
 ·intro r hr
  simp only[declR,List.mem_cons,List.not_mem_nil,or_false] at hr
  rcases hr with rfl | rfl | rfl | rfl | rfl | rfl | rfl | rfl | rfl<;>exact List.cons_ne_nil _ _
theorem zM2 {O:UInt8->Nat->Rs Tr} (hO:OneIn l O) {sh:List UInt8} (h0:sh≠[]) {i:Nat} (a:Pa) (hi:i<=l.length):In l.length i (partS nk lg l O sh i a):=by
 cases sh with
 | nil=>exact absurd rfl h0
 | cons c r=>
  unfold partS;exact(iC hO c hi a).bnd0 fun b j _ _ hj=>wE hO r j b hj
theorem aB {O:UInt8->Nat->Rs Tr} {top:Bool}:∀(t:List Rw8) (i j:Nat),rowsS nk lg l O top t i = .inl (none,j)->j=i/\∀r∈t,begS l r top i=false
 | [],i,j,h=>by
  unfold rowsS at h;injection h with h;injection h with _ h;exact⟨h.symm,fun r hr=>by cases hr⟩
 | r::t,i,j,h=>by
  unfold rowsS at h
  split at h
  ·obtain⟨p,q,_,h2⟩:=qD h
   injection h2 with h2;injection h2 with h2
   cases h2
  ·rename_i hb
   obtain⟨h1,h2⟩:=aB t i j h;refine⟨h1,fun r' hr=>?_⟩
   rcases List.mem_cons.1 hr with rfl | hr
   ·exact Bool.eq_false_iff.2 hb
   ·exact h2 r' hr
theorem sN {O:UInt8->Nat->Rs Tr} {top:Bool}:∀(t:List Rw8) (i:Nat),(∀r∈t,begS l r top i=false)->rowsS nk lg l O top t i = .inl (none,i)
 | [],_,_=>rfl
 | r::t,i,h=>by
  unfold rowsS;rw[if_neg (by rw[h r (List.mem_cons_self ..)];decide)];exact sN t i fun r' hr=>h r' (List.mem_cons_of_mem _ hr)
theorem zQz (h:zQ l l' d) {r:Rw8} {top:Bool} {i:Nat} (hi:i+1<l.length) (hs:∀s,r.fit=some s->stopK s=false):begS l' r top (d+i)=begS l r top i:=by
 unfold begS fitS;rw[h.keyL (by omega)]
 cases hf:r.fit with
 | none=>rfl
 | some s=>
  simp only;rw[show d+i+1+1=d+(i+2) from rfl,h.key (by omega) (hs s hf)]
theorem aF (h:zQ l l' d) {O O':UInt8->Nat->Rs Tr} (aO:OneIn l O) (hO:jL l d O O') {top:Bool} {i:Nat} (hi:i+1<l.length):∀(t:List Rw8),(∀r∈t,∀s,r.fit=some s->stopK s=false)->Keep d (rowsS nk lg l O top t i) (rowsS nk lg l' O' top t (d+i))
 | [],_=>Keep.ok rfl
 | r::t,ht=>by
  unfold rowsS;rw[zQz h hi (ht r (List.mem_cons_self ..))]
  split
  ·exact(nR h aO hO r.sh (i+1) _ (by omega)).bnd fun _ _ _=>Keep.ok rfl
  ·exact aF h aO hO hi t fun r' hr=>ht r' (List.mem_cons_of_mem _ hr)
theorem xY {O:UInt8->Nat->Rs Tr} (hO:OneIn l O) {top:Bool} {i:Nat}:∀(t:List Rw8),(∀r∈t,r.sh≠[])->∀(x:Tr) (j:Nat),rowsS nk lg l O top t i = .inl (some x,j)->i+1<j/\j<=l.length
 | [],_,x,j,h=>by unfold rowsS at h;cases h
 | r::t,hr,x,j,h=>by
  unfold rowsS at h
  split at h
  ·rename_i hb
   obtain⟨p,q,h1,h2⟩:=qD h;injection h2 with h2;injection h2 with h3 h4;subst h4;have h5:=zM2 (nk:=nk) (lg:=lg) hO (hr r (List.mem_cons_self ..)) ⟨nob,nob,.nil⟩ (zRb hb);rw[h1] at h5;exact h5
  ·exact xY hO t (fun r h=>hr r (List.mem_cons_of_mem _ h)) x j h
theorem wZ (h:zQ l l' d) {O O':UInt8->Nat->Rs Tr} (aO:OneIn l O) (hO:jL l d O O') {top:Bool} {t:List Rw8} (ht:TabOk t) {i:Nat} (hi:i<l.length):Keep d (rowsS nk lg l O top t i) (rowsS nk lg l' O' top t (d+i)):=by
 by_cases h1:i+1<l.length
 ·exact aF h aO hO h1 t ht.sign
 ·intro o j hR
  cases o with
  | some x=>
   have:=xY aO t ht.some_ x j hR;omega
  | none=>
   obtain⟨rfl,h2⟩:=aB t i j hR;refine sN t _ fun r hr=>?_
   have key0:(!(decide (74<=r.k)&&decide (r.k<=75) && !top)&&key (tks l) j r.w)=false:=by
    cases hf:r.fit with
    | none=>
     have h3:=h2 r hr;unfold begS fitS at h3;rw[hf,Bool.and_true] at h3;exact h3
    | some s=>
     obtain⟨r',hr',hw,hf',hk⟩:=ht.alt r hr (by rw[hf];exact fun h=>by cases h);have h3:=h2 r' hr';unfold begS fitS at h3;have hk2:(decide (74<=r'.k)&&decide (r'.k<=75))=false:=by
      rw[Bool.eq_false_iff];intro hc;rw[Bool.and_eq_true,decide_eq_true_eq,decide_eq_true_eq] at hc;exact hk hc
     rw[hf',hw,hk2] at h3;simp only[Bool.false_and,Bool.not_false,Bool.true_and,Bool.and_true] at h3;rw[h3,Bool.and_false]
   unfold begS;rw[h.keyL hi,key0]
   rfl
theorem nV (h:zQ l l' d) {O O':UInt8->Nat->Rs Tr} (aO:OneIn l O) (hO:jL l d O O') {top:Bool} {t:List Rw8} (ht:TabOk t):∀(n i:Nat) (acc:Fr),i<=l.length->KeepL l.length d (manyS nk lg l O t top n i acc) (manyS nk lg l' O' t top n (d+i) acc)
 | 0,i,acc,_=>fun f j hm _=>by unfold manyS at hm;cases hm
 | n+1,i,acc,hi=>fun f j hm hj=>by
  unfold manyS at hm ⊢;obtain⟨o,q,h1,h2⟩:=qD hm
  cases o with
  | none=>
   injection h2 with h2;injection h2 with h3 h4;have hlt:i<l.length:=by omega
   rw[wZ h aO hO ht hlt none q h1]
   show Sum.inl (acc,d+i)=Sum.inl (f,d+j)
   rw[h3,h4]
  | some x=>
   have h3:=xY aO t ht.some_ x q h1;rw[wZ h aO hO ht (by omega) (some x) q h1];exact nV h aO hO ht n q _ h3.2 f j h2 hj
theorem rT (h:zQ l l' d) {n:Nat} {M M' S S':Nat->Rs Tr} (hM:∀j,j<=l.length->Keep d (M j) (M' (d+j))) (hS:∀j,j<=l.length->Keep d (S j) (S' (d+j))):jL l d (oneS (typL nk lg (tks l)) (exprF nk lg l n) M S) (oneS (typL nk lg (tks l')) (exprF nk lg l' n) M' S'):=by
 intro c j hj;unfold oneS
 repeat' split
 ·exact nQ h hj
 ·exact zX5 h hj
 ·exact hM j hj
 ·exact hS j hj
theorem fQ (h:zQ l l' d):∀(n:Nat),(∀i,i<=l.length->Keep d (modF nk lg l n i) (modF nk lg l' n (d+i)))/\(∀i,i<=l.length->Keep d (sigF nk lg l n i) (sigF nk lg l' n (d+i)))/\
  (∀top i,i<=l.length->KeepL l.length d (declF nk lg l n top i) (declF nk lg l' n top (d+i)))/\(∀i,i<=l.length->KeepL l.length d (specF nk lg l n i) (specF nk lg l' n (d+i)))
 | 0=>⟨(fun i _=>by rw[modF];exact Keep.no),(fun i _=>by rw[sigF];exact Keep.no),(fun _ i _=>by rw[declF];exact Keep.no.low),(fun i _=>by rw[specF];exact Keep.no.low)⟩
 | n+1=>by
  obtain⟨hM,hS,hD,hP⟩:=fQ h n;obtain⟨aM,aS,aD,aP⟩:=jK (nk:=nk) (lg:=lg) (l:=l) n;have hO:=rT (nk:=nk) (lg:=lg) h (n:=n) hM hS;have aO:=vK (nk:=nk) (lg:=lg) (l:=l) (n:=n) aM aS;refine⟨fun i hi=>?_,fun i hi=>?_,fun top i hi=>?_,fun i hi=>?_⟩
  ·rw[modF,modF]
   exact(zUo h hM (hD false) hi).bnd fun m j hj=>nU h aS hS _ _ j (uM (sJ aM (aD false) hi) hj)
  ·rw[sigF,sigF]
   exact(zUp h hP hi).bnd fun m j hj=>pJ h aO hO _ _ j (uM (sK aP hi) hj)
  ·rw[declF,declF]
   exact nV h aO hO rR _ i _ hi
  ·rw[specF,specF]
   exact nV h aO hO zQy _ i _ hi
end
section
variable {nk lg:ByteArray->Bool} {l l':List Te} {d:Nat}
theorem zQ.lt (h:zQ l l' d) {i:Nat} (hi:i<l.length):d+i<l'.length:=by
 have h1:=h.at_ i hi;rw[List.getElem?_eq_getElem hi] at h1;exact(List.getElem?_eq_some_iff.1 h1).1
theorem rU (h:zQ l l' d) {O O':UInt8->Nat->Rs Tr} (aO:OneIn l O) (hO:jL l d O O') {top:Bool} {t:List Rw8} (ht:TabOk t) {f:Fr}:∀(k i:Nat) (acc:Fr),manyS nk lg l O t top k i acc = .inl (f,l.length)->∀K,l'.length-(d+i)<K->
  ∃K',l'.length-(d+l.length)<K'/\manyS nk lg l' O' t top K (d+i) acc=manyS nk lg l' O' t top K' (d+l.length) f
 | 0,i,acc,hm,_,_=>by unfold manyS at hm;cases hm
 | k+1,i,acc,hm,K,hK=>by
  unfold manyS at hm;obtain⟨o,q,h1,h2⟩:=qD hm
  cases o with
  | none=>
   injection h2 with h2;injection h2 with h3 h4;subst h3;rw[<- h4];exact⟨K,hK,rfl⟩
  | some x=>
   have h3:=xY aO t ht.some_ x q h1;have h5:=h.lt (show i<l.length by omega);obtain⟨K0,rfl⟩:∃K0,K=K0+1:=⟨K-1,by omega⟩;obtain⟨K',hK',he⟩:=rU h aO hO ht k q _ h2 K0 (by omega);refine⟨K',hK',?_⟩;rw[<- he]
   show thn (rowsS nk lg l' O' top t (d+i)) _=_
   rw[wZ h aO hO ht (by omega) (some x) q h1]
   rfl
theorem zM3 {r:Rw8} {top:Bool} {i:Nat} (h:l.length<=i):begS l r top i=false:=by
 unfold begS;rw[zR (by rw[qK];exact h),Bool.and_false,Bool.false_and]
theorem aG (h:zQ l l' d) (he:l'.length=d+l.length) {O O':UInt8->Nat->Rs Tr} (aO:OneIn l O) (hO:jL l d O O') {top:Bool} {t:List Rw8} (ht:TabOk t) {f:Fr} (a0:Fr):∀(k i:Nat) (acc:Fr),manyS nk lg l O t top k i acc = .inl (f,l.length)->∀K,l'.length-(d+i)<K->
  manyS nk lg l' O' t top K (d+i) (a0.app acc) = .inl (a0.app f,l'.length)
 | 0,i,acc,hm,_,_=>by unfold manyS at hm;cases hm
 | k+1,i,acc,hm,K,hK=>by
  unfold manyS at hm;obtain⟨o,q,h1,h2⟩:=qD hm;obtain⟨K0,rfl⟩:∃K0,K=K0+1:=⟨K-1,by omega⟩
  cases o with
  | none=>
   injection h2 with h2;injection h2 with h3 h4;subst h3
   show thn (rowsS nk lg l' O' top t (d+i)) _=_
   rw[sN t (d+i) fun r _=>zM3 (by omega)]
   show Sum.inl (a0.app acc,d+i)=Sum.inl (a0.app acc,l'.length)
   rw[he,h4]
  | some x=>
   have h3:=xY aO t ht.some_ x q h1
   show thn (rowsS nk lg l' O' top t (d+i)) _=_
   rw[wZ h aO hO ht (by omega) (some x) q h1]
   show manyS nk lg l' O' t top K0 (d+q) ((a0.app acc).app (fr1 x))=_
   rw[Fr.app_assoc];exact aG h he aO hO ht a0 k q _ h2 K0 (by omega)
theorem zUq {n:Nat} {top:Bool} {f:Fr} (h:declF nk lg l n top 0 = .inl (f,l.length)):l[0]? = none\/∃y m,l[0]? = some ⟨ky y,m⟩/\stopK y=true:=by
 cases n with
 | zero=>rw[declF] at h;cases h
 | succ n=>
  rw[declF] at h;unfold manyS at h;obtain⟨o,q,h1,h2⟩:=qD h
  cases o with
  | none=>
   injection h2 with h2;injection h2 with h3 h4;exact .inl (List.getElem?_eq_none (by omega))
  | some x=>
   have key0:∃r∈declR,begS l r top 0=true:=by
    refine Classical.byContradiction fun hc=>?_
    have:rowsS nk lg l (oneS (typL nk lg (tks l)) (exprF nk lg l n) (fun j=>modF nk lg l n j) (fun j=>sigF nk lg l n j)) top declR 0 = .inl (none,0):=sN declR 0 fun r hr=>Bool.eq_false_iff.2 fun hb=>hc ⟨r,hr,hb⟩
    rw[this] at h1;injection h1 with h1;injection h1 with h1
    cases h1
   obtain⟨r,hr,hb⟩:=key0;have hs:stopK r.w=true:=by
    simp only[declR,List.mem_cons,List.not_mem_nil,or_false] at hr
    rcases hr with rfl | rfl | rfl | rfl | rfl | rfl | rfl | rfl | rfl<;>decide
   unfold begS at hb;rw[Bool.and_eq_true,Bool.and_eq_true] at hb;have hk:=hb.1.2;unfold key at hk;rw[yM] at hk
   cases hl:l[0]? with
   | none=>exact .inl rfl
   | some t=>
    rw[hl] at hk;have hk:(decide (t.t.k=3)&&decide (t.t.s=r.w))=true:=hk;rw[Bool.and_eq_true,decide_eq_true_eq,decide_eq_true_eq] at hk;obtain⟨⟨k,s⟩,m⟩:=t;obtain⟨h5,h6⟩:=hk;have h5:k=3:=h5;have h6:s=r.w:=h6;subst h5;subst h6;exact .inr ⟨_,m,rfl,hs⟩
theorem zUr {a b:List Te} {n:Nat} {f g:Fr} (ha:declF nk lg a n true 0 = .inl (f,a.length)) (hb:declF nk lg b n true 0 = .inl (g,b.length)) (hn:a.length+b.length<n):declF nk lg (a++b) n true 0 = .inl (f.app g,a.length+b.length):=by
 have hst:=zUq hb;have c1:zQ a (a++b) 0:=by
  refine⟨fun i hi=>by rw[Nat.zero_add,List.getElem?_append_left hi],?_⟩;rw[Nat.zero_add,List.getElem?_append_right (Nat.le_refl _),Nat.sub_self];exact hst
 have c2:zQ b (a++b) a.length:=by
  refine⟨fun i hi=>by rw[List.getElem?_append_right (by omega),Nat.add_sub_cancel_left],.inl ?_⟩;exact List.getElem?_eq_none (by rw[List.length_append];exact Nat.le_refl _)
 cases n with
 | zero=>omega
 | succ n=>
  rw[declF] at ha hb ⊢;obtain⟨aM,aS,aD,aP⟩:=jK (nk:=nk) (lg:=lg) (l:=a) n;obtain⟨bM,bS,bD,bP⟩:=jK (nk:=nk) (lg:=lg) (l:=b) n;obtain⟨kM,kS,-,-⟩:=fQ (nk:=nk) (lg:=lg) c1 n;obtain⟨mM,mS,-,-⟩:=fQ (nk:=nk) (lg:=lg) c2 n;obtain⟨K',hK',he⟩:=rU c1 (vK aM aS) (rT c1 kM kS) rR (n+1) 0 .nil ha (n+1) (by rw[List.length_append];omega);have h2:=aG c2 (List.length_append ..) (vK bM bS) (rT c2 mM mS) rR f (n+1) 0 .nil hb K' (by rw[Nat.zero_add] at hK';exact hK');rw[Fr.app_nil,List.length_append] at h2;rw[Nat.zero_add] at he;exact he.trans (by rw[Nat.zero_add];exact h2)
end
theorem zP0:B.btw [10]=[10].length:=by decide
theorem zX6 {a b s:ByteArray} {x y:List (B.Tok×Nat)} (ha:B.lexR a=(x,0,0)) (hb:B.lexR b=(y,0,0)) (hz:a.size+1+b.size<=16384) (hs:s.data.toList=a.data.toList++10::b.data.toList) :
  ∃r,B.lexR s=(r,0,0)/\r.map (·.1)=x.map (·.1)++y.map (·.1):=by
 rcases B.jU ha with ⟨_,_,La,tA,lA⟩ | ⟨h,_⟩
 ·rcases B.jU hb with ⟨_,_,Lb,tB,lB⟩ | ⟨h,_⟩
  ·have hT:s=B.T (La++10::Lb):=by
    apply ByteArray.ext
    apply Array.ext'
    rw[hs,<- tA.txt,<- tB.txt,B.yL,B.yL,B.yL,B.fW]
    rfl
   have hsz:B.sz (La++10::Lb)<=16384:=by
    have h1:B.sz La=a.size:=by rw[<- B.qO,tA.txt]
    have h2:B.sz Lb=b.size:=by rw[<- B.qO,tB.txt]
    rw[B.sz_app,B.zG,h1,h2,(B.yH (r:=10) (by omega)).1];omega
   have hl:B.lexL (La++10::Lb) 0 = .inl (x++B.sh (0+B.sz La+B.sz [10]) y):=by
    rw[B.gB La.length La 0 x Lb (Nat.le_refl _) lA];have h1:=B.tI zP0 Lb (0+B.sz La);rw[show[10]++Lb=10::Lb from rfl] at h1;rw[h1,B.zL5 lB]
   refine⟨x++B.sh (0+B.sz La+B.sz [10]) y,?_,?_⟩
   ·rw[hT,B.zLc (fun r hr=>?_) (fun r hr=>?_) hsz,hl]
    ·rcases List.mem_append.1 hr with h | h
     ·exact tA.ok r h
     ·rcases List.mem_cons.1 h with rfl | h
      ·exact B.iQ (l:=[10]) (by decide) 10 (by simp)
      ·exact tB.ok r h
    ·rcases List.mem_append.1 hr with h | h
     ·exact tA.rd r h
     ·rcases List.mem_cons.1 h with rfl | h
      ·decide
      ·exact tB.rd r h
   ·rw[List.map_append]
    congr 1
    unfold B.sh;rw[List.map_map]
    rfl
  ·exact absurd rfl h
 ·exact absurd rfl h
def progT (f:Fr):Tr:=nd 80 nob f
def tqs (r:List (B.Tok×Nat)):List Te:=r.map teq
def fR (r:List (B.Tok×Nat)) (s:ByteArray) (p:Nat):Int:=match r[p]? with
 | some x=>(x.2:Int)
 | none=>(s.size:Int)
def srcD (s:ByteArray) (r:List (B.Tok×Nat)) (R:Rs Fr):Option Tr×Int×Int:=match R with
 | .inr (p,e)=>(none,fR r s p,e)
 | .inl (f,j)=>if j<r.length then (none,fR r s j,6) else if 8192<szT (progT f) then (none,0,3) else if 60<dpT (progT f) then (none,0,7) else (some (progT f),0,0)
def srcZ (m:Nat) (s:ByteArray):Option Tr×Int×Int:=
 if (B.lexR s).2.2=0 then srcD s (B.lexR s).1 (declF B.nck B.long (tqs (B.lexR s).1) m true 0) else (none,(B.lexR s).2.1,(B.lexR s).2.2)
theorem sO (f:Fr):szT (progT f)=1+f.sz:=rfl
theorem zWu (f:Fr):dpT (progT f)=1+f.dp:=rfl
theorem yQ (r:List (B.Tok×Nat)):(tqs r).length=r.length:=List.length_map ..
end Go.Proofs.YtgeghilbikljcaaGreatDoor
namespace Go.Proofs.YtgeghilbikljcaaGreatDoor
open Go.RowKit
def Tka (w:World) (v:Value) (l:List (B.Tok×Nat)):Prop:=∃A c,v = .slice A l.length c/\∀(j:Nat) x,l[j]? = some x->∃b o,A=some ⟨b,o,none⟩/\b<w.heap.size/\w.cell? ⟨b,o+j*4+3,none⟩=some (.int .i64 ((x.2:Nat):Int))
theorem Tka.up {W w:World} {v:Value} {l:List (B.Tok×Nat)} (h:Tka W v l) (u:Up W w):Tka w v l:=by
 obtain⟨A,c,hv,hc⟩:=h;refine⟨A,c,hv,fun j x hx=>?_⟩;obtain⟨b,o,h1,h2,h3⟩:=hc j x hx;exact⟨b,o,h1,Nat.lt_of_lt_of_le h2 u.size,u.cell h3⟩
theorem zJc {w:World} {v:Value} {l:List (B.Tok×Nat)} (h:B.Tks w w.heap.size v l):Tka w v l:=by
 obtain⟨A,c,hv,hc⟩:=h;refine⟨A,c,hv,fun j x hx=>?_⟩;obtain⟨ad,hA,hlt,hcell⟩:=hc j x hx;have hj:j<l.length:=(List.getElem?_eq_some_iff.1 hx).1;obtain⟨x0,hx0⟩:∃x0,l[0]? = some x0:=⟨_,List.getElem?_eq_getElem (by omega)⟩;obtain⟨ad0,hA0,_,hcell0⟩:=hc 0 x0 hx0;have e0:ad0=ad:=by rw[hA] at hA0;exact(Option.some.inj hA0).symm
 subst e0;have h0:=hcell0 0 _ rfl;have hsp:ad0.spot=none:=by
  have e:ad0.add (0*4+0)=ad0:=by simp[Addr.add]
  rw[e] at h0;unfold World.cell? at h0
  cases hs:ad0.spot with
  | none=>rfl
  | some z=>
   rw[hs] at h0
   cases hh:w.heap[ad0.block]? with
   | none=>rw[hh] at h0;cases h0
   | some ob=>rw[hh] at h0;cases ob<;>simp at h0
 have ha:∀i,ad0.add i=⟨ad0.block,ad0.off+i,none⟩:=fun i=>by
  unfold Addr.add
  split
  ·rename_i hi
   subst hi;rw[<- hsp]
   rfl
  ·rfl
 have c3:=hcell 3 _ rfl;rw[ha,<- Nat.add_assoc] at c3;exact⟨ad0.block,ad0.off,by rw[hA,<- hsp],hlt,c3⟩
theorem rV (s:ByteArray) (r:List (B.Tok×Nat)) (p:Nat) (hp:p<=r.length) (v:Value) (w:World) (hv:Tka w v r) :
  Calls Tryz.prog 32 #[.string s,v,.int .i64 (p:Int)] w fun e w'=>e = .returned (.int .i64 (fR r s p))/\Up w w':=by
 obtain⟨A,c,rfl,hc⟩:=hv
 by_cases h:p=r.length
 ·have e:fR r s p=(s.size:Int):=by
   unfold fR;rw[List.getElem?_eq_none (by omega)]
  rw[e];have hz:(p:Int)=(r.length:Int):=by omega
  clear hc
  go_enter Tryz.func32,Tryz.ntmps32
  go_wp2_with fail
  go_ret
  exact⟨rfl,Up.refl _⟩
 ·obtain⟨x,hx⟩:∃x,r[p]? = some x:=⟨_,List.getElem?_eq_getElem (by omega)⟩
  obtain⟨b,o,rfl,hb,h3⟩:=hc p x hx;have e:fR r s p=((x.2:Nat):Int):=by
   unfold fR;rw[hx]
  rw[e];obtain⟨at9,hat⟩:∃a,((x.2:Nat):Int)=a:=⟨_,rfl⟩;rw[hat] at h3 ⊢;obtain⟨n,hn⟩:∃n,r.length=n:=⟨_,rfl⟩;rw[hn] at h hp ⊢;have hz:¬(p:Int)=(n:Int):=by omega
  have hlt:(p:Int)<(n:Int):=by omega
  have h0:¬(p:Int)<0:=by omega
  clear hc hx hat hn e
  go_enter Tryz.func32,Tryz.ntmps32
  go_wp2_with fail
  go_ret
  exact⟨rfl,Up.refl _⟩
def SouP (R:Option Tr×Int×Int) (w:World) (e:Ending) (w':World):Prop:=∃v,e = .returned (.tuple #[v,.int .i64 R.2.1,.int .i64 R.2.2])/\Up w w'/\match R.1 with
 | some t=>NewT w w' v t
 | none=>v = .pointer none
theorem KidsP.node {W0 W w:World} {A:Option Addr} {n c:Nat} {f:Fr} (h:KidsP W w (.slice A n c) f) (k:Int) (s:ByteArray) (hW:W0.heap.size<=W.heap.size) (hw:W0.heap.size<=w.heap.size) :
  NewT W0 (w.alloc (.cells #[.int .i64 k,.int .i64 0,.string s,.string ⟨#[]⟩,.slice A n c] 44)) (.pointer (some ⟨w.heap.size,0,none⟩)) (nd k s f):=by
 obtain⟨A',c',hv,hc,h4⟩:=h;injection hv with h1 h2 h3;subst h1 h2 h3;obtain⟨W2,hW2⟩:∃W2,w.alloc (.cells #[.int .i64 k,.int .i64 0,.string s,.string ⟨#[]⟩,.slice A f.len c] 44)=W2:=⟨_,rfl⟩;have u2:Up w W2:=by rw[<- hW2];exact(Up.refl w).alloc _
 have z2:W2.heap.size=w.heap.size+1:=by rw[<- hW2];simp
 have s2:W2.heap[w.heap.size]? = some (.cells #[.int .i64 k,.int .i64 0,.string s,.string ⟨#[]⟩,.slice A f.len c] 44 (0,0)):=by rw[<- hW2];exact heap_alloc_new w _
 rw[hW2];refine⟨w.heap.size,0,A,c,rfl,⟨hw,by omega⟩,⟨_,_,s2⟩,cell_of_row W2 _ 0 _ _ _ s2,cell_of_row W2 _ 1 _ _ _ s2,cell_of_row W2 _ 2 _ _ _ s2,cell_of_row W2 _ 3 _ _ _ s2,cell_of_row W2 _ 4 _ _ _ s2,hc,fun h0=>?_⟩;obtain⟨g,rfl,hg,hf⟩:=h4 h0;exact⟨g,0,rfl,⟨by have:=hg.1;omega,by have:=hg.2;omega⟩,InF.keep (fun q hq=>⟨by have:=hq.1;omega,by have:=hq.2;omega⟩) (fun q hq=>Below.block u2 q hq.2) hg hf⟩
theorem zUs {s:ByteArray} (hs:s.size<=16384) {l:List (B.Tok×Nat)} {a b:Int} (h:B.lexR s=(l,a,b)):l.length<=16384/\∀t∈tqs l,t.t.s.size<=1000000000:=by
 obtain⟨h1,h2⟩:=zQt hs h;refine⟨h1,fun t ht=>?_⟩;obtain⟨x,hx,rfl⟩:=List.mem_map.1 ht;exact h2 (tkq x) (List.mem_map.2 ⟨x,hx,rfl⟩)
theorem zUt {s:ByteArray} (h:16384<s.size):B.lexR s=([],0,3):=by
 have e:B.ckr s=(0,3):=by unfold B.ckr;rw[if_pos h]
 unfold B.lexR;rw[e]
 rfl
theorem vO (s:ByteArray) (hs:s.size<=1000000000) (m:Nat) (hm:3*(B.lexR s).1.length+4<=m) (w:World) (hx:Vx7 w):Calls Tryz.prog 17 #[.string s] w (SouP (srcZ m s) w):=by
 obtain⟨l,a,bb,hr⟩:∃l a b,B.lexR s=(l,a,b):=⟨_,_,_,rfl⟩;have hlq:bb=0->l.length<=16384/\∀t∈tqs l,t.t.s.size<=1000000000:=fun h0=>by
  by_cases hz:s.size<=16384
  ·exact zUs hz hr
  ·rw[zUt (by omega)] at hr
   injection hr with h1 h2;injection h2 with h2 h3;omega
 have cL:=B.zPz s hs w hx.lx;have hab:bb=0->a=0:=fun h0=>by
  rcases B.jU hr with ⟨_,hb,_⟩ | ⟨h,_⟩
  ·exact hb
  ·exact absurd h0 h
 obtain⟨S,hS⟩:∃S,srcZ m s=S:=⟨_,rfl⟩;have hS1:=hS.symm;unfold srcZ at hS1;rw[hr] at cL hm hS1;simp only at hm hS1;rw[hS];have HX:=Lib.hid hx;have HS:=Lib.hid hS1;have HLQ:=Lib.hid hlq;have HAB:=Lib.hid hab;clear hS hS1 hr hx hlq hab
 go_enter Tryz.func17,Tryz.ntmps17
 go_wp2_with fail;refine cL.mono ?_;rintro en w1 ⟨v,rfl,ht,hb1⟩;have u1:Up w w1:=hb1
 by_cases hb:bb=0
 ·have ha:=HAB.out hb
  obtain⟨hl,hlz⟩:=HLQ.out hb;have HLZ:=Lib.hid hlz;clear HLQ hlz;subst ha hb;have tk:=zJ6 ht;have ta:=zJc ht;have cD:=zJ5 (tqs l) true 0 (by rw[yQ];omega) HLZ.out m (by rw[yQ];omega) w1 v tk (HX.out.up u1).nx (HX.out.up u1).px.2 (HX.out.up u1).px.1;have e0:declZ B.nck B.long (tqs l) m true 0=declF B.nck B.long (tqs l) m true 0:=if_neg (by omega);rw[e0] at cD;have hin:=xW (nk:=B.nck) (lg:=B.long) (l:=tqs l) (n:=m) (i:=0) (top:=true) (Nat.zero_le _);have hsz:=(wW (l:=tqs l) nck7 zMf m).2.2.1 true 0;have hS:=HS.out;rw[if_pos rfl] at hS;obtain⟨X,hX⟩:∃X,declF B.nck B.long (tqs l) m true 0=X:=⟨_,rfl⟩;rw[hX] at cD hin hS hsz;have hSZ:∀f j,X = .inl (f,j)->f.sz<=32768:=fun f j h=>by
   have h1:=(hsz f j h).sz;rw[h] at hin;have h2:j<=(tqs l).length:=hin.2;rw[yQ] at h2;omega
  rw[yQ] at hin;have HS2:=Lib.hid hS;have HSZ:=Lib.hid hSZ;have U1:=Lib.hid u1;have TA:=Lib.hid ta;obtain⟨tA,tc,rfl⟩:∃A c,v = .slice A l.length c:=by obtain⟨A,c,h,_⟩:=ta;exact⟨A,c,h⟩
  clear ht hb1 u1 tk ta e0 hX hS hSZ hsz HS cL HLZ HAB hm;go_wp2_with fail;refine cD.mono ?_;rintro en w2 ⟨A,n,c,j,er,rfl,u2,hV⟩;have TA2:=Lib.hid (TA.out.up u2);have U2:=Lib.hid (U1.out.trans u2);have U12:=Lib.hid u2;clear u2 cD TA
  cases X with
  | inr x=>
   obtain⟨p,r⟩:=x;obtain⟨rfl,rfl,rfl,rfl⟩:=hV;have hp:p<=l.length:=hin.2.1;have hr:¬er=0:=by have:=hin.2.2;omega
   have cB:=rV s l p hp _ w2 TA2.out;clear hin TA2;go_wp2_with fail;refine cB.mono ?_;rintro en w3 ⟨rfl,u3⟩;have U3:=Lib.hid u3;clear u3 cB;go_wp2_with fail
   go_ret3
   rw[HS2.out];exact⟨_,rfl,U2.out.trans U3.out,rfl⟩
  | inl x=>
   obtain⟨f,q⟩:=x;obtain⟨hk,rfl,rfl⟩:=hV;have hq:q<=l.length:=hin.2
   by_cases hlt:q<l.length
   ·have hS:=HS2.out
    unfold srcD at hS;simp only at hS;rw[if_pos hlt] at hS;have HS3:=Lib.hid hS;have hlz:(q:Int)<(l.length:Int):=by omega
    have cB:=rV s l q hq _ w2 TA2.out;clear hin TA2 hS HS2 hk;go_wp2_with fail;refine cB.mono ?_;rintro en w3 ⟨rfl,u3⟩;have U3:=Lib.hid u3;clear u3 cB;go_wp2_with fail
    go_ret3
    rw[HS3.out];exact⟨_,rfl,U2.out.trans U3.out,rfl⟩
   ·have hS:=HS2.out
    unfold srcD at hS;simp only at hS;rw[if_neg hlt] at hS;have HS3:=Lib.hid hS;have hlz:¬(q:Int)<(l.length:Int):=by omega
    have hsz:=HSZ.out f q rfl;have hz1:=U1.out.size;have hz2:=U2.out.size;have hn:=hk.node (W0:=w) 80 nob hz1 hz2;obtain⟨w3,hw3⟩:∃x,w2.alloc (.cells #[.int .i64 80,.int .i64 0,.string ⟨#[]⟩,.string ⟨#[]⟩,.slice A n c] 44)=x:=⟨_,rfl⟩;have u3:Up w2 w3:=by rw[<- hw3];exact(Up.refl _).alloc _
    have hn:NewT w w3 (.pointer (some ⟨w2.heap.size,0,none⟩)) (progT f):=by rw[<- hw3];exact hn
    have hpz:szT (progT f)<=65536:=by rw[sO];omega
    have cS:=uSize (some (progT f)) hn.has hpz (Up.refl w3);have hdz:dpO (some (progT f))=dpT (progT f):=rfl;have hsz2:szO (some (progT f))=szT (progT f):=rfl;rw[hsz2] at cS;obtain⟨zs,hzs⟩:∃z,szT (progT f)=z:=⟨_,rfl⟩;obtain⟨zd,hzd⟩:∃z,dpT (progT f)=z:=⟨_,rfl⟩;rw[hzs] at cS hpz;have hS3:=HS3.out;rw[hzs,hzd] at hS3;have HS4:=Lib.hid hS3;have HN:=Lib.hid hn;have U3:=Lib.hid (U2.out.trans u3);have HW3:=Lib.hid hw3;have HD:Hid (∀w',Up w3 w'->Calls Tryz.prog 34 #[.pointer (some ⟨w2.heap.size,0,none⟩)] w' (NuP zd w3)):=Lib.hid fun w' u=>by
     have c:=uDeep (some (progT f)) hn.has (by show szT (progT f)<=_;omega) u;rw[hdz,hzd] at c;exact c
    clear hin TA2 hS HS2 HS3 hS3 hk hn hw3 u3 hdz hsz2 hzs hzd hsz HSZ;go_wp2_with fail;rw[HW3.out];refine cS.mono ?_;rintro en w4 ⟨rfl,u4⟩;have cD:=HD.out w4 u4;have U4:=Lib.hid u4;clear u4 cS
    by_cases h1:8192<zs
    ·have h1z:(8192:Int)<(zs:Int):=by omega
     have hS:=HS4.out;rw[if_pos h1] at hS;have HS5:=Lib.hid hS;clear hS HS4 HN;go_wp2_with fail
     go_ret3
     rw[HS5.out];exact⟨_,rfl,U3.out.trans U4.out,rfl⟩
    ·have h1z:¬(8192:Int)<(zs:Int):=by omega
     have hS:=HS4.out;rw[if_neg h1] at hS;have HS5:=Lib.hid hS;clear hS HS4;go_wp2_with fail;refine cD.mono ?_;rintro en w5 ⟨rfl,u5⟩;have U5:=Lib.hid u5;clear u5 cD
     by_cases h2:60<zd
     ·have h2z:(60:Int)<(zd:Int):=by omega
      have hS:=HS5.out;rw[if_pos h2] at hS;have HS6:=Lib.hid hS;clear hS HS5 HN;go_wp2_with fail
      go_ret3
      rw[HS6.out];exact⟨_,rfl,U3.out.trans U5.out,rfl⟩
     ·have h2z:¬(60:Int)<(zd:Int):=by omega
      have hS:=HS5.out;rw[if_neg h2] at hS;have HS6:=Lib.hid hS;clear hS HS5;go_wp2_with fail
      go_ret3
      rw[HS6.out];exact⟨_,rfl,U3.out.trans U5.out,HN.out.up U5.out⟩
 ·have hS:=HS.out
  rw[if_neg hb] at hS;have HS2:=Lib.hid hS;have U1:=Lib.hid u1;clear ht hb1 u1 hS HS cL HLQ HAB hm;go_wp2_with fail
  go_ret3
  rw[HS2.out];exact⟨_,rfl,U1.out,rfl⟩
end Go.Proofs.YtgeghilbikljcaaGreatDoor
