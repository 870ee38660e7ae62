/-
  Plain definitions, without the program: tokens as expressions, by the grammar of the chapter; each rule a function, with as much fuel as any list wants.
-/
import Derived.Test.YtbpijnalmakfaaaGreatDoorGs12
namespace Go.Proofs.YtbpijnalmakfaaaGreatDoor
structure Te where
 t:Tk
 n:Int
def tks (l:List Te):List Tk:=l.map (·.t)
theorem zD (l:List Te):(tks l).length=l.length:=List.length_map ..
theorem yP (a b:List Te):tks (a++b)=tks a++tks b:=List.map_append ..
theorem kD (l:List Te) (i:Nat):(tks l)[i]? = (l[i]?).map (·.t):=List.getElem?_map ..
def kFn:ByteArray:=⟨#[102,110]⟩
def zQ:ByteArray:=⟨#[58]⟩
def kFat:ByteArray:=⟨#[61,62]⟩
def kLet:ByteArray:=⟨#[108,101,116]⟩
def kEq:ByteArray:=⟨#[61]⟩
def kIn:ByteArray:=⟨#[105,110]⟩
def kEnd:ByteArray:=⟨#[101,110,100]⟩
def kIf:ByteArray:=⟨#[105,102]⟩
def kThen:ByteArray:=⟨#[116,104,101,110]⟩
def kElse:ByteArray:=⟨#[101,108,115,101]⟩
def kCase:ByteArray:=⟨#[99,97,115,101]⟩
def kFold:ByteArray:=⟨#[102,111,108,100]⟩
def kTo:ByteArray:=⟨#[116,111]⟩
def kLess:ByteArray:=⟨#[60]⟩
def kPlus:ByteArray:=⟨#[43]⟩
def vX:ByteArray:=⟨#[45]⟩
def kTrue:ByteArray:=⟨#[116,114,117,101]⟩
def yH:ByteArray:=⟨#[102,97,108,115,101]⟩
def qJ:ByteArray:=⟨#[44]⟩
def kOne:ByteArray:=⟨#[35,49]⟩
def kTwo:ByteArray:=⟨#[35,50]⟩
def fr3 (a b c:Tr):Fr:=.cons a.1 a.2 (fr2 b c)
inductive Hd where
 | no
 | num (n:Int)
 | var (s:ByteArray)
 | boo (n:Int)
 | sel (k:Int)
 | opn
def hdT (lg:ByteArray→Bool) (t:Te):Hd:=
 if t.t.k=3 then (if t.t.s=kTrue then .boo 1 else if t.t.s=yH then .boo 0 else if t.t.s=kOpen then .opn else if t.t.s=kOne then .sel 27 else if t.t.s=kTwo then .sel 28 else .no)
 else if t.t.k=2 then (if -1073741824≤t.n∧t.n≤1073741824 then .num t.n else .no)
 else if t.t.k=1 then (if lg t.t.s then .var t.t.s else .no)
 else .no
def hdE (lg:ByteArray→Bool) (l:List Te) (i:Nat):Hd:=match l[i]? with
 | some t=>hdT lg t
 | none=>.no
def Hd.any:Hd→Bool
 | .no=>false
 | _=>true
def thn {α β:Type} (R:Rs α) (f:α→Nat→Rs β):Rs β:=match R with
 | .inr e=>.inr e
 | .inl (a,j)=>f a j
def keysL (l:List Tk):Nat→List ByteArray→Rs Unit
 | i,[]=>.inl ((),i)
 | i,k::r=>if key l i k then keysL l (i+1) r else .inr (i,6)
def thenK {α:Type} (l:List Tk) (R:Rs α) (ks:List ByteArray):Rs α:=thn R fun a j=>thn (keysL l j ks) fun _ m=>.inl (a,m)
def nameQ (nk:ByteArray→Bool) (l:List Tk) (i:Nat) (ks:List ByteArray):Rs ByteArray:=match nam nk l i with
 | none=>.inr (i,6)
 | some s=>thn (keysL l (i+1) ks) fun _ m=>.inl (s,m)
def lop (T:Nat→Rs Tr) (s:Nat→Option (Nod×Nat)):Nat→Tr→Nat→Rs Tr
 | 0,_,j=>.inr (j,6)
 | n+1,a,j=>match s j with
  | none=>.inl (a,j)
  | some (x,d)=>thn (T (j+d)) fun b m=>lop T s n (x,fr2 a b) m
def lopS (T:Nat→Rs Tr) (s:Nat→Option (Nod×Nat)) (n i:Nat):Rs Tr:=thn (T i) fun a j=>lop T s n a j
def opN (k:Int):Nod:=⟨31,k,nob,nob⟩
section
variable (nk lg:ByteArray→Bool) (l:List Te)
def sApp (j:Nat):Option (Nod×Nat):=if (hdE lg l j).any then some (⟨25,0,nob,nob⟩,0) else none
def sMul (j:Nat):Option (Nod×Nat):=if key (tks l) j kStar then some (opN 3,1) else none
def sAdd (j:Nat):Option (Nod×Nat):=if key (tks l) j kPlus then some (opN 1,1) else if key (tks l) j vX then some (opN 2,1) else none
def sCmp (j:Nat):Option (Nod×Nat):=if key (tks l) j kEq then some (opN 4,1) else if key (tks l) j kLess then some (opN 5,1) else none
def appS (n:Nat) (A:Nat→Rs Tr):Nat→Rs Tr:=lopS A (sApp lg l) n
def mulS (n:Nat) (A:Nat→Rs Tr):Nat→Rs Tr:=lopS (appS lg l n A) (sMul l) n
def addS (n:Nat) (A:Nat→Rs Tr):Nat→Rs Tr:=lopS (mulS lg l n A) (sAdd l) n
def cmpS (n:Nat) (A:Nat→Rs Tr) (i:Nat):Rs Tr:=thn (addS lg l n A i) fun a j=>match sCmp l j with
 | none=>.inl (a,j)
 | some (x,d)=>thn (addS lg l n A (j+d)) fun b m=>.inl ((x,fr2 a b),m)
def qK (A E:Nat→Rs Tr) (i:Nat):Rs Tr:=match hdE lg l i with
 | .no=>.inr (i,6)
 | .num n=>.inl ((⟨20,n,nob,nob⟩,.nil),i+1)
 | .var s=>.inl (nd 23 s .nil,i+1)
 | .boo n=>.inl ((⟨21,n,nob,nob⟩,.nil),i+1)
 | .sel k=>thn (A (i+1)) fun a j=>.inl (nd k nob (fr1 a),j)
 | .opn=>if key (tks l) (i+1) kShut then .inl (nd 22 nob .nil,i+2) else thn (E (i+1)) fun a j=>
  if key (tks l) j qJ then thn (thenK (tks l) (E (j+1)) [kShut]) fun b m=>.inl (nd 26 nob (fr2 a b),m)
  else thn (keysL (tks l) j [kShut]) fun _ m=>.inl (a,m)
def armsS (E:Nat→Rs Tr) (M:Nat→Fr→Rs Fr) (i:Nat) (acc:Fr):Rs Fr:=
 thn (nameQ nk (tks l) i []) fun c j=>thn (nameQ nk (tks l) j [kFat]) fun x j=>thn (E j) fun b j=>
  if key (tks l) j kBar then M (j+1) (acc.app (fr1 (⟨34,0,c,x⟩,fr1 b))) else thn (keysL (tks l) j [kEnd]) fun _ m=>.inl (acc.app (fr1 (⟨34,0,c,x⟩,fr1 b)),m)
def lamS (E:Nat→Rs Tr) (i:Nat):Rs Tr:=
 thn (keysL (tks l) i [kOpen]) fun _ j=>thn (nameQ nk (tks l) j [zQ]) fun s j=>thn (thenK (tks l) (typL nk lg (tks l) j) [kShut,kFat]) fun t j=>thn (E j) fun b j=>.inl (nd 24 s (fr2 t b),j)
def letS (E:Nat→Rs Tr) (i:Nat):Rs Tr:=
 thn (nameQ nk (tks l) i [kEq]) fun s j=>thn (thenK (tks l) (E j) [kIn]) fun a j=>thn (thenK (tks l) (E j) [kEnd]) fun b j=>.inl (nd 29 s (fr2 a b),j)
def ifS (E:Nat→Rs Tr) (i:Nat):Rs Tr:=
 thn (thenK (tks l) (E i) [kThen]) fun a j=>thn (thenK (tks l) (E j) [kElse]) fun b j=>thn (E j) fun c j=>.inl (nd 30 nob (fr3 a b c),j)
def caseS (E:Nat→Rs Tr) (M:Nat→Fr→Rs Fr) (i:Nat):Rs Tr:=
 thn (thenK (tks l) (E i) [kOf]) fun a j=>thn (M j .nil) fun k j=>.inl (nd 32 nob (.cons a.1 a.2 k),j)
def foldS (E:Nat→Rs Tr) (M:Nat→Fr→Rs Fr) (i:Nat):Rs Tr:=
 thn (thenK (tks l) (E i) [kTo]) fun a j=>thn (thenK (tks l) (typL nk lg (tks l) j) [kOf]) fun t j=>thn (M j .nil) fun k j=>.inl (nd 33 nob (.cons a.1 a.2 (.cons t.1 t.2 k)),j)
def exprS (n:Nat) (A E:Nat→Rs Tr) (M:Nat→Fr→Rs Fr) (i:Nat):Rs Tr:=
 if key (tks l) i kFn then lamS nk lg l E (i+1)
 else if key (tks l) i kLet then letS nk l E (i+1)
 else if key (tks l) i kIf then ifS l E (i+1)
 else if key (tks l) i kCase then caseS l E M (i+1)
 else if key (tks l) i kFold then foldS nk lg l E M (i+1)
 else cmpS lg l n A i
mutual
def exprF:Nat→Nat→Rs Tr
 | 0,i=>.inr (i,6)
 | n+1,i=>exprS nk lg l (n+1) (fun j=>qL n j) (fun j=>exprF n j) (fun j a=>armsF n j a) i
def qL:Nat→Nat→Rs Tr
 | 0,i=>.inr (i,6)
 | n+1,i=>qK lg l (fun j=>qL n j) (fun j=>exprF n j) i
def armsF:Nat→Nat→Fr→Rs Fr
 | 0,i,_=>.inr (i,6)
 | n+1,i,acc=>armsS nk l (fun j=>exprF n j) (fun j a=>armsF n j a) i acc
end
end
section
variable {nk lg:ByteArray→Bool} {l:List Te}
theorem kZ (n i:Nat):exprF nk lg l (n+1) i=exprS nk lg l (n+1) (qL nk lg l n) (exprF nk lg l n) (armsF nk lg l n) i:=by rw[exprF]
theorem zO (n i:Nat):qL nk lg l (n+1) i=qK lg l (qL nk lg l n) (exprF nk lg l n) i:=by rw[qL]
theorem mD (n i:Nat) (acc:Fr):armsF nk lg l (n+1) i acc=armsS nk l (exprF nk lg l n) (armsF nk lg l n) i acc:=by rw[armsF]
theorem qG {α β:Type} {R:Rs α} {f:α→Nat→Rs β} {b:β} {m:Nat} (h:thn R f = .inl (b,m)):∃a j,R = .inl (a,j)∧f a j = .inl (b,m):=by
 unfold thn at h
 cases R with
 | inr e=>cases h
 | inl r=>exact⟨r.1,r.2,rfl,h⟩
theorem jV {i:Nat} (h:(hdE lg l i).any=true):i<l.length:=by
 unfold hdE at h
 split at h
 ·rename_i t ht
  exact(List.getElem?_eq_some_iff.1 ht).1
 ·cases h
theorem qH {i:Nat} {x:ByteArray} (h:key (tks l) i x=true):i<l.length:=by have:=yN h;rw[zD] at this;exact this
theorem zX2 {p:ByteArray→Bool} {i:Nat} {x:ByteArray} (h:nam p (tks l) i=some x):i<l.length:=by have:=zX0 h;rw[zD] at this;exact this
def In {α:Type} (N i:Nat) (R:Rs α):Prop:=match R with
 | .inl (_,j)=>i<j∧j≤N
 | .inr (p,e)=>i≤p∧p≤N∧(e=6∨e=9)
theorem In.down {α:Type} {N i j:Nat} {R:Rs α} (h:In N j R) (hi:i≤j):In N i R:=by
 unfold In at *
 cases R with
 | inl r=>exact⟨by have:=h.1;omega,h.2⟩
 | inr r=>exact⟨by have:=h.1;omega,h.2⟩
theorem In.bnd {α β:Type} {N i:Nat} {R:Rs α} {f:α→Nat→Rs β} (h:In N i R) (hf:∀a j,R = .inl (a,j)→i<j→j≤N→In N j (f a j)):In N i (thn R f):=by
 cases R with
 | inr e=>exact h
 | inl r=>exact(hf r.1 r.2 rfl h.1 h.2).down (Nat.le_of_lt h.1)
def In0 {α:Type} (N i:Nat) (R:Rs α):Prop:=match R with
 | .inl (_,j)=>i≤j∧j≤N
 | .inr (p,e)=>i≤p∧p≤N∧(e=6∨e=9)
theorem In.weak {α:Type} {N i:Nat} {R:Rs α} (h:In N i R):In0 N i R:=by
 unfold In In0 at *
 cases R with
 | inl r=>exact⟨Nat.le_of_lt h.1,h.2⟩
 | inr r=>exact h
theorem In0.down {α:Type} {N i j:Nat} {R:Rs α} (h:In0 N j R) (hi:i≤j):In0 N i R:=by
 unfold In0 at *
 cases R with
 | inl r=>exact⟨by have:=h.1;omega,h.2⟩
 | inr r=>exact⟨by have:=h.1;omega,h.2⟩
theorem In0.strict {α:Type} {N i j:Nat} {R:Rs α} (h:In0 N j R) (hi:i<j):In N i R:=by
 unfold In0 at h;unfold In
 cases R with
 | inl r=>exact⟨by have:=h.1;omega,h.2⟩
 | inr r=>exact⟨by have:=h.1;omega,h.2⟩
theorem In.bnd0 {α β:Type} {N i:Nat} {R:Rs α} {f:α→Nat→Rs β} (h:In N i R) (hf:∀a j,R = .inl (a,j)→i<j→j≤N→In0 N j (f a j)):In N i (thn R f):=by
 cases R with
 | inr e=>exact h
 | inl r=>exact(hf r.1 r.2 rfl h.1 h.2).strict h.1
theorem In0.bnd {α β:Type} {N i:Nat} {R:Rs α} {f:α→Nat→Rs β} (h:In0 N i R) (hf:∀a j,R = .inl (a,j)→i≤j→j≤N→In0 N j (f a j)):In0 N i (thn R f):=by
 cases R with
 | inr e=>exact h
 | inl r=>exact(hf r.1 r.2 rfl h.1 h.2).down h.1
theorem xQ:∀(ks:List ByteArray) (i:Nat),i≤l.length→In0 l.length i (keysL (tks l) i ks)
 | [],i,hi=>⟨Nat.le_refl _,hi⟩
 | k::r,i,hi=>by
  unfold keysL
  split
  ·rename_i hk
   exact(xQ r (i+1) (qH hk)).down (Nat.le_succ i)
  ·exact⟨Nat.le_refl _,hi,.inl rfl⟩
theorem zX3 {k:ByteArray} {r:List ByteArray} {i:Nat} (hi:i≤l.length):In l.length i (keysL (tks l) i (k::r)):=by
 unfold keysL
 split
 ·rename_i hk
  exact(xQ r (i+1) (qH hk)).strict (Nat.lt_succ_self i)
 ·exact⟨Nat.le_refl _,hi,.inl rfl⟩
theorem zPl {α:Type} {N i j:Nat} {a:α} (h:i<j) (hj:j≤N):In (α:=α) N i (.inl (a,j)):=⟨h,hj⟩
theorem kW {α:Type} {N i j:Nat} {a:α} (h:i≤j) (hj:j≤N):In0 (α:=α) N i (.inl (a,j)):=⟨h,hj⟩
theorem qM {α:Type} {R:Rs α} {ks:List ByteArray} {i:Nat} (h:In l.length i R):In l.length i (thenK (tks l) R ks):=
 h.bnd0 fun _ _ _ _ hj=>(xQ ks _ hj).bnd fun _ _ _ _ hm=>kW (Nat.le_refl _) hm
theorem zV {p:ByteArray→Bool} {ks:List ByteArray} {i:Nat} (hi:i≤l.length):In l.length i (nameQ p (tks l) i ks):=by
 unfold nameQ
 split
 ·exact⟨Nat.le_refl _,hi,.inl rfl⟩
 ·rename_i s hs
  exact((xQ ks (i+1) (zX2 hs)).bnd fun _ _ _ _ hm=>kW (Nat.le_refl _) hm).strict (Nat.lt_succ_self i)
theorem jI {i:Nat} (hi:i≤l.length):In l.length i (typL nk lg (tks l) i):=by
 have h1:=zB7 (nk:=nk) (lg:=lg) (tks l) [] i (by rw[zD];exact hi);have h2:=sE (nk:=nk) (lg:=lg) (tks l) i;rw[zD] at h1
 cases h:typL nk lg (tks l) i with
 | inl r=>rw[h] at h1 h2;exact⟨h2,h1.le⟩
 | inr r=>rw[h] at h1 h2;exact⟨h2,h1.le,by rcases h1.bad r.1 r.2 rfl with h | h<;>omega⟩
theorem zH7 {T:Nat→Rs Tr} {s:Nat→Option (Nod×Nat)} (hT:∀j,j≤l.length→In l.length j (T j)) (hs:∀j x d,s j=some (x,d)→j+d≤l.length):∀(n:Nat) (a:Tr) (j:Nat),j≤l.length→In0 l.length j (lop T s n a j)
 | 0,a,j,hj=>⟨Nat.le_refl _,hj,.inl rfl⟩
 | n+1,a,j,hj=>by
  unfold lop
  split
  ·exact⟨Nat.le_refl _,hj⟩
  ·rename_i x d h
   exact(((hT _ (hs j x d h)).weak).bnd fun b m _ _ hm=>zH7 hT hs n _ m hm).down (Nat.le_add_right _ _)
theorem zX4 {T:Nat→Rs Tr} {s:Nat→Option (Nod×Nat)} (hT:∀j,j≤l.length→In l.length j (T j)) (hs:∀j x d,s j=some (x,d)→j+d≤l.length) (n:Nat) {i:Nat} (hi:i≤l.length):In l.length i (lopS T s n i):=
 (hT i hi).bnd0 fun a j _ _ hj=>zH7 hT hs n a j hj
theorem zX5 {j:Nat} {x:Nod} {d:Nat} (h:sApp lg l j=some (x,d)):j+d≤l.length∧x=⟨25,0,nob,nob⟩∧d=0:=by
 unfold sApp at h
 split at h
 ·rename_i hh
  injection h with h;injection h with h1 h2;subst h2;exact⟨Nat.le_of_lt (jV hh),h1.symm,rfl⟩
 ·cases h
theorem zX6 {j:Nat} {x:Nod} {d:Nat} (h:sMul l j=some (x,d)):j+d≤l.length∧x=opN 3∧d=1:=by
 unfold sMul at h
 split at h
 ·rename_i hh
  injection h with h;injection h with h1 h2;subst h2;exact⟨qH hh,h1.symm,rfl⟩
 ·cases h
theorem zX7 {j:Nat} {x:Nod} {d:Nat} (h:sAdd l j=some (x,d)):j+d≤l.length∧(x=opN 1∨x=opN 2)∧d=1:=by
 unfold sAdd at h
 split at h
 ·rename_i hh
  injection h with h;injection h with h1 h2;subst h2;exact⟨qH hh,.inl h1.symm,rfl⟩
 ·split at h
  ·rename_i hh
   injection h with h;injection h with h1 h2;subst h2;exact⟨qH hh,.inr h1.symm,rfl⟩
  ·cases h
theorem zX8 {j:Nat} {x:Nod} {d:Nat} (h:sCmp l j=some (x,d)):j+d≤l.length∧(x=opN 4∨x=opN 5)∧d=1:=by
 unfold sCmp at h
 split at h
 ·rename_i hh
  injection h with h;injection h with h1 h2;subst h2;exact⟨qH hh,.inl h1.symm,rfl⟩
 ·split at h
  ·rename_i hh
   injection h with h;injection h with h1 h2;subst h2;exact⟨qH hh,.inr h1.symm,rfl⟩
  ·cases h
theorem aH {n:Nat} {A:Nat→Rs Tr} (hA:∀j,j≤l.length→In l.length j (A j)) {i:Nat} (hi:i≤l.length):In l.length i (appS lg l n A i):=zX4 hA (fun _ _ _ h=>(zX5 h).1) n hi
theorem aI {n:Nat} {A:Nat→Rs Tr} (hA:∀j,j≤l.length→In l.length j (A j)) {i:Nat} (hi:i≤l.length):In l.length i (mulS lg l n A i):=zX4 (fun _ h=>aH hA h) (fun _ _ _ h=>(zX6 h).1) n hi
theorem tO {n:Nat} {A:Nat→Rs Tr} (hA:∀j,j≤l.length→In l.length j (A j)) {i:Nat} (hi:i≤l.length):In l.length i (addS lg l n A i):=zX4 (fun _ h=>aI hA h) (fun _ _ _ h=>(zX7 h).1) n hi
theorem zB9 {n:Nat} {A:Nat→Rs Tr} (hA:∀j,j≤l.length→In l.length j (A j)) {i:Nat} (hi:i≤l.length):In l.length i (cmpS lg l n A i):=by
 refine(tO hA hi).bnd0 fun a j _ _ hj=>?_
 split
 ·exact kW (Nat.le_refl _) hj
 ·rename_i x d h
  exact(((tO hA (zX8 h).1).weak).bnd fun _ _ _ _ hm=>kW (Nat.le_refl _) hm).down (Nat.le_add_right _ _)
theorem zH8 {A E:Nat→Rs Tr} (hA:∀j,j≤l.length→In l.length j (A j)) (hE:∀j,j≤l.length→In l.length j (E j)) {i:Nat} (hi:i≤l.length):In l.length i (qK lg l A E i):=by
 unfold qK
 cases h:hdE lg l i with
 | no=>exact⟨Nat.le_refl _,hi,.inl rfl⟩
 | num n=>exact zPl (Nat.lt_succ_self i) (jV (lg:=lg) (by rw[h];rfl))
 | var n=>exact zPl (Nat.lt_succ_self i) (jV (lg:=lg) (by rw[h];rfl))
 | boo n=>exact zPl (Nat.lt_succ_self i) (jV (lg:=lg) (by rw[h];rfl))
 | sel k=>
  have hl:i+1≤l.length:=jV (lg:=lg) (by rw[h];rfl);exact(((hA (i+1) hl).bnd0 fun a j _ _ hj=>kW (Nat.le_refl _) hj).down (Nat.le_succ i))
 | opn=>
  have hl:i+1≤l.length:=jV (lg:=lg) (by rw[h];rfl);simp only
  split
  ·rename_i hk
   exact zPl (by omega) (qH hk)
  ·refine((hE (i+1) hl).bnd0 fun a j _ _ hj=>?_).down (Nat.le_succ i)
   split
   ·rename_i hk
    exact(((qM (hE (j+1) (qH hk))).bnd0 fun _ _ _ _ hm=>kW (Nat.le_refl _) hm).weak).down (Nat.le_succ j)
   ·exact(xQ _ j hj).bnd fun _ _ _ _ hm=>kW (Nat.le_refl _) hm
theorem zH9 {E:Nat→Rs Tr} {M:Nat→Fr→Rs Fr} (hE:∀j,j≤l.length→In l.length j (E j)) (hM:∀j a,j≤l.length→In l.length j (M j a)) {i:Nat} (acc:Fr) (hi:i≤l.length):In l.length i (armsS nk l E M i acc):=by
 refine(zV hi).bnd fun c j _ _ hj=>(zV hj).bnd fun x j _ _ hj=>(hE j hj).bnd0 fun b j _ _ hj=>?_
 split
 ·rename_i hk
  exact((hM (j+1) _ (qH hk)).weak).down (Nat.le_succ j)
 ·exact(xQ _ j hj).bnd fun _ _ _ _ hm=>kW (Nat.le_refl _) hm
theorem zHa {n:Nat} {A E:Nat→Rs Tr} {M:Nat→Fr→Rs Fr} (hA:∀j,j≤l.length→In l.length j (A j)) (hE:∀j,j≤l.length→In l.length j (E j)) (hM:∀j a,j≤l.length→In l.length j (M j a)) {i:Nat} (hi:i≤l.length):In l.length i (exprS nk lg l n A E M i):=by
 unfold exprS
 split
 ·rename_i hk
  exact((zX3 (qH hk)).bnd fun _ j _ _ hj=>(zV hj).bnd fun s j _ _ hj=>(qM (jI hj)).bnd fun t j _ _ hj=>(hE j hj).bnd0 fun b j _ _ hj=>kW (Nat.le_refl _) hj).down (Nat.le_succ i)
 ·split
  ·rename_i hk
   exact((zV (qH hk)).bnd fun s j _ _ hj=>(qM (hE j hj)).bnd fun a j _ _ hj=>(qM (hE j hj)).bnd0 fun b j _ _ hj=>kW (Nat.le_refl _) hj).down (Nat.le_succ i)
  ·split
   ·rename_i hk
    exact((qM (hE _ (qH hk))).bnd fun a j _ _ hj=>(qM (hE j hj)).bnd fun b j _ _ hj=>(hE j hj).bnd0 fun c j _ _ hj=>kW (Nat.le_refl _) hj).down (Nat.le_succ i)
   ·split
    ·rename_i hk
     exact((qM (hE _ (qH hk))).bnd fun a j _ _ hj=>(hM j _ hj).bnd0 fun k j _ _ hj=>kW (Nat.le_refl _) hj).down (Nat.le_succ i)
    ·split
     ·rename_i hk
      exact((qM (hE _ (qH hk))).bnd fun a j _ _ hj=>(qM (jI hj)).bnd fun t j _ _ hj=>(hM j _ hj).bnd0 fun k j _ _ hj=>kW (Nat.le_refl _) hj).down (Nat.le_succ i)
     ·exact zB9 hA hi
theorem rU:∀(n:Nat),(∀i,i≤l.length→In l.length i (exprF nk lg l n i))∧(∀i,i≤l.length→In l.length i (qL nk lg l n i))∧(∀i acc,i≤l.length→In l.length i (armsF nk lg l n i acc))
 | 0=>⟨(fun i h=>by rw[exprF];exact⟨Nat.le_refl _,h,.inl rfl⟩),(fun i h=>by rw[qL];exact⟨Nat.le_refl _,h,.inl rfl⟩),(fun i _ h=>by rw[armsF];exact⟨Nat.le_refl _,h,.inl rfl⟩)⟩
 | n+1=>by
  obtain⟨hE,hA,hM⟩:=rU n;refine⟨fun i hi=>?_,fun i hi=>?_,fun i acc hi=>?_⟩
  ·rw[kZ];exact zHa hA hE hM hi
  ·rw[zO];exact zH8 hA hE hi
  ·rw[mD];exact zH9 hE hM acc hi
theorem xR {n i:Nat} (hi:i≤l.length):In l.length i (exprF nk lg l n i):=(rU n).1 i hi
end
end Go.Proofs.YtbpijnalmakfaaaGreatDoor
namespace Go.Proofs.YtbpijnalmakfaaaGreatDoor
section
variable {nk lg:ByteArray→Bool}
def ArmOk (nk lg:ByteArray→Bool) (f:Fr):Prop:=((infF nk lg f).all fun i=>i.is 9)=true
def wN (x:Nod):Nat:=(if x.k=25 then 8 else if x.k=23 then 2 else 24)+x.a.size+x.m.size
def wF:Fr→Nat
 | .nil=>0
 | .cons x k r=>(if x.k<20 then 150*(1+k.sz) else wN x+wF k)+wF r
theorem ty_k {t:Tr} (h:isT nk lg t 1=true):t.1.k<20:=by
 cases vP h with
 | leaf k hk=>show k<20;omega
 | name s hs=>show(4:Int)<20;decide
 | two k hk a b hA hB=>show k<20;omega
 | mu s hs c hc h0=>show(7:Int)<20;decide
theorem vY (x:Nod) (a:Tr):szT (x,fr1 a)=1+szT a:=by unfold szT;simp only[fr1,Fr.sz];omega
theorem qT (x:Nod) (a b:Tr):szT (x,fr2 a b)=1+(szT a+szT b):=by unfold szT;simp only[fr2,fr1,Fr.sz];omega
theorem nE (x:Nod) (a b c:Tr):szT (x,fr3 a b c)=1+(szT a+szT b+szT c):=by unfold szT;simp only[fr3,fr2,fr1,Fr.sz];omega
theorem kB (x:Nod):szT (x,.nil)=1:=rfl
variable {l:List Te}
section
variable (hn:∀s,nk s=true→s.size≤128) (hg:∀s,lg s=true→s.size≤128)
include hg in
end
end
end Go.Proofs.YtbpijnalmakfaaaGreatDoor
namespace Go.Proofs.YtbpijnalmakfaaaGreatDoor
def ke (x:ByteArray):Te:=⟨ky x,0⟩
def ne (s:ByteArray):Te:=⟨nmT s,0⟩
def tyE (ts:List Tk):List Te:=ts.map fun t=>⟨t,0⟩
def lvl (x:Nod):Nat:=if x.k=24∨x.k=29∨x.k=30∨x.k=32∨x.k=33 then 0 else if x.k=25 then 4 else if x.k=31 then (if x.n<3 then 2 else if x.n=3 then 3 else 1) else 5
def low (x:Nod) (r:Nat):Bool:=decide (lvl x<r)
def wie (b:Bool) (ts:List Te):List Te:=if b then ke kOpen::(ts++[ke kShut]) else ts
def barsE:List (List Te)→List Te
 | []=>[]
 | [a]=>a
 | a::b::r=>a++ke kBar::barsE (b::r)
def signB (n:Int):ByteArray:=if n=1 then kPlus else if n=2 then vX else if n=3 then kStar else if n=4 then kEq else kLess
def lft (x:Nod):Nat:=if lvl x=1 then 2 else lvl x
section
variable (nb:Int→ByteArray)
def tkEN (x:Nod) (ks:List (Nod×List Te)):List Te:=
 if x.k=20 then [⟨⟨2,nb x.n⟩,x.n⟩] else if x.k=21 then [if x.n=1 then ke kTrue else ke yH] else if x.k=22 then [ke kOpen,ke kShut] else if x.k=23 then [ne x.a]
 else if x.k=24 then (match ks with
  | [t,b]=>ke kFn::ke kOpen::ne x.a::ke zQ::(t.2++ke kShut::ke kFat::b.2)
  | _=>[])
 else if x.k=25 then (match ks with
  | [a,b]=>wie (low a.1 4) a.2++wie (low b.1 5) b.2
  | _=>[])
 else if x.k=26 then (match ks with
  | [a,b]=>ke kOpen::(a.2++ke qJ::(b.2++[ke kShut]))
  | _=>[])
 else if x.k=27 then (match ks with
  | [a]=>ke kOne::wie (low a.1 5) a.2
  | _=>[])
 else if x.k=28 then (match ks with
  | [a]=>ke kTwo::wie (low a.1 5) a.2
  | _=>[])
 else if x.k=29 then (match ks with
  | [a,b]=>ke kLet::ne x.a::ke kEq::(a.2++ke kIn::(b.2++[ke kEnd]))
  | _=>[])
 else if x.k=30 then (match ks with
  | [a,b,c]=>ke kIf::(a.2++ke kThen::(b.2++ke kElse::c.2))
  | _=>[])
 else if x.k=31 then (match ks with
  | [a,b]=>wie (low a.1 (lft x)) a.2++ke (signB x.n)::wie (low b.1 (lvl x+1)) b.2
  | _=>[])
 else if x.k=32 then (match ks with
  | a::r=>ke kCase::(a.2++ke kOf::(barsE (r.map (·.2))++[ke kEnd]))
  | _=>[])
 else if x.k=33 then (match ks with
  | a::t::r=>ke kFold::(a.2++ke kTo::(t.2++ke kOf::(barsE (r.map (·.2))++[ke kEnd])))
  | _=>[])
 else if x.k=34 then (match ks with
  | [b]=>ne x.a::ne x.m::ke kFat::b.2
  | _=>[])
 else []
def tkEF:Fr→List (Nod×List Te)
 | .nil=>[]
 | .cons x k r=>(x,if x.k<20 then tyE (tkT (x,k)) else tkEN nb x (tkEF k))::tkEF r
def tkE (t:Tr):List Te:=if t.1.k<20 then tyE (tkT t) else tkEN nb t.1 (tkEF nb t.2)
end
theorem tP (ts:List Tk):tks (tyE ts)=ts:=by
 unfold tks tyE;rw[List.map_map];exact List.map_id ts
section
variable {nk lg:ByteArray→Bool} {l:List Te}
theorem rV {b:Bool} {ts:List Te} (h:ts≠[]):wie b ts≠[]:=by
 cases b with
 | false=>exact h
 | true=>intro e;cases e
end
section
variable {nk lg:ByteArray→Bool}
inductive xS (nk lg:ByteArray→Bool):Tr→Prop
 | num (n:Int) (h1 : -1073741824≤n) (h2:n≤1073741824):xS nk lg (⟨20,n,nob,nob⟩,.nil)
 | boo (n:Int) (h:n=0∨n=1):xS nk lg (⟨21,n,nob,nob⟩,.nil)
 | unit:xS nk lg (nd 22 nob .nil)
 | var (s:ByteArray) (h:lg s=true):xS nk lg (nd 23 s .nil)
 | lam (s:ByteArray) (h:nk s=true) (a b:Tr) (ha:isT nk lg a 1=true) (hb:isT nk lg b 2=true):xS nk lg (nd 24 s (fr2 a b))
 | app (a b:Tr) (ha:isT nk lg a 2=true) (hb:isT nk lg b 2=true):xS nk lg (nd 25 nob (fr2 a b))
 | pair (a b:Tr) (ha:isT nk lg a 2=true) (hb:isT nk lg b 2=true):xS nk lg (nd 26 nob (fr2 a b))
 | sel (k:Int) (hk:k=27∨k=28) (a:Tr) (ha:isT nk lg a 2=true):xS nk lg (nd k nob (fr1 a))
 | letE (s:ByteArray) (h:nk s=true) (a b:Tr) (ha:isT nk lg a 2=true) (hb:isT nk lg b 2=true):xS nk lg (nd 29 s (fr2 a b))
 | ifE (a b c:Tr) (ha:isT nk lg a 2=true) (hb:isT nk lg b 2=true) (hc:isT nk lg c 2=true):xS nk lg (nd 30 nob (fr3 a b c))
 | op (k:Int) (h1:1≤k) (h2:k≤5) (a b:Tr) (ha:isT nk lg a 2=true) (hb:isT nk lg b 2=true):xS nk lg (opN k,fr2 a b)
 | caseE (a:Tr) (ha:isT nk lg a 2=true) (k:Fr) (hk:ArmOk nk lg k) (h0:0<k.len):xS nk lg (nd 32 nob (.cons a.1 a.2 k))
 | foldE (a t:Tr) (ha:isT nk lg a 2=true) (ht:isT nk lg t 1=true) (k:Fr) (hk:ArmOk nk lg k) (h0:0<k.len):xS nk lg (nd 33 nob (.cons a.1 a.2 (.cons t.1 t.2 k)))
theorem gE {c:UInt8} {r:List UInt8} {f:Fr} (h1:¬c=42) (h2:¬c=67) (h3:¬c=65) (h:seqOk (infF nk lg f) (c::r)=true):∃a q,f = .cons a.1 a.2 q∧isT nk lg a (catOf c)=true∧seqOk (infF nk lg q) r=true:=by
 cases f with
 | nil=>
  unfold seqOk at h;rw[if_neg h1,if_neg h2,if_neg h3] at h
  cases h
 | cons x k q=>
  unfold seqOk at h;rw[if_neg h1,if_neg h2,if_neg h3] at h;have h:(isT nk lg (x,k) (catOf c)&&seqOk (infF nk lg q) r)=true:=h;rw[Bool.and_eq_true] at h;exact⟨(x,k),q,rfl,h.1,h.2⟩
theorem zPm {f:Fr} (h:seqOk (infF nk lg f) [101]=true):∃a,f=fr1 a∧isT nk lg a 2=true:=by
 obtain⟨a,q,rfl,h1,h2⟩:=gE (by decide) (by decide) (by decide) h;exact⟨a,by rw[wG h2];rfl,h1⟩
theorem rW {c:UInt8} (hc:c=116∨c=101) {f:Fr} (h:seqOk (infF nk lg f) [c,101]=true):∃a b,f=fr2 a b∧isT nk lg a (catOf c)=true∧isT nk lg b 2=true:=by
 obtain⟨a,q,rfl,h1,h2⟩:=gE (by rcases hc with rfl | rfl<;>decide) (by rcases hc with rfl | rfl<;>decide) (by rcases hc with rfl | rfl<;>decide) h
 obtain⟨b,rfl,h3⟩:=zPm h2;exact⟨a,b,rfl,h1,h3⟩
theorem zBa {f:Fr} (h:seqOk (infF nk lg f) [101,101,101]=true):∃a b c,f=fr3 a b c∧isT nk lg a 2=true∧isT nk lg b 2=true∧isT nk lg c 2=true:=by
 obtain⟨a,q,rfl,h1,h2⟩:=gE (by decide) (by decide) (by decide) h;obtain⟨b,c,rfl,h3,h4⟩:=rW (.inr rfl) h2;exact⟨a,b,c,rfl,h1,h3,h4⟩
theorem yYg {f:Fr} (h:seqOk (infF nk lg f) [65]=true):ArmOk nk lg f∧0<f.len:=by
 have e:seqOk (infF nk lg f) [65]=(!(infF nk lg f).isEmpty&&(infF nk lg f).all fun i=>i.is 9):=by cases infF nk lg f<;>rfl
 rw[e,Bool.and_eq_true] at h;refine⟨h.2,?_⟩
 cases f with
 | nil=>cases h.1
 | cons _ _ _=>exact Nat.succ_pos _
theorem zX9 {x:Nod} {k n:Int} {a m:ByteArray} (hk:k=x.k) (hn:x.n=n) (ha:x.a=a) (hm:x.m=m):x=⟨k,n,a,m⟩:=by
 obtain⟨k',n',a',m'⟩:=x;simp only at hk hn ha hm;subst hk;subst hn;subst ha;subst hm
 rfl
theorem vQ {t:Tr} (h:isT nk lg t 2=true):xS nk lg t:=by
 obtain⟨x,f⟩:=t;obtain⟨r,hr,hf⟩:=zC.1 h;obtain⟨hc,hk,ha,hm,h1,h2,hs⟩:=zJ.1 hf;simp only[RWS,List.mem_cons,List.not_mem_nil,or_false] at hr
 rcases hr with rfl | rfl | rfl | rfl | rfl | rfl | rfl | rfl | rfl | rfl | rfl | rfl | rfl | rfl | rfl | rfl | rfl | rfl | rfl | rfl | rfl | rfl | rfl | rfl | rfl | rfl | rfl | rfl | rfl | rfl | rfl | rfl | rfl | rfl | rfl | rfl | rfl | rfl | rfl | rfl | rfl | rfl | rfl | rfl | rfl | rfl | rfl
 all_goals try (exact absurd hc (by decide))
 ·have e:x=⟨20,x.n,nob,nob⟩:=zX9 hk rfl (kH ha) (kH hm)
  have ef:f = .nil:=wG hs;rw[e,ef];exact .num x.n h1 h2
 ·have e:x=⟨21,x.n,nob,nob⟩:=zX9 hk rfl (kH ha) (kH hm)
  have ef:f = .nil:=wG hs;have h1:0≤x.n:=h1;have h2:x.n≤1:=h2;rw[e,ef];exact .boo x.n (by omega)
 ·have e:x=⟨22,0,nob,nob⟩:=kL hk h1 h2 (kH ha) hm
  have ef:f = .nil:=wG hs;rw[e,ef];exact .unit
 ·have e:x=⟨23,0,x.a,nob⟩:=kL hk h1 h2 rfl hm
  have ha:lg x.a=true:=ha;have ef:f = .nil:=wG hs;rw[e,ef];exact .var x.a ha
 ·have e:x=⟨24,0,x.a,nob⟩:=kL hk h1 h2 rfl hm
  have ha:nk x.a=true:=ha;obtain⟨a,b,rfl,hA,hB⟩:=rW (.inl rfl) hs;rw[e];exact .lam x.a ha a b hA hB
 ·obtain⟨a,b,rfl,hA,hB⟩:=rW (.inr rfl) hs
  have e:x=⟨25,0,nob,nob⟩:=kL hk h1 h2 (kH ha) hm;rw[e];exact .app a b hA hB
 ·obtain⟨a,b,rfl,hA,hB⟩:=rW (.inr rfl) hs
  have e:x=⟨26,0,nob,nob⟩:=kL hk h1 h2 (kH ha) hm;rw[e];exact .pair a b hA hB
 ·obtain⟨a,rfl,hA⟩:=zPm hs
  have e:x=⟨27,0,nob,nob⟩:=kL hk h1 h2 (kH ha) hm;rw[e];exact .sel 27 (.inl rfl) a hA
 ·obtain⟨a,rfl,hA⟩:=zPm hs
  have e:x=⟨28,0,nob,nob⟩:=kL hk h1 h2 (kH ha) hm;rw[e];exact .sel 28 (.inr rfl) a hA
 ·obtain⟨a,b,rfl,hA,hB⟩:=rW (.inr rfl) hs
  have e:x=⟨29,0,x.a,nob⟩:=kL hk h1 h2 rfl hm;have ha:nk x.a=true:=ha;rw[e];exact .letE x.a ha a b hA hB
 ·obtain⟨a,b,c,rfl,hA,hB,hC⟩:=zBa hs
  have e:x=⟨30,0,nob,nob⟩:=kL hk h1 h2 (kH ha) hm;rw[e];exact .ifE a b c hA hB hC
 ·obtain⟨a,b,rfl,hA,hB⟩:=rW (.inr rfl) hs
  have e:x=⟨31,x.n,nob,nob⟩:=zX9 hk rfl (kH ha) (kH hm);rw[e];exact .op x.n h1 h2 a b hA hB
 ·obtain⟨a,q,rfl,hA,hq⟩:=gE (by decide) (by decide) (by decide) hs
  obtain⟨h3,h4⟩:=yYg hq;have e:x=⟨32,0,nob,nob⟩:=kL hk h1 h2 (kH ha) hm;rw[e];exact .caseE a hA q h3 h4
 ·obtain⟨a,q,rfl,hA,hq⟩:=gE (by decide) (by decide) (by decide) hs
  obtain⟨t,p,rfl,hT,hp⟩:=gE (by decide) (by decide) (by decide) hq;obtain⟨h3,h4⟩:=yYg hp;have e:x=⟨33,0,nob,nob⟩:=kL hk h1 h2 (kH ha) hm;rw[e];exact .foldE a t hA hT p h3 h4
theorem jW {t:Tr} (h:isT nk lg t 9=true):∃c x b,t=(⟨34,0,c,x⟩,fr1 b)∧nk c=true∧nk x=true∧isT nk lg b 2=true:=by
 obtain⟨x,f⟩:=t;obtain⟨r,hr,hf⟩:=zC.1 h;obtain⟨hc,hk,ha,hm,h1,h2,hs⟩:=zJ.1 hf;simp only[RWS,List.mem_cons,List.not_mem_nil,or_false] at hr
 rcases hr with rfl | rfl | rfl | rfl | rfl | rfl | rfl | rfl | rfl | rfl | rfl | rfl | rfl | rfl | rfl | rfl | rfl | rfl | rfl | rfl | rfl | rfl | rfl | rfl | rfl | rfl | rfl | rfl | rfl | rfl | rfl | rfl | rfl | rfl | rfl | rfl | rfl | rfl | rfl | rfl | rfl | rfl | rfl | rfl | rfl | rfl | rfl
 all_goals try (exact absurd hc (by decide))
 obtain⟨u,rfl,hu⟩:=zPm hs;have h1:0≤x.n:=h1;have h2:x.n≤0:=h2;have e:x=⟨34,0,x.a,x.m⟩:=zX9 hk (by omega) rfl rfl;exact⟨x.a,x.m,u,by rw[e],ha,hm,hu⟩
theorem ex_k {t:Tr} (h:isT nk lg t 2=true):¬t.1.k<20:=by
 cases vQ h with
 | num n h1 h2=>show ¬((20:Int)<20);decide
 | boo n h=>show ¬((21:Int)<20);decide
 | unit=>show ¬((22:Int)<20);decide
 | var s h=>show ¬((23:Int)<20);decide
 | lam s h a b ha hb=>show ¬((24:Int)<20);decide
 | app a b ha hb=>show ¬((25:Int)<20);decide
 | pair a b ha hb=>show ¬((26:Int)<20);decide
 | sel k hk a ha=>show ¬(k<20);omega
 | letE s h a b ha hb=>show ¬((29:Int)<20);decide
 | ifE a b c ha hb hc=>show ¬((30:Int)<20);decide
 | op k h1 h2 a b ha hb=>show ¬((31:Int)<20);decide
 | caseE a ha k hk h0=>show ¬((32:Int)<20);decide
 | foldE a t ha ht k hk h0=>show ¬((33:Int)<20);decide
variable {nb:Int→ByteArray}
theorem rX {x:Nod} {k r:Fr} (h:isT nk lg (x,k) 2=true):tkEF nb (.cons x k r)=(x,tkE nb (x,k))::tkEF nb r:=by
 have h1:=ex_k h;have h1:¬x.k<20:=h1;unfold tkE;rw[if_neg (show ¬(x,k).1.k<20 from h1)]
 conv=>lhs;unfold tkEF
 rw[if_neg h1]
theorem zHb {x:Nod} {k r:Fr} (h:isT nk lg (x,k) 1=true):tkEF nb (.cons x k r)=(x,tyE (tkT (x,k)))::tkEF nb r:=by
 have h1:x.k<20:=ty_k h
 conv=>lhs;unfold tkEF
 rw[if_pos h1]
theorem sG {c x:ByteArray} {b:Tr} {r:Fr} (h:isT nk lg b 2=true):tkEF nb (.cons ⟨34,0,c,x⟩ (fr1 b) r)=(⟨34,0,c,x⟩,ne c::ne x::ke kFat::tkE nb b)::tkEF nb r:=by
 conv=>lhs;unfold tkEF
 have e:tkEF nb (fr1 b)=[(b.1,tkE nb b)]:=rX (r:=.nil) h;rw[e]
 rfl
theorem fQ {x:Nod} {f:Fr} (h:¬x.k<20):tkE nb (x,f)=tkEN nb x (tkEF nb f):=by unfold tkE;rw[if_neg (show ¬(x,f).1.k<20 from h)]
theorem ef1 {a:Tr} (ha:isT nk lg a 2=true):tkEF nb (fr1 a)=[(a.1,tkE nb a)]:=rX (r:=.nil) ha
theorem ef2 {a b:Tr} (ha:isT nk lg a 2=true) (hb:isT nk lg b 2=true):tkEF nb (fr2 a b)=[(a.1,tkE nb a),(b.1,tkE nb b)]:=by
 have e:tkEF nb (fr2 a b)=(a.1,tkE nb a)::tkEF nb (fr1 b):=rX ha;rw[e,ef1 hb]
theorem ef2t {a b:Tr} (ha:isT nk lg a 1=true) (hb:isT nk lg b 2=true):tkEF nb (fr2 a b)=[(a.1,tyE (tkT a)),(b.1,tkE nb b)]:=by
 have e:tkEF nb (fr2 a b)=(a.1,tyE (tkT a))::tkEF nb (fr1 b):=zHb ha;rw[e,ef1 hb]
theorem ef3 {a b c:Tr} (ha:isT nk lg a 2=true) (hb:isT nk lg b 2=true) (hc:isT nk lg c 2=true):tkEF nb (fr3 a b c)=[(a.1,tkE nb a),(b.1,tkE nb b),(c.1,tkE nb c)]:=by
 have e:tkEF nb (fr3 a b c)=(a.1,tkE nb a)::tkEF nb (fr2 b c):=rX ha;rw[e,ef2 hb hc]
def yQ (nb:Int→ByteArray) (f:Fr):List (List Te):=(tkEF nb f).map (·.2)
theorem iF (n:Int):tkE nb (⟨20,n,nob,nob⟩,.nil)=[⟨⟨2,nb n⟩,n⟩]:=rfl
theorem rZ (n:Int):tkE nb (⟨21,n,nob,nob⟩,.nil)=[if n=1 then ke kTrue else ke yH]:=rfl
theorem tQ:tkE nb (nd 22 nob .nil)=[ke kOpen,ke kShut]:=rfl
theorem iG (s:ByteArray):tkE nb (nd 23 s .nil)=[ne s]:=rfl
theorem dA {s:ByteArray} {a b:Tr} (ha:isT nk lg a 1=true) (hb:isT nk lg b 2=true):tkE nb (nd 24 s (fr2 a b))=ke kFn::ke kOpen::ne s::ke zQ::(tyE (tkT a)++ke kShut::ke kFat::tkE nb b):=by
 unfold nd;rw[fQ (show ¬((24:Int)<20) by decide),ef2t ha hb];rfl
theorem dB {a b:Tr} (ha:isT nk lg a 2=true) (hb:isT nk lg b 2=true):tkE nb (nd 25 nob (fr2 a b))=wie (low a.1 4) (tkE nb a)++wie (low b.1 5) (tkE nb b):=by
 unfold nd;rw[fQ (show ¬((25:Int)<20) by decide),ef2 ha hb];rfl
theorem nX {a b:Tr} (ha:isT nk lg a 2=true) (hb:isT nk lg b 2=true):tkE nb (nd 26 nob (fr2 a b))=ke kOpen::(tkE nb a++ke qJ::(tkE nb b++[ke kShut])):=by
 unfold nd;rw[fQ (show ¬((26:Int)<20) by decide),ef2 ha hb];rfl
def kSel (k:Int):ByteArray:=if k=27 then kOne else kTwo
theorem dC {k:Int} (hk:k=27∨k=28) {a:Tr} (ha:isT nk lg a 2=true):tkE nb (nd k nob (fr1 a))=ke (kSel k)::wie (low a.1 5) (tkE nb a):=by
 unfold nd
 rcases hk with rfl | rfl
 ·rw[fQ (show ¬((27:Int)<20) by decide),ef1 ha];rfl
 ·rw[fQ (show ¬((28:Int)<20) by decide),ef1 ha];rfl
theorem dD {s:ByteArray} {a b:Tr} (ha:isT nk lg a 2=true) (hb:isT nk lg b 2=true):tkE nb (nd 29 s (fr2 a b))=ke kLet::ne s::ke kEq::(tkE nb a++ke kIn::(tkE nb b++[ke kEnd])):=by
 unfold nd;rw[fQ (show ¬((29:Int)<20) by decide),ef2 ha hb];rfl
theorem zZ8 {a b c:Tr} (ha:isT nk lg a 2=true) (hb:isT nk lg b 2=true) (hc:isT nk lg c 2=true):tkE nb (nd 30 nob (fr3 a b c))=ke kIf::(tkE nb a++ke kThen::(tkE nb b++ke kElse::tkE nb c)):=by
 unfold nd;rw[fQ (show ¬((30:Int)<20) by decide),ef3 ha hb hc];rfl
theorem zZ9 {k:Int} {a b:Tr} (ha:isT nk lg a 2=true) (hb:isT nk lg b 2=true):tkE nb (opN k,fr2 a b)=wie (low a.1 (lft (opN k))) (tkE nb a)++ke (signB k)::wie (low b.1 (lvl (opN k)+1)) (tkE nb b):=by
 rw[fQ (show ¬((31:Int)<20) by decide),ef2 ha hb];rfl
theorem nY {a:Tr} (ha:isT nk lg a 2=true) {k:Fr}:tkE nb (nd 32 nob (.cons a.1 a.2 k))=ke kCase::(tkE nb a++ke kOf::(barsE (yQ nb k)++[ke kEnd])):=by
 unfold nd;rw[fQ (show ¬((32:Int)<20) by decide),rX ha];rfl
theorem nZ {a t:Tr} (ha:isT nk lg a 2=true) (ht:isT nk lg t 1=true) {k:Fr}:tkE nb (nd 33 nob (.cons a.1 a.2 (.cons t.1 t.2 k)))=ke kFold::(tkE nb a++ke kTo::(tyE (tkT t)++ke kOf::(barsE (yQ nb k)++[ke kEnd]))):=by
 unfold nd;rw[fQ (show ¬((33:Int)<20) by decide),rX ha,zHb ht];rfl
theorem iH:∀(n:Nat) (t:Tr),szT t≤n→isT nk lg t 2=true→tkE nb t≠[]
 | 0,t,h,_=>absurd h (by unfold szT;omega)
 | n+1,t,hn,h=>by
  cases vQ h with
  | num n h1 h2=>rw[iF];simp
  | boo n h=>rw[rZ];simp
  | unit=>rw[tQ];simp
  | var s h=>rw[iG];simp
  | lam s h a b ha hb=>rw[dA ha hb];simp
  | app a b ha hb=>
   rw[dB ha hb];have hz:szT (nd 25 nob (fr2 a b))=1+(szT a+szT b):=qT _ a b;have:wie (low a.1 4) (tkE nb a)≠[]:=rV (iH n a (by omega) ha)
   simp[this]
  | pair a b ha hb=>rw[nX ha hb];simp
  | sel k hk a ha=>rw[dC hk ha];simp
  | letE s h a b ha hb=>rw[dD ha hb];simp
  | ifE a b c ha hb hc=>rw[zZ8 ha hb hc];simp
  | op k h1 h2 a b ha hb=>rw[zZ9 ha hb];simp
  | caseE a ha k hk h0=>rw[nY ha];simp
  | foldE a t ha ht k hk h0=>rw[nZ ha ht];simp
theorem yR {t:Tr} (h:isT nk lg t 2=true):tkE nb t≠[]:=iH _ t (Nat.le_refl _) h
end
section
variable {nk lg:ByteArray→Bool} {nb:Int→ByteArray}
theorem zVp {x:Nod} {k r:Fr} (h:ArmOk nk lg (.cons x k r)):isT nk lg (x,k) 9=true∧ArmOk nk lg r:=by
 have h:(isT nk lg (x,k) 9&&(infF nk lg r).all fun i=>i.is 9)=true:=h;rw[Bool.and_eq_true] at h;exact h
end
def jT:List Tk→List UInt8
 | []=>[]
 | [a]=>a.s.data.toList
 | a::b::r=>a.s.data.toList++32::jT (b::r)
def tB (ts:List Tk):ByteArray:=⟨(jT ts).toArray⟩
theorem kX:∀(x y:List Tk),x≠[]→y≠[]→jT (x++y)=jT x++32::jT y
 | [],_,h,_=>absurd rfl h
 | [a],y,_,hy=>by
  cases y with
  | nil=>exact absurd rfl hy
  | cons b r=>rfl
 | a::b::r,y,_,hy=>by
  show a.s.data.toList++32::jT ((b::r)++y)=(a.s.data.toList++32::jT (b::r))++32::jT y
  rw[kX (b::r) y (by simp) hy,List.append_assoc]
  rfl
theorem zR (a b:ByteArray) (h:a.data.toList=b.data.toList):a=b:=by
 obtain⟨⟨x⟩⟩:=a;obtain⟨⟨y⟩⟩:=b;have:x=y:=h;rw[this]
theorem qN (a b:ByteArray):(a++b).data.toList=a.data.toList++b.data.toList:=by
 rw[ByteArray.data_append,Array.toList_append]
theorem jJ (ts:List Tk):(tB ts).data.toList=jT ts:=rfl
theorem xT {x y:List Tk} (hx:x≠[]) (hy:y≠[]):tB (x++y)=tB x++⟨#[32]⟩++tB y:=by
 refine zR _ _ ?_;rw[qN,qN,jJ,jJ,jJ,kX x y hx hy,List.append_assoc]
 rfl
theorem vF (a:Tk):tB [a]=a.s:=zR _ _ rfl
theorem zPn {ts:List Tk} (h:ts≠[]):tB (wi true ts)=⟨#[40,32]⟩++tB ts++⟨#[32,41]⟩:=by
 have e:wi true ts=[ky kOpen]++(ts++[ky kShut]):=rfl;rw[e,xT (by simp) (by simp[h]),xT h (by simp),vF,vF];refine zR _ _ ?_;simp only[qN,List.append_assoc]
 rfl
section
variable {nk lg:ByteArray→Bool}
theorem zPo {b:Bool} {ts:List Tk} (h:ts≠[]):wi b ts≠[]:=by
 cases b with
 | false=>exact h
 | true=>intro e;cases e
theorem bC {t:Tr} (h:isT nk lg t 1=true):tkT t≠[]:=by
 cases vP h with
 | leaf k hk=>rcases hk with rfl | rfl | rfl<;>(intro e;cases e)
 | name s hs=>intro e;cases e
 | two k hk a b hA hB=>
  rcases hk with rfl | rfl
  ·rw[fJ];simp
  ·rw[fK];simp
 | mu s hs c hc h0=>rw[tN];simp
theorem zPp {m:Nat}:∀(ts:List Tk),(∀t∈ts,t.s.size≤m)→(jT ts).length≤(m+1)*ts.length
 | [],_=>Nat.le_refl _
 | [a],h=>by
  have h1:=h a (by simp);have e:a.s.data.toList.length=a.s.size:=Array.length_toList
  show a.s.data.toList.length≤(m+1)*1
  omega
 | a::b::r,h=>by
  have h1:=h a (by simp);have ih:=zPp (b::r) fun t ht=>h t (List.mem_cons_of_mem _ ht)
  have e:a.s.data.toList.length=a.s.size:=Array.length_toList
  show(a.s.data.toList++32::jT (b::r)).length≤(m+1)*((b::r).length+1)
  rw[List.length_append,List.length_cons,Nat.mul_succ];omega
end
section
variable {nk lg:ByteArray→Bool}
def Few (ts:List Tk) (n:Nat):Prop:=ts.length≤n∧∀x∈ts,x.s.size≤128
theorem Few.more {ts:List Tk} {n m:Nat} (h:Few ts n) (hm:n≤m):Few ts m:=⟨Nat.le_trans h.1 hm,h.2⟩
theorem Few.one {x:Tk} (h:x.s.size≤128):Few [x] 1:=⟨Nat.le_refl _,fun y hy=>by rw[List.mem_singleton.1 hy];exact h⟩
theorem Few.app {a b:List Tk} {n m:Nat} (ha:Few a n) (hb:Few b m):Few (a++b) (n+m):=⟨by rw[List.length_append];have:=ha.1;have:=hb.1;omega,fun x hx=>by
 rcases List.mem_append.1 hx with h | h
 ·exact ha.2 x h
 ·exact hb.2 x h⟩
theorem Few.cons {x:Tk} {b:List Tk} {m:Nat} (h:x.s.size≤128) (hb:Few b m):Few (x::b) (m+1):=⟨by rw[List.length_cons];have:=hb.1;omega,fun y hy=>by
 rcases List.mem_cons.1 hy with rfl | hy
 ·exact h
 ·exact hb.2 y hy⟩
theorem Few.wi {b:Bool} {ts:List Tk} {n:Nat} (h:Few ts n):Few (wi b ts) (n+2):=by
 cases b with
 | false=>exact h.more (by omega)
 | true=>exact((Few.app h (Few.one (by decide:(ky kShut).s.size≤128))).cons (by decide:(ky kOpen).s.size≤128)).more (by omega)
theorem zVq:∀(f:Fr),ConOk nk lg f→(∀s,nk s=true→s.size≤128)→(∀t,szT t<f.sz→isT nk lg t 1=true→Few (tkT t) (5*szT t))→Few (bars ((tkF f).map (·.2))) (5*f.sz)
 | .nil,_,_,_=>⟨Nat.le_refl _,fun _ h=>by cases h⟩
 | .cons x k r,hok,hn,ih=>by
  have h8:isT nk lg (x,k) 8=true:=by
   have h:(isT nk lg (x,k) 8&&(infF nk lg r).all fun i=>i.is 8)=true:=hok.1;rw[Bool.and_eq_true] at h;exact h.1
  have hr:ConOk nk lg r:=by
   have h:(isT nk lg (x,k) 8&&(infF nk lg r).all fun i=>i.is 8)=true:=hok.1;have h':(((infF nk lg r).all fun j=>decide (x.a≠j.a))&&kC (infF nk lg r))=true:=hok.2;rw[Bool.and_eq_true] at h h';exact⟨h.2,h'.2⟩
  obtain⟨s,u,hxu,hs,hu⟩:=vS h8;injection hxu with h1 h2;subst h1;subst h2;have hz:(Fr.cons ⟨8,0,s,nob⟩ (fr1 u) r).sz=1+szT u+r.sz:=by unfold szT;simp only[fr1,Fr.sz];omega
  have fu:=ih u (by omega) hu;have f1:Few (nmT s::ky kOf::tkT u) (5*szT u+2):=((fu.cons (by decide:(ky kOf).s.size≤128)).cons (hn s hs:(nmT s).s.size≤128)).more (by omega)
  cases r with
  | nil=>exact f1.more (by rw[hz];omega)
  | cons y m q=>
   have f2:=zVq (.cons y m q) hr hn (fun t ht=>ih t (by omega));exact(f1.app (f2.cons (by decide:(ky kBar).s.size≤128))).more (by rw[hz];omega)
theorem tR (hn:∀s,nk s=true→s.size≤128) (hg:∀s,lg s=true→s.size≤128):∀(n:Nat) (t:Tr),szT t≤n→isT nk lg t 1=true→Few (tkT t) (5*szT t)
 | 0,t,h,_=>absurd h (by unfold szT;omega)
 | n+1,t,h,ht=>by
  have ih:=tR hn hg n
  cases vP ht with
  | leaf k hk=>
   have e:szT (nd k nob .nil)=1:=rfl;rw[e]
   rcases hk with rfl | rfl | rfl
   ·exact(Few.one (by decide:(ky kInt).s.size≤128)).more (by omega)
   ·exact(Few.one (by decide:(ky kBool).s.size≤128)).more (by omega)
   ·exact(Few.one (by decide:(ky kUnit).s.size≤128)).more (by omega)
  | name s hs=>exact(Few.one (hg s hs:(nmT s).s.size≤128)).more (by show 1≤5*1;omega)
  | two k hk a b hA hB=>
   have hz:szT (nd k nob (fr2 a b))=1+(szT a+szT b):=by unfold szT;simp only[nd,fr2,fr1,Fr.sz];omega
   have fA:=ih a (by omega) hA;have fB:=ih b (by omega) hB
   rcases hk with rfl | rfl
   ·rw[fJ]
    exact(fA.wi.app (fB.cons (by decide:(ky zM).s.size≤128))).more (by omega)
   ·rw[fK]
    exact(fA.wi.app (fB.wi.cons (by decide:(ky kStar).s.size≤128))).more (by omega)
  | mu s hs c hc h0=>
   rw[tN];have hz:szT (nd 7 s c)=1+c.sz:=rfl;have fc:=zVq c hc hn (fun t ht h1=>ih t (by omega) h1);exact((((fc.app (Few.one (by decide:(ky zY).s.size≤128))).cons (by decide:(ky kLeft).s.size≤128)).cons (hn s hs:(nmT s).s.size≤128)).cons (by decide:(ky kMu).s.size≤128)).more (by omega)
theorem tS (hn:∀s,nk s=true→s.size≤128) (hg:∀s,lg s=true→s.size≤128) {t:Tr} (h:isT nk lg t 1=true):(tB (tkT t)).size≤645*szT t:=by
 have f:=tR hn hg _ t (Nat.le_refl _) h;have h1:=zPp (m:=128) (tkT t) f.2;have e:(tB (tkT t)).size=(jT (tkT t)).length:=by show(jT (tkT t)).toArray.size=_;simp
 have h2:=f.1;rw[e];omega
end
end Go.Proofs.YtbpijnalmakfaaaGreatDoor
