/-
  Plain definitions, without the program: tokens as expressions, by the grammar of the chapter; each rule a function, with as much fuel as any list wants.
-/
import Derived.Test.YtbpijnalmakfaaaGreatDoorGw05
import Derived.Test.YtbpijnalmakfaaaGreatDoorGw15
set_option maxHeartbeats 40000000
set_option maxRecDepth 100000
namespace Go.Proofs.YtbpijnalmakfaaaGreatDoor
structure Te where
 t:Tk
 n:Int
def tks (l:List Te):List Tk:=l.map (·.t)
theorem yV (l:List Te):(tks l).length=l.length:=List.length_map ..
theorem yW (a b:List Te):tks (a++b)=tks a++tks b:=List.map_append ..
theorem fL (l:List Te) (i:Nat):(tks l)[i]? = (l[i]?).map (·.t):=List.getElem?_map ..
def kFn:ByteArray:=⟨#[102,110]⟩
def zW:ByteArray:=⟨#[58]⟩
def kFat:ByteArray:=⟨#[61,62]⟩
def kLet:ByteArray:=⟨#[108,101,116]⟩
def kEq:ByteArray:=⟨#[61]⟩
def kIn:ByteArray:=⟨#[105,110]⟩
def kEnd:ByteArray:=⟨#[101,110,100]⟩
def kIf:ByteArray:=⟨#[105,102]⟩
def kThen:ByteArray:=⟨#[116,104,101,110]⟩
def kElse:ByteArray:=⟨#[101,108,115,101]⟩
def kCase:ByteArray:=⟨#[99,97,115,101]⟩
def kFold:ByteArray:=⟨#[102,111,108,100]⟩
def kTo:ByteArray:=⟨#[116,111]⟩
def kLess:ByteArray:=⟨#[60]⟩
def kPlus:ByteArray:=⟨#[43]⟩
def vU:ByteArray:=⟨#[45]⟩
def kTrue:ByteArray:=⟨#[116,114,117,101]⟩
def yH:ByteArray:=⟨#[102,97,108,115,101]⟩
def zN:ByteArray:=⟨#[44]⟩
def kOne:ByteArray:=⟨#[35,49]⟩
def kTwo:ByteArray:=⟨#[35,50]⟩
def fr3 (a b c:Tr):Fr:=.cons a.1 a.2 (fr2 b c)
inductive Hd where
 | no
 | num (n:Int)
 | var (s:ByteArray)
 | boo (n:Int)
 | sel (k:Int)
 | opn
def hdT (lg:ByteArray→Bool) (t:Te):Hd:=
 if t.t.k=3 then (if t.t.s=kTrue then .boo 1 else if t.t.s=yH then .boo 0 else if t.t.s=kOpen then .opn else if t.t.s=kOne then .sel 27 else if t.t.s=kTwo then .sel 28 else .no)
 else if t.t.k=2 then (if -1073741824≤t.n∧t.n≤1073741824 then .num t.n else .no)
 else if t.t.k=1 then (if lg t.t.s then .var t.t.s else .no)
 else .no
def hdE (lg:ByteArray→Bool) (l:List Te) (i:Nat):Hd:=match l[i]? with
 | some t=>hdT lg t
 | none=>.no
def Hd.any:Hd→Bool
 | .no=>false
 | _=>true
def thn {α β:Type} (R:Rs α) (f:α→Nat→Rs β):Rs β:=match R with
 | .inr e=>.inr e
 | .inl (a,j)=>f a j
def keysL (l:List Tk):Nat→List ByteArray→Rs Unit
 | i,[]=>.inl ((),i)
 | i,k::r=>if key l i k then keysL l (i+1) r else .inr (i,6)
def thenK {α:Type} (l:List Tk) (R:Rs α) (ks:List ByteArray):Rs α:=thn R fun a j=>thn (keysL l j ks) fun _ m=>.inl (a,m)
def nameQ (nk:ByteArray→Bool) (l:List Tk) (i:Nat) (ks:List ByteArray):Rs ByteArray:=match nam nk l i with
 | none=>.inr (i,6)
 | some s=>thn (keysL l (i+1) ks) fun _ m=>.inl (s,m)
def lop (T:Nat→Rs Tr) (s:Nat→Option (Nod×Nat)):Nat→Tr→Nat→Rs Tr
 | 0,_,j=>.inr (j,6)
 | n+1,a,j=>match s j with
  | none=>.inl (a,j)
  | some (x,d)=>thn (T (j+d)) fun b m=>lop T s n (x,fr2 a b) m
def lopS (T:Nat→Rs Tr) (s:Nat→Option (Nod×Nat)) (n i:Nat):Rs Tr:=thn (T i) fun a j=>lop T s n a j
def opN (k:Int):Nod:=⟨31,k,nob,nob⟩
section
variable (nk lg:ByteArray→Bool) (l:List Te)
def sApp (j:Nat):Option (Nod×Nat):=if (hdE lg l j).any then some (⟨25,0,nob,nob⟩,0) else none
def sMul (j:Nat):Option (Nod×Nat):=if key (tks l) j kStar then some (opN 3,1) else none
def sAdd (j:Nat):Option (Nod×Nat):=if key (tks l) j kPlus then some (opN 1,1) else if key (tks l) j vU then some (opN 2,1) else none
def sCmp (j:Nat):Option (Nod×Nat):=if key (tks l) j kEq then some (opN 4,1) else if key (tks l) j kLess then some (opN 5,1) else none
def appS (n:Nat) (A:Nat→Rs Tr):Nat→Rs Tr:=lopS A (sApp lg l) n
def mulS (n:Nat) (A:Nat→Rs Tr):Nat→Rs Tr:=lopS (appS lg l n A) (sMul l) n
def addS (n:Nat) (A:Nat→Rs Tr):Nat→Rs Tr:=lopS (mulS lg l n A) (sAdd l) n
def cmpS (n:Nat) (A:Nat→Rs Tr) (i:Nat):Rs Tr:=thn (addS lg l n A i) fun a j=>match sCmp l j with
 | none=>.inl (a,j)
 | some (x,d)=>thn (addS lg l n A (j+d)) fun b m=>.inl ((x,fr2 a b),m)
def qL (A E:Nat→Rs Tr) (i:Nat):Rs Tr:=match hdE lg l i with
 | .no=>.inr (i,6)
 | .num n=>.inl ((⟨20,n,nob,nob⟩,.nil),i+1)
 | .var s=>.inl (nd 23 s .nil,i+1)
 | .boo n=>.inl ((⟨21,n,nob,nob⟩,.nil),i+1)
 | .sel k=>thn (A (i+1)) fun a j=>.inl (nd k nob (fr1 a),j)
 | .opn=>if key (tks l) (i+1) kShut then .inl (nd 22 nob .nil,i+2) else thn (E (i+1)) fun a j=>
  if key (tks l) j zN then thn (thenK (tks l) (E (j+1)) [kShut]) fun b m=>.inl (nd 26 nob (fr2 a b),m)
  else thn (keysL (tks l) j [kShut]) fun _ m=>.inl (a,m)
def armsS (E:Nat→Rs Tr) (M:Nat→Fr→Rs Fr) (i:Nat) (acc:Fr):Rs Fr:=
 thn (nameQ nk (tks l) i []) fun c j=>thn (nameQ nk (tks l) j [kFat]) fun x j=>thn (E j) fun b j=>
  if key (tks l) j kBar then M (j+1) (acc.app (fr1 (⟨34,0,c,x⟩,fr1 b))) else thn (keysL (tks l) j [kEnd]) fun _ m=>.inl (acc.app (fr1 (⟨34,0,c,x⟩,fr1 b)),m)
def lamS (E:Nat→Rs Tr) (i:Nat):Rs Tr:=
 thn (keysL (tks l) i [kOpen]) fun _ j=>thn (nameQ nk (tks l) j [zW]) fun s j=>thn (thenK (tks l) (typL nk lg (tks l) j) [kShut,kFat]) fun t j=>thn (E j) fun b j=>.inl (nd 24 s (fr2 t b),j)
def letS (E:Nat→Rs Tr) (i:Nat):Rs Tr:=
 thn (nameQ nk (tks l) i [kEq]) fun s j=>thn (thenK (tks l) (E j) [kIn]) fun a j=>thn (thenK (tks l) (E j) [kEnd]) fun b j=>.inl (nd 29 s (fr2 a b),j)
def ifS (E:Nat→Rs Tr) (i:Nat):Rs Tr:=
 thn (thenK (tks l) (E i) [kThen]) fun a j=>thn (thenK (tks l) (E j) [kElse]) fun b j=>thn (E j) fun c j=>.inl (nd 30 nob (fr3 a b c),j)
def caseS (E:Nat→Rs Tr) (M:Nat→Fr→Rs Fr) (i:Nat):Rs Tr:=
 thn (thenK (tks l) (E i) [kOf]) fun a j=>thn (M j .nil) fun k j=>.inl (nd 32 nob (.cons a.1 a.2 k),j)
def foldS (E:Nat→Rs Tr) (M:Nat→Fr→Rs Fr) (i:Nat):Rs Tr:=
 thn (thenK (tks l) (E i) [kTo]) fun a j=>thn (thenK (tks l) (typL nk lg (tks l) j) [kOf]) fun t j=>thn (M j .nil) fun k j=>.inl (nd 33 nob (.cons a.1 a.2 (.cons t.1 t.2 k)),j)
def exprS (n:Nat) (A E:Nat→Rs Tr) (M:Nat→Fr→Rs Fr) (i:Nat):Rs Tr:=
 if key (tks l) i kFn then lamS nk lg l E (i+1)
 else if key (tks l) i kLet then letS nk l E (i+1)
 else if key (tks l) i kIf then ifS l E (i+1)
 else if key (tks l) i kCase then caseS l E M (i+1)
 else if key (tks l) i kFold then foldS nk lg l E M (i+1)
 else cmpS lg l n A i
mutual
def exprF:Nat→Nat→Rs Tr
 | 0,i=>.inr (i,6)
 | n+1,i=>exprS nk lg l (n+1) (fun j=>qP n j) (fun j=>exprF n j) (fun j a=>armsF n j a) i
def qP:Nat→Nat→Rs Tr
 | 0,i=>.inr (i,6)
 | n+1,i=>qL lg l (fun j=>qP n j) (fun j=>exprF n j) i
def armsF:Nat→Nat→Fr→Rs Fr
 | 0,i,_=>.inr (i,6)
 | n+1,i,acc=>armsS nk l (fun j=>exprF n j) (fun j a=>armsF n j a) i acc
end
end
section
variable {nk lg:ByteArray→Bool} {l:List Te}
theorem xN (n i:Nat):exprF nk lg l (n+1) i=exprS nk lg l (n+1) (qP nk lg l n) (exprF nk lg l n) (armsF nk lg l n) i:=by rw[exprF]
theorem yG (n i:Nat):qP nk lg l (n+1) i=qL lg l (qP nk lg l n) (exprF nk lg l n) i:=by rw[qP]
theorem tW (n i:Nat) (acc:Fr):armsF nk lg l (n+1) i acc=armsS nk l (exprF nk lg l n) (armsF nk lg l n) i acc:=by rw[armsF]
theorem qH {α β:Type} {R:Rs α} {f:α→Nat→Rs β} {b:β} {m:Nat} (h:thn R f = .inl (b,m)):∃a j,R = .inl (a,j)∧f a j = .inl (b,m):=by
 unfold thn at h
 cases R with
 | inr e=>cases h
 | inl r=>exact⟨r.1,r.2,rfl,h⟩
theorem xO {i:Nat} (h:(hdE lg l i).any=true):i<l.length:=by
 unfold hdE at h
 split at h
 ·rename_i t ht
  exact(List.getElem?_eq_some_iff.1 ht).1
 ·cases h
theorem qK {i:Nat} {x:ByteArray} (h:key (tks l) i x=true):i<l.length:=by have:=yN h;rw[yV] at this;exact this
theorem zXw {p:ByteArray→Bool} {i:Nat} {x:ByteArray} (h:nam p (tks l) i=some x):i<l.length:=by have:=zXu h;rw[yV] at this;exact this
def In {α:Type} (N i:Nat) (R:Rs α):Prop:=match R with
 | .inl (_,j)=>i<j∧j≤N
 | .inr (p,e)=>i≤p∧p≤N∧(e=6∨e=9)
theorem In.down {α:Type} {N i j:Nat} {R:Rs α} (h:In N j R) (hi:i≤j):In N i R:=by
 unfold In at *
 cases R with
 | inl r=>exact⟨by have:=h.1;omega,h.2⟩
 | inr r=>exact⟨by have:=h.1;omega,h.2⟩
theorem In.bnd {α β:Type} {N i:Nat} {R:Rs α} {f:α→Nat→Rs β} (h:In N i R) (hf:∀a j,R = .inl (a,j)→i<j→j≤N→In N j (f a j)):In N i (thn R f):=by
 cases R with
 | inr e=>exact h
 | inl r=>exact(hf r.1 r.2 rfl h.1 h.2).down (Nat.le_of_lt h.1)
def In0 {α:Type} (N i:Nat) (R:Rs α):Prop:=match R with
 | .inl (_,j)=>i≤j∧j≤N
 | .inr (p,e)=>i≤p∧p≤N∧(e=6∨e=9)
theorem In.weak {α:Type} {N i:Nat} {R:Rs α} (h:In N i R):In0 N i R:=by
 unfold In In0 at *
 cases R with
 | inl r=>exact⟨Nat.le_of_lt h.1,h.2⟩
 | inr r=>exact h
theorem In0.down {α:Type} {N i j:Nat} {R:Rs α} (h:In0 N j R) (hi:i≤j):In0 N i R:=by
 unfold In0 at *
 cases R with
 | inl r=>exact⟨by have:=h.1;omega,h.2⟩
 | inr r=>exact⟨by have:=h.1;omega,h.2⟩
theorem In0.strict {α:Type} {N i j:Nat} {R:Rs α} (h:In0 N j R) (hi:i<j):In N i R:=by
 unfold In0 at h;unfold In
 cases R with
 | inl r=>exact⟨by have:=h.1;omega,h.2⟩
 | inr r=>exact⟨by have:=h.1;omega,h.2⟩
theorem In.bnd0 {α β:Type} {N i:Nat} {R:Rs α} {f:α→Nat→Rs β} (h:In N i R) (hf:∀a j,R = .inl (a,j)→i<j→j≤N→In0 N j (f a j)):In N i (thn R f):=by
 cases R with
 | inr e=>exact h
 | inl r=>exact(hf r.1 r.2 rfl h.1 h.2).strict h.1
theorem In0.bnd {α β:Type} {N i:Nat} {R:Rs α} {f:α→Nat→Rs β} (h:In0 N i R) (hf:∀a j,R = .inl (a,j)→i≤j→j≤N→In0 N j (f a j)):In0 N i (thn R f):=by
 cases R with
 | inr e=>exact h
 | inl r=>exact(hf r.1 r.2 rfl h.1 h.2).down h.1
theorem xP:∀(ks:List ByteArray) (i:Nat),i≤l.length→In0 l.length i (keysL (tks l) i ks)
 | [],i,hi=>⟨Nat.le_refl _,hi⟩
 | k::r,i,hi=>by
  unfold keysL
  split
  ·rename_i hk
   exact(xP r (i+1) (qK hk)).down (Nat.le_succ i)
  ·exact⟨Nat.le_refl _,hi,.inl rfl⟩
theorem zO7 {k:ByteArray} {r:List ByteArray} {i:Nat} (hi:i≤l.length):In l.length i (keysL (tks l) i (k::r)):=by
 unfold keysL
 split
 ·rename_i hk
  exact(xP r (i+1) (qK hk)).strict (Nat.lt_succ_self i)
 ·exact⟨Nat.le_refl _,hi,.inl rfl⟩
theorem zO8 {α:Type} {N i j:Nat} {a:α} (h:i<j) (hj:j≤N):In (α:=α) N i (.inl (a,j)):=⟨h,hj⟩
theorem kV {α:Type} {N i j:Nat} {a:α} (h:i≤j) (hj:j≤N):In0 (α:=α) N i (.inl (a,j)):=⟨h,hj⟩
theorem qT {α:Type} {R:Rs α} {ks:List ByteArray} {i:Nat} (h:In l.length i R):In l.length i (thenK (tks l) R ks):=
 h.bnd0 fun _ _ _ _ hj=>(xP ks _ hj).bnd fun _ _ _ _ hm=>kV (Nat.le_refl _) hm
theorem yJ {p:ByteArray→Bool} {ks:List ByteArray} {i:Nat} (hi:i≤l.length):In l.length i (nameQ p (tks l) i ks):=by
 unfold nameQ
 split
 ·exact⟨Nat.le_refl _,hi,.inl rfl⟩
 ·rename_i s hs
  exact((xP ks (i+1) (zXw hs)).bnd fun _ _ _ _ hm=>kV (Nat.le_refl _) hm).strict (Nat.lt_succ_self i)
theorem xQ {i:Nat} (hi:i≤l.length):In l.length i (typL nk lg (tks l) i):=by
 have h1:=zBs (nk:=nk) (lg:=lg) (tks l) [] i (by rw[yV];exact hi);have h2:=sO (nk:=nk) (lg:=lg) (tks l) i;rw[yV] at h1
 cases h:typL nk lg (tks l) i with
 | inl r=>rw[h] at h1 h2;exact⟨h2,h1.le⟩
 | inr r=>rw[h] at h1 h2;exact⟨h2,h1.le,by rcases h1.bad r.1 r.2 rfl with h | h<;>omega⟩
theorem zHp {T:Nat→Rs Tr} {s:Nat→Option (Nod×Nat)} (hT:∀j,j≤l.length→In l.length j (T j)) (hs:∀j x d,s j=some (x,d)→j+d≤l.length):∀(n:Nat) (a:Tr) (j:Nat),j≤l.length→In0 l.length j (lop T s n a j)
 | 0,a,j,hj=>⟨Nat.le_refl _,hj,.inl rfl⟩
 | n+1,a,j,hj=>by
  unfold lop
  split
  ·exact⟨Nat.le_refl _,hj⟩
  ·rename_i x d h
   exact(((hT _ (hs j x d h)).weak).bnd fun b m _ _ hm=>zHp hT hs n _ m hm).down (Nat.le_add_right _ _)
theorem zXx {T:Nat→Rs Tr} {s:Nat→Option (Nod×Nat)} (hT:∀j,j≤l.length→In l.length j (T j)) (hs:∀j x d,s j=some (x,d)→j+d≤l.length) (n:Nat) {i:Nat} (hi:i≤l.length):In l.length i (lopS T s n i):=
 (hT i hi).bnd0 fun a j _ _ hj=>zHp hT hs n a j hj
theorem zO9 {j:Nat} {x:Nod} {d:Nat} (h:sApp lg l j=some (x,d)):j+d≤l.length∧x=⟨25,0,nob,nob⟩∧d=0:=by
 unfold sApp at h
 split at h
 ·rename_i hh
  injection h with h;injection h with h1 h2;subst h2;exact⟨Nat.le_of_lt (xO hh),h1.symm,rfl⟩
 ·cases h
theorem zOa {j:Nat} {x:Nod} {d:Nat} (h:sMul l j=some (x,d)):j+d≤l.length∧x=opN 3∧d=1:=by
 unfold sMul at h
 split at h
 ·rename_i hh
  injection h with h;injection h with h1 h2;subst h2;exact⟨qK hh,h1.symm,rfl⟩
 ·cases h
theorem zOb {j:Nat} {x:Nod} {d:Nat} (h:sAdd l j=some (x,d)):j+d≤l.length∧(x=opN 1∨x=opN 2)∧d=1:=by
 unfold sAdd at h
 split at h
 ·rename_i hh
  injection h with h;injection h with h1 h2;subst h2;exact⟨qK hh,.inl h1.symm,rfl⟩
 ·split at h
  ·rename_i hh
   injection h with h;injection h with h1 h2;subst h2;exact⟨qK hh,.inr h1.symm,rfl⟩
  ·cases h
theorem zOc {j:Nat} {x:Nod} {d:Nat} (h:sCmp l j=some (x,d)):j+d≤l.length∧(x=opN 4∨x=opN 5)∧d=1:=by
 unfold sCmp at h
 split at h
 ·rename_i hh
  injection h with h;injection h with h1 h2;subst h2;exact⟨qK hh,.inl h1.symm,rfl⟩
 ·split at h
  ·rename_i hh
   injection h with h;injection h with h1 h2;subst h2;exact⟨qK hh,.inr h1.symm,rfl⟩
  ·cases h
theorem zXy {n:Nat} {A:Nat→Rs Tr} (hA:∀j,j≤l.length→In l.length j (A j)) {i:Nat} (hi:i≤l.length):In l.length i (appS lg l n A i):=zXx hA (fun _ _ _ h=>(zO9 h).1) n hi
theorem zXz {n:Nat} {A:Nat→Rs Tr} (hA:∀j,j≤l.length→In l.length j (A j)) {i:Nat} (hi:i≤l.length):In l.length i (mulS lg l n A i):=zXx (fun _ h=>zXy hA h) (fun _ _ _ h=>(zOa h).1) n hi
theorem eC {n:Nat} {A:Nat→Rs Tr} (hA:∀j,j≤l.length→In l.length j (A j)) {i:Nat} (hi:i≤l.length):In l.length i (addS lg l n A i):=zXx (fun _ h=>zXz hA h) (fun _ _ _ h=>(zOb h).1) n hi
theorem zBt {n:Nat} {A:Nat→Rs Tr} (hA:∀j,j≤l.length→In l.length j (A j)) {i:Nat} (hi:i≤l.length):In l.length i (cmpS lg l n A i):=by
 refine(eC hA hi).bnd0 fun a j _ _ hj=>?_
 split
 ·exact kV (Nat.le_refl _) hj
 ·rename_i x d h
  exact(((eC hA (zOc h).1).weak).bnd fun _ _ _ _ hm=>kV (Nat.le_refl _) hm).down (Nat.le_add_right _ _)
theorem zHq {A E:Nat→Rs Tr} (hA:∀j,j≤l.length→In l.length j (A j)) (hE:∀j,j≤l.length→In l.length j (E j)) {i:Nat} (hi:i≤l.length):In l.length i (qL lg l A E i):=by
 unfold qL
 cases h:hdE lg l i with
 | no=>exact⟨Nat.le_refl _,hi,.inl rfl⟩
 | num n=>exact zO8 (Nat.lt_succ_self i) (xO (lg:=lg) (by rw[h];rfl))
 | var n=>exact zO8 (Nat.lt_succ_self i) (xO (lg:=lg) (by rw[h];rfl))
 | boo n=>exact zO8 (Nat.lt_succ_self i) (xO (lg:=lg) (by rw[h];rfl))
 | sel k=>
  have hl:i+1≤l.length:=xO (lg:=lg) (by rw[h];rfl);exact(((hA (i+1) hl).bnd0 fun a j _ _ hj=>kV (Nat.le_refl _) hj).down (Nat.le_succ i))
 | opn=>
  have hl:i+1≤l.length:=xO (lg:=lg) (by rw[h];rfl);simp only
  split
  ·rename_i hk
   exact zO8 (by omega) (qK hk)
  ·refine((hE (i+1) hl).bnd0 fun a j _ _ hj=>?_).down (Nat.le_succ i)
   split
   ·rename_i hk
    exact(((qT (hE (j+1) (qK hk))).bnd0 fun _ _ _ _ hm=>kV (Nat.le_refl _) hm).weak).down (Nat.le_succ j)
   ·exact(xP _ j hj).bnd fun _ _ _ _ hm=>kV (Nat.le_refl _) hm
theorem zHr {E:Nat→Rs Tr} {M:Nat→Fr→Rs Fr} (hE:∀j,j≤l.length→In l.length j (E j)) (hM:∀j a,j≤l.length→In l.length j (M j a)) {i:Nat} (acc:Fr) (hi:i≤l.length):In l.length i (armsS nk l E M i acc):=by
 refine(yJ hi).bnd fun c j _ _ hj=>(yJ hj).bnd fun x j _ _ hj=>(hE j hj).bnd0 fun b j _ _ hj=>?_
 split
 ·rename_i hk
  exact((hM (j+1) _ (qK hk)).weak).down (Nat.le_succ j)
 ·exact(xP _ j hj).bnd fun _ _ _ _ hm=>kV (Nat.le_refl _) hm
theorem zHs {n:Nat} {A E:Nat→Rs Tr} {M:Nat→Fr→Rs Fr} (hA:∀j,j≤l.length→In l.length j (A j)) (hE:∀j,j≤l.length→In l.length j (E j)) (hM:∀j a,j≤l.length→In l.length j (M j a)) {i:Nat} (hi:i≤l.length):In l.length i (exprS nk lg l n A E M i):=by
 unfold exprS
 split
 ·rename_i hk
  exact((zO7 (qK hk)).bnd fun _ j _ _ hj=>(yJ hj).bnd fun s j _ _ hj=>(qT (xQ hj)).bnd fun t j _ _ hj=>(hE j hj).bnd0 fun b j _ _ hj=>kV (Nat.le_refl _) hj).down (Nat.le_succ i)
 ·split
  ·rename_i hk
   exact((yJ (qK hk)).bnd fun s j _ _ hj=>(qT (hE j hj)).bnd fun a j _ _ hj=>(qT (hE j hj)).bnd0 fun b j _ _ hj=>kV (Nat.le_refl _) hj).down (Nat.le_succ i)
  ·split
   ·rename_i hk
    exact((qT (hE _ (qK hk))).bnd fun a j _ _ hj=>(qT (hE j hj)).bnd fun b j _ _ hj=>(hE j hj).bnd0 fun c j _ _ hj=>kV (Nat.le_refl _) hj).down (Nat.le_succ i)
   ·split
    ·rename_i hk
     exact((qT (hE _ (qK hk))).bnd fun a j _ _ hj=>(hM j _ hj).bnd0 fun k j _ _ hj=>kV (Nat.le_refl _) hj).down (Nat.le_succ i)
    ·split
     ·rename_i hk
      exact((qT (hE _ (qK hk))).bnd fun a j _ _ hj=>(qT (xQ hj)).bnd fun t j _ _ hj=>(hM j _ hj).bnd0 fun k j _ _ hj=>kV (Nat.le_refl _) hj).down (Nat.le_succ i)
     ·exact zBt hA hi
theorem oH:∀(n:Nat),(∀i,i≤l.length→In l.length i (exprF nk lg l n i))∧(∀i,i≤l.length→In l.length i (qP nk lg l n i))∧(∀i acc,i≤l.length→In l.length i (armsF nk lg l n i acc))
 | 0=>⟨(fun i h=>by rw[exprF];exact⟨Nat.le_refl _,h,.inl rfl⟩),(fun i h=>by rw[qP];exact⟨Nat.le_refl _,h,.inl rfl⟩),(fun i _ h=>by rw[armsF];exact⟨Nat.le_refl _,h,.inl rfl⟩)⟩
 | n+1=>by
  obtain⟨hE,hA,hM⟩:=oH n;refine⟨fun i hi=>?_,fun i hi=>?_,fun i acc hi=>?_⟩
  ·rw[xN];exact zHs hA hE hM hi
  ·rw[yG];exact zHq hA hE hi
  ·rw[tW];exact zHr hE hM acc hi
theorem vN {n i:Nat} (hi:i≤l.length):In l.length i (exprF nk lg l n i):=(oH n).1 i hi
end
end Go.Proofs.YtbpijnalmakfaaaGreatDoor
namespace Go.Proofs.YtbpijnalmakfaaaGreatDoor
section
variable {nk lg:ByteArray→Bool}
def ArmOk (nk lg:ByteArray→Bool) (f:Fr):Prop:=((infF nk lg f).all fun i=>i.is 9)=true
def wN (x:Nod):Nat:=(if x.k=25 then 8 else if x.k=23 then 2 else 24)+x.a.size+x.m.size
def wF:Fr→Nat
 | .nil=>0
 | .cons x k r=>(if x.k<20 then 150*(1+k.sz) else wN x+wF k)+wF r
theorem ty_k {t:Tr} (h:isT nk lg t 1=true):t.1.k<20:=by
 cases wC h with
 | leaf k hk=>show k<20;omega
 | name s hs=>show(4:Int)<20;decide
 | two k hk a b hA hB=>show k<20;omega
 | mu s hs c hc h0=>show(7:Int)<20;decide
theorem mE (x:Nod) (a:Tr):szT (x,fr1 a)=1+szT a:=by unfold szT;simp only[fr1,Fr.sz];omega
theorem zQ (x:Nod) (a b:Tr):szT (x,fr2 a b)=1+(szT a+szT b):=by unfold szT;simp only[fr2,fr1,Fr.sz];omega
theorem dG (x:Nod) (a b c:Tr):szT (x,fr3 a b c)=1+(szT a+szT b+szT c):=by unfold szT;simp only[fr3,fr2,fr1,Fr.sz];omega
theorem yY (x:Nod):szT (x,.nil)=1:=rfl
variable {l:List Te}
section
variable (hn:∀s,nk s=true→s.size≤128) (hg:∀s,lg s=true→s.size≤128)
include hg in
end
end
end Go.Proofs.YtbpijnalmakfaaaGreatDoor
namespace Go.Proofs.YtbpijnalmakfaaaGreatDoor
def ke (x:ByteArray):Te:=⟨ky x,0⟩
def ne (s:ByteArray):Te:=⟨nmT s,0⟩
def tyE (ts:List Tk):List Te:=ts.map fun t=>⟨t,0⟩
def lvl (x:Nod):Nat:=if x.k=24∨x.k=29∨x.k=30∨x.k=32∨x.k=33 then 0 else if x.k=25 then 4 else if x.k=31 then (if x.n<3 then 2 else if x.n=3 then 3 else 1) else 5
def low (x:Nod) (r:Nat):Bool:=decide (lvl x<r)
def wie (b:Bool) (ts:List Te):List Te:=if b then ke kOpen::(ts++[ke kShut]) else ts
def barsE:List (List Te)→List Te
 | []=>[]
 | [a]=>a
 | a::b::r=>a++ke kBar::barsE (b::r)
def signB (n:Int):ByteArray:=if n=1 then kPlus else if n=2 then vU else if n=3 then kStar else if n=4 then kEq else kLess
def lft (x:Nod):Nat:=if lvl x=1 then 2 else lvl x
section
variable (nb:Int→ByteArray)
def tkEN (x:Nod) (ks:List (Nod×List Te)):List Te:=
 if x.k=20 then [⟨⟨2,nb x.n⟩,x.n⟩] else if x.k=21 then [if x.n=1 then ke kTrue else ke yH] else if x.k=22 then [ke kOpen,ke kShut] else if x.k=23 then [ne x.a]
 else if x.k=24 then (match ks with
  | [t,b]=>ke kFn::ke kOpen::ne x.a::ke zW::(t.2++ke kShut::ke kFat::b.2)
  | _=>[])
 else if x.k=25 then (match ks with
  | [a,b]=>wie (low a.1 4) a.2++wie (low b.1 5) b.2
  | _=>[])
 else if x.k=26 then (match ks with
  | [a,b]=>ke kOpen::(a.2++ke zN::(b.2++[ke kShut]))
  | _=>[])
 else if x.k=27 then (match ks with
  | [a]=>ke kOne::wie (low a.1 5) a.2
  | _=>[])
 else if x.k=28 then (match ks with
  | [a]=>ke kTwo::wie (low a.1 5) a.2
  | _=>[])
 else if x.k=29 then (match ks with
  | [a,b]=>ke kLet::ne x.a::ke kEq::(a.2++ke kIn::(b.2++[ke kEnd]))
  | _=>[])
 else if x.k=30 then (match ks with
  | [a,b,c]=>ke kIf::(a.2++ke kThen::(b.2++ke kElse::c.2))
  | _=>[])
 else if x.k=31 then (match ks with
  | [a,b]=>wie (low a.1 (lft x)) a.2++ke (signB x.n)::wie (low b.1 (lvl x+1)) b.2
  | _=>[])
 else if x.k=32 then (match ks with
  | a::r=>ke kCase::(a.2++ke kOf::(barsE (r.map (·.2))++[ke kEnd]))
  | _=>[])
 else if x.k=33 then (match ks with
  | a::t::r=>ke kFold::(a.2++ke kTo::(t.2++ke kOf::(barsE (r.map (·.2))++[ke kEnd])))
  | _=>[])
 else if x.k=34 then (match ks with
  | [b]=>ne x.a::ne x.m::ke kFat::b.2
  | _=>[])
 else []
def tkEF:Fr→List (Nod×List Te)
 | .nil=>[]
 | .cons x k r=>(x,if x.k<20 then tyE (tkT (x,k)) else tkEN nb x (tkEF k))::tkEF r
def tkE (t:Tr):List Te:=if t.1.k<20 then tyE (tkT t) else tkEN nb t.1 (tkEF nb t.2)
end
section
variable {nk lg:ByteArray→Bool} {l:List Te}
theorem dH {b:Bool} {ts:List Te} (h:ts≠[]):wie b ts≠[]:=by
 cases b with
 | false=>exact h
 | true=>intro e;cases e
end
section
variable {nk lg:ByteArray→Bool}
inductive xR (nk lg:ByteArray→Bool):Tr→Prop
 | num (n:Int) (h1 : -1073741824≤n) (h2:n≤1073741824):xR nk lg (⟨20,n,nob,nob⟩,.nil)
 | boo (n:Int) (h:n=0∨n=1):xR nk lg (⟨21,n,nob,nob⟩,.nil)
 | unit:xR nk lg (nd 22 nob .nil)
 | var (s:ByteArray) (h:lg s=true):xR nk lg (nd 23 s .nil)
 | lam (s:ByteArray) (h:nk s=true) (a b:Tr) (ha:isT nk lg a 1=true) (hb:isT nk lg b 2=true):xR nk lg (nd 24 s (fr2 a b))
 | app (a b:Tr) (ha:isT nk lg a 2=true) (hb:isT nk lg b 2=true):xR nk lg (nd 25 nob (fr2 a b))
 | pair (a b:Tr) (ha:isT nk lg a 2=true) (hb:isT nk lg b 2=true):xR nk lg (nd 26 nob (fr2 a b))
 | sel (k:Int) (hk:k=27∨k=28) (a:Tr) (ha:isT nk lg a 2=true):xR nk lg (nd k nob (fr1 a))
 | letE (s:ByteArray) (h:nk s=true) (a b:Tr) (ha:isT nk lg a 2=true) (hb:isT nk lg b 2=true):xR nk lg (nd 29 s (fr2 a b))
 | ifE (a b c:Tr) (ha:isT nk lg a 2=true) (hb:isT nk lg b 2=true) (hc:isT nk lg c 2=true):xR nk lg (nd 30 nob (fr3 a b c))
 | op (k:Int) (h1:1≤k) (h2:k≤5) (a b:Tr) (ha:isT nk lg a 2=true) (hb:isT nk lg b 2=true):xR nk lg (opN k,fr2 a b)
 | caseE (a:Tr) (ha:isT nk lg a 2=true) (k:Fr) (hk:ArmOk nk lg k) (h0:0<k.len):xR nk lg (nd 32 nob (.cons a.1 a.2 k))
 | foldE (a t:Tr) (ha:isT nk lg a 2=true) (ht:isT nk lg t 1=true) (k:Fr) (hk:ArmOk nk lg k) (h0:0<k.len):xR nk lg (nd 33 nob (.cons a.1 a.2 (.cons t.1 t.2 k)))
theorem gH {c:UInt8} {r:List UInt8} {f:Fr} (h1:¬c=42) (h2:¬c=67) (h3:¬c=65) (h:seqOk (infF nk lg f) (c::r)=true):∃a q,f = .cons a.1 a.2 q∧isT nk lg a (catOf c)=true∧seqOk (infF nk lg q) r=true:=by
 cases f with
 | nil=>
  unfold seqOk at h;rw[if_neg h1,if_neg h2,if_neg h3] at h
  cases h
 | cons x k q=>
  unfold seqOk at h;rw[if_neg h1,if_neg h2,if_neg h3] at h;have h:(isT nk lg (x,k) (catOf c)&&seqOk (infF nk lg q) r)=true:=h;rw[Bool.and_eq_true] at h;exact⟨(x,k),q,rfl,h.1,h.2⟩
theorem zOd {f:Fr} (h:seqOk (infF nk lg f) [101]=true):∃a,f=fr1 a∧isT nk lg a 2=true:=by
 obtain⟨a,q,rfl,h1,h2⟩:=gH (by decide) (by decide) (by decide) h;exact⟨a,by rw[wB h2];rfl,h1⟩
theorem dI {c:UInt8} (hc:c=116∨c=101) {f:Fr} (h:seqOk (infF nk lg f) [c,101]=true):∃a b,f=fr2 a b∧isT nk lg a (catOf c)=true∧isT nk lg b 2=true:=by
 obtain⟨a,q,rfl,h1,h2⟩:=gH (by rcases hc with rfl | rfl<;>decide) (by rcases hc with rfl | rfl<;>decide) (by rcases hc with rfl | rfl<;>decide) h
 obtain⟨b,rfl,h3⟩:=zOd h2;exact⟨a,b,rfl,h1,h3⟩
theorem zBu {f:Fr} (h:seqOk (infF nk lg f) [101,101,101]=true):∃a b c,f=fr3 a b c∧isT nk lg a 2=true∧isT nk lg b 2=true∧isT nk lg c 2=true:=by
 obtain⟨a,q,rfl,h1,h2⟩:=gH (by decide) (by decide) (by decide) h;obtain⟨b,c,rfl,h3,h4⟩:=dI (.inr rfl) h2;exact⟨a,b,c,rfl,h1,h3,h4⟩
theorem yYw {f:Fr} (h:seqOk (infF nk lg f) [65]=true):ArmOk nk lg f∧0<f.len:=by
 have e:seqOk (infF nk lg f) [65]=(!(infF nk lg f).isEmpty&&(infF nk lg f).all fun i=>i.is 9):=by cases infF nk lg f<;>rfl
 rw[e,Bool.and_eq_true] at h;refine⟨h.2,?_⟩
 cases f with
 | nil=>cases h.1
 | cons _ _ _=>exact Nat.succ_pos _
theorem zW0 {x:Nod} {k n:Int} {a m:ByteArray} (hk:k=x.k) (hn:x.n=n) (ha:x.a=a) (hm:x.m=m):x=⟨k,n,a,m⟩:=by
 obtain⟨k',n',a',m'⟩:=x;simp only at hk hn ha hm;subst hk;subst hn;subst ha;subst hm
 rfl
theorem wZ {t:Tr} (h:isT nk lg t 2=true):xR nk lg t:=by
 obtain⟨x,f⟩:=t;obtain⟨r,hr,hf⟩:=qY.1 h;obtain⟨hc,hk,ha,hm,h1,h2,hs⟩:=zH.1 hf;simp only[RWS,List.mem_cons,List.not_mem_nil,or_false] at hr
 rcases hr with rfl | rfl | rfl | rfl | rfl | rfl | rfl | rfl | rfl | rfl | rfl | rfl | rfl | rfl | rfl | rfl | rfl | rfl | rfl | rfl | rfl | rfl | rfl | rfl | rfl | rfl | rfl | rfl | rfl | rfl | rfl | rfl | rfl | rfl | rfl | rfl | rfl | rfl | rfl | rfl | rfl | rfl | rfl | rfl | rfl | rfl | rfl
 all_goals try (exact absurd hc (by decide))
 ·have e:x=⟨20,x.n,nob,nob⟩:=zW0 hk rfl (kG ha) (kG hm)
  have ef:f = .nil:=wB hs;rw[e,ef];exact .num x.n h1 h2
 ·have e:x=⟨21,x.n,nob,nob⟩:=zW0 hk rfl (kG ha) (kG hm)
  have ef:f = .nil:=wB hs;have h1:0≤x.n:=h1;have h2:x.n≤1:=h2;rw[e,ef];exact .boo x.n (by omega)
 ·have e:x=⟨22,0,nob,nob⟩:=kJ hk h1 h2 (kG ha) hm
  have ef:f = .nil:=wB hs;rw[e,ef];exact .unit
 ·have e:x=⟨23,0,x.a,nob⟩:=kJ hk h1 h2 rfl hm
  have ha:lg x.a=true:=ha;have ef:f = .nil:=wB hs;rw[e,ef];exact .var x.a ha
 ·have e:x=⟨24,0,x.a,nob⟩:=kJ hk h1 h2 rfl hm
  have ha:nk x.a=true:=ha;obtain⟨a,b,rfl,hA,hB⟩:=dI (.inl rfl) hs;rw[e];exact .lam x.a ha a b hA hB
 ·obtain⟨a,b,rfl,hA,hB⟩:=dI (.inr rfl) hs
  have e:x=⟨25,0,nob,nob⟩:=kJ hk h1 h2 (kG ha) hm;rw[e];exact .app a b hA hB
 ·obtain⟨a,b,rfl,hA,hB⟩:=dI (.inr rfl) hs
  have e:x=⟨26,0,nob,nob⟩:=kJ hk h1 h2 (kG ha) hm;rw[e];exact .pair a b hA hB
 ·obtain⟨a,rfl,hA⟩:=zOd hs
  have e:x=⟨27,0,nob,nob⟩:=kJ hk h1 h2 (kG ha) hm;rw[e];exact .sel 27 (.inl rfl) a hA
 ·obtain⟨a,rfl,hA⟩:=zOd hs
  have e:x=⟨28,0,nob,nob⟩:=kJ hk h1 h2 (kG ha) hm;rw[e];exact .sel 28 (.inr rfl) a hA
 ·obtain⟨a,b,rfl,hA,hB⟩:=dI (.inr rfl) hs
  have e:x=⟨29,0,x.a,nob⟩:=kJ hk h1 h2 rfl hm;have ha:nk x.a=true:=ha;rw[e];exact .letE x.a ha a b hA hB
 ·obtain⟨a,b,c,rfl,hA,hB,hC⟩:=zBu hs
  have e:x=⟨30,0,nob,nob⟩:=kJ hk h1 h2 (kG ha) hm;rw[e];exact .ifE a b c hA hB hC
 ·obtain⟨a,b,rfl,hA,hB⟩:=dI (.inr rfl) hs
  have e:x=⟨31,x.n,nob,nob⟩:=zW0 hk rfl (kG ha) (kG hm);rw[e];exact .op x.n h1 h2 a b hA hB
 ·obtain⟨a,q,rfl,hA,hq⟩:=gH (by decide) (by decide) (by decide) hs
  obtain⟨h3,h4⟩:=yYw hq;have e:x=⟨32,0,nob,nob⟩:=kJ hk h1 h2 (kG ha) hm;rw[e];exact .caseE a hA q h3 h4
 ·obtain⟨a,q,rfl,hA,hq⟩:=gH (by decide) (by decide) (by decide) hs
  obtain⟨t,p,rfl,hT,hp⟩:=gH (by decide) (by decide) (by decide) hq;obtain⟨h3,h4⟩:=yYw hp;have e:x=⟨33,0,nob,nob⟩:=kJ hk h1 h2 (kG ha) hm;rw[e];exact .foldE a t hA hT p h3 h4
theorem ex_k {t:Tr} (h:isT nk lg t 2=true):¬t.1.k<20:=by
 cases wZ h with
 | num n h1 h2=>show ¬((20:Int)<20);decide
 | boo n h=>show ¬((21:Int)<20);decide
 | unit=>show ¬((22:Int)<20);decide
 | var s h=>show ¬((23:Int)<20);decide
 | lam s h a b ha hb=>show ¬((24:Int)<20);decide
 | app a b ha hb=>show ¬((25:Int)<20);decide
 | pair a b ha hb=>show ¬((26:Int)<20);decide
 | sel k hk a ha=>show ¬(k<20);omega
 | letE s h a b ha hb=>show ¬((29:Int)<20);decide
 | ifE a b c ha hb hc=>show ¬((30:Int)<20);decide
 | op k h1 h2 a b ha hb=>show ¬((31:Int)<20);decide
 | caseE a ha k hk h0=>show ¬((32:Int)<20);decide
 | foldE a t ha ht k hk h0=>show ¬((33:Int)<20);decide
variable {nb:Int→ByteArray}
theorem dJ {x:Nod} {k r:Fr} (h:isT nk lg (x,k) 2=true):tkEF nb (.cons x k r)=(x,tkE nb (x,k))::tkEF nb r:=by
 have h1:=ex_k h;have h1:¬x.k<20:=h1;unfold tkE;rw[if_neg (show ¬(x,k).1.k<20 from h1)]
 conv=>lhs;unfold tkEF
 rw[if_neg h1]
theorem zHt {x:Nod} {k r:Fr} (h:isT nk lg (x,k) 1=true):tkEF nb (.cons x k r)=(x,tyE (tkT (x,k)))::tkEF nb r:=by
 have h1:x.k<20:=ty_k h
 conv=>lhs;unfold tkEF
 rw[if_pos h1]
theorem fM {x:Nod} {f:Fr} (h:¬x.k<20):tkE nb (x,f)=tkEN nb x (tkEF nb f):=by unfold tkE;rw[if_neg (show ¬(x,f).1.k<20 from h)]
theorem ef1 {a:Tr} (ha:isT nk lg a 2=true):tkEF nb (fr1 a)=[(a.1,tkE nb a)]:=dJ (r:=.nil) ha
theorem ef2 {a b:Tr} (ha:isT nk lg a 2=true) (hb:isT nk lg b 2=true):tkEF nb (fr2 a b)=[(a.1,tkE nb a),(b.1,tkE nb b)]:=by
 have e:tkEF nb (fr2 a b)=(a.1,tkE nb a)::tkEF nb (fr1 b):=dJ ha;rw[e,ef1 hb]
theorem ef2t {a b:Tr} (ha:isT nk lg a 1=true) (hb:isT nk lg b 2=true):tkEF nb (fr2 a b)=[(a.1,tyE (tkT a)),(b.1,tkE nb b)]:=by
 have e:tkEF nb (fr2 a b)=(a.1,tyE (tkT a))::tkEF nb (fr1 b):=zHt ha;rw[e,ef1 hb]
theorem ef3 {a b c:Tr} (ha:isT nk lg a 2=true) (hb:isT nk lg b 2=true) (hc:isT nk lg c 2=true):tkEF nb (fr3 a b c)=[(a.1,tkE nb a),(b.1,tkE nb b),(c.1,tkE nb c)]:=by
 have e:tkEF nb (fr3 a b c)=(a.1,tkE nb a)::tkEF nb (fr2 b c):=dJ ha;rw[e,ef2 hb hc]
def yZ (nb:Int→ByteArray) (f:Fr):List (List Te):=(tkEF nb f).map (·.2)
theorem zW1 (n:Int):tkE nb (⟨20,n,nob,nob⟩,.nil)=[⟨⟨2,nb n⟩,n⟩]:=rfl
theorem oI (n:Int):tkE nb (⟨21,n,nob,nob⟩,.nil)=[if n=1 then ke kTrue else ke yH]:=rfl
theorem eD:tkE nb (nd 22 nob .nil)=[ke kOpen,ke kShut]:=rfl
theorem zW2 (s:ByteArray):tkE nb (nd 23 s .nil)=[ne s]:=rfl
theorem oJ {s:ByteArray} {a b:Tr} (ha:isT nk lg a 1=true) (hb:isT nk lg b 2=true):tkE nb (nd 24 s (fr2 a b))=ke kFn::ke kOpen::ne s::ke zW::(tyE (tkT a)++ke kShut::ke kFat::tkE nb b):=by
 unfold nd;rw[fM (show ¬((24:Int)<20) by decide),ef2t ha hb];rfl
theorem oK {a b:Tr} (ha:isT nk lg a 2=true) (hb:isT nk lg b 2=true):tkE nb (nd 25 nob (fr2 a b))=wie (low a.1 4) (tkE nb a)++wie (low b.1 5) (tkE nb b):=by
 unfold nd;rw[fM (show ¬((25:Int)<20) by decide),ef2 ha hb];rfl
theorem tX {a b:Tr} (ha:isT nk lg a 2=true) (hb:isT nk lg b 2=true):tkE nb (nd 26 nob (fr2 a b))=ke kOpen::(tkE nb a++ke zN::(tkE nb b++[ke kShut])):=by
 unfold nd;rw[fM (show ¬((26:Int)<20) by decide),ef2 ha hb];rfl
def kSel (k:Int):ByteArray:=if k=27 then kOne else kTwo
theorem oL {k:Int} (hk:k=27∨k=28) {a:Tr} (ha:isT nk lg a 2=true):tkE nb (nd k nob (fr1 a))=ke (kSel k)::wie (low a.1 5) (tkE nb a):=by
 unfold nd
 rcases hk with rfl | rfl
 ·rw[fM (show ¬((27:Int)<20) by decide),ef1 ha];rfl
 ·rw[fM (show ¬((28:Int)<20) by decide),ef1 ha];rfl
theorem oM {s:ByteArray} {a b:Tr} (ha:isT nk lg a 2=true) (hb:isT nk lg b 2=true):tkE nb (nd 29 s (fr2 a b))=ke kLet::ne s::ke kEq::(tkE nb a++ke kIn::(tkE nb b++[ke kEnd])):=by
 unfold nd;rw[fM (show ¬((29:Int)<20) by decide),ef2 ha hb];rfl
theorem zUh {a b c:Tr} (ha:isT nk lg a 2=true) (hb:isT nk lg b 2=true) (hc:isT nk lg c 2=true):tkE nb (nd 30 nob (fr3 a b c))=ke kIf::(tkE nb a++ke kThen::(tkE nb b++ke kElse::tkE nb c)):=by
 unfold nd;rw[fM (show ¬((30:Int)<20) by decide),ef3 ha hb hc];rfl
theorem zUi {k:Int} {a b:Tr} (ha:isT nk lg a 2=true) (hb:isT nk lg b 2=true):tkE nb (opN k,fr2 a b)=wie (low a.1 (lft (opN k))) (tkE nb a)++ke (signB k)::wie (low b.1 (lvl (opN k)+1)) (tkE nb b):=by
 rw[fM (show ¬((31:Int)<20) by decide),ef2 ha hb];rfl
theorem tY {a:Tr} (ha:isT nk lg a 2=true) {k:Fr}:tkE nb (nd 32 nob (.cons a.1 a.2 k))=ke kCase::(tkE nb a++ke kOf::(barsE (yZ nb k)++[ke kEnd])):=by
 unfold nd;rw[fM (show ¬((32:Int)<20) by decide),dJ ha];rfl
theorem tZ {a t:Tr} (ha:isT nk lg a 2=true) (ht:isT nk lg t 1=true) {k:Fr}:tkE nb (nd 33 nob (.cons a.1 a.2 (.cons t.1 t.2 k)))=ke kFold::(tkE nb a++ke kTo::(tyE (tkT t)++ke kOf::(barsE (yZ nb k)++[ke kEnd]))):=by
 unfold nd;rw[fM (show ¬((33:Int)<20) by decide),dJ ha,zHt ht];rfl
theorem oN:∀(n:Nat) (t:Tr),szT t≤n→isT nk lg t 2=true→tkE nb t≠[]
 | 0,t,h,_=>absurd h (by unfold szT;omega)
 | n+1,t,hn,h=>by
  cases wZ h with
  | num n h1 h2=>rw[zW1];simp
  | boo n h=>rw[oI];simp
  | unit=>rw[eD];simp
  | var s h=>rw[zW2];simp
  | lam s h a b ha hb=>rw[oJ ha hb];simp
  | app a b ha hb=>
   rw[oK ha hb];have hz:szT (nd 25 nob (fr2 a b))=1+(szT a+szT b):=zQ _ a b;have:wie (low a.1 4) (tkE nb a)≠[]:=dH (oN n a (by omega) ha)
   simp[this]
  | pair a b ha hb=>rw[tX ha hb];simp
  | sel k hk a ha=>rw[oL hk ha];simp
  | letE s h a b ha hb=>rw[oM ha hb];simp
  | ifE a b c ha hb hc=>rw[zUh ha hb hc];simp
  | op k h1 h2 a b ha hb=>rw[zUi ha hb];simp
  | caseE a ha k hk h0=>rw[tY ha];simp
  | foldE a t ha ht k hk h0=>rw[tZ ha ht];simp
theorem yO {t:Tr} (h:isT nk lg t 2=true):tkE nb t≠[]:=oN _ t (Nat.le_refl _) h
end
def jT:List Tk→List UInt8
 | []=>[]
 | [a]=>a.s.data.toList
 | a::b::r=>a.s.data.toList++32::jT (b::r)
def tB (ts:List Tk):ByteArray:=⟨(jT ts).toArray⟩
theorem kW:∀(x y:List Tk),x≠[]→y≠[]→jT (x++y)=jT x++32::jT y
 | [],_,h,_=>absurd rfl h
 | [a],y,_,hy=>by
  cases y with
  | nil=>exact absurd rfl hy
  | cons b r=>rfl
 | a::b::r,y,_,hy=>by
  show a.s.data.toList++32::jT ((b::r)++y)=(a.s.data.toList++32::jT (b::r))++32::jT y
  rw[kW (b::r) y (by simp) hy,List.append_assoc]
  rfl
theorem zP (a b:ByteArray) (h:a.data.toList=b.data.toList):a=b:=by
 obtain⟨⟨x⟩⟩:=a;obtain⟨⟨y⟩⟩:=b;have:x=y:=h;rw[this]
theorem qM (a b:ByteArray):(a++b).data.toList=a.data.toList++b.data.toList:=by
 rw[ByteArray.data_append,Array.toList_append]
theorem jG (ts:List Tk):(tB ts).data.toList=jT ts:=rfl
theorem xS {x y:List Tk} (hx:x≠[]) (hy:y≠[]):tB (x++y)=tB x++⟨#[32]⟩++tB y:=by
 refine zP _ _ ?_;rw[qM,qM,jG,jG,jG,kW x y hx hy,List.append_assoc]
 rfl
theorem vB (a:Tk):tB [a]=a.s:=zP _ _ rfl
theorem zOe {ts:List Tk} (h:ts≠[]):tB (wi true ts)=⟨#[40,32]⟩++tB ts++⟨#[32,41]⟩:=by
 have e:wi true ts=[ky kOpen]++(ts++[ky kShut]):=rfl;rw[e,xS (by simp) (by simp[h]),xS h (by simp),vB,vB];refine zP _ _ ?_;simp only[qM,List.append_assoc]
 rfl
section
variable {nk lg:ByteArray→Bool}
theorem zOf {b:Bool} {ts:List Tk} (h:ts≠[]):wi b ts≠[]:=by
 cases b with
 | false=>exact h
 | true=>intro e;cases e
end
section
variable {nk lg:ByteArray→Bool} {nb:Int→ByteArray}
theorem jM {l:List Te} (h:l≠[]):tks l≠[]:=by
 cases l with
 | nil=>exact absurd rfl h
 | cons a r=>intro e;cases e
theorem pN (b:Bool) (ts:List Te):tks (wie b ts)=wi b (tks ts):=by
 cases b with
 | false=>rfl
 | true=>
  show ky kOpen::tks (ts++[ke kShut])=_
  rw[yW]
  rfl
def txE (nb:Int→ByteArray) (t:Tr):ByteArray:=tB (tks (tkE nb t))
def atX (nb:Int→ByteArray) (t:Tr) (r:Nat):ByteArray:=if low t.1 r then ⟨#[40,32]⟩++txE nb t++⟨#[32,41]⟩ else txE nb t
theorem yWq {t:Tr} (h:isT nk lg t 2=true) (r:Nat):tB (wi (low t.1 r) (tks (tkE nb t)))=atX nb t r:=by
 unfold atX
 cases low t.1 r with
 | false=>rfl
 | true=>exact zOe (jM (yO h))
theorem nH {t:Tr} (h:isT nk lg t 2=true) (r:Nat):jT (wi (low t.1 r) (tks (tkE nb t)))=(atX nb t r).data.toList:=by rw[←yWq h r];rfl
theorem wne {t:Tr} (h:isT nk lg t 2=true) (b:Bool):wi b (tks (tkE nb t))≠[]:=zOf (jM (yO h))
theorem zRl (n:Int):txE nb (⟨21,n,nob,nob⟩,.nil)=if n=1 then kTrue else yH:=by
 unfold txE;rw[oI]
 split<;>exact zP _ _ rfl
theorem zHu (s:ByteArray):txE nb (nd 23 s .nil)=s:=zP _ _ rfl
theorem zR4 {a b:Tr} (ha:isT nk lg a 2=true) (hb:isT nk lg b 2=true):txE nb (nd 25 nob (fr2 a b))=atX nb a 4++⟨#[32]⟩++atX nb b 5:=by
 refine zP _ _ ?_
 conv=>lhs;unfold txE
 rw[oK ha hb,jG,yW,pN,pN,kW _ _ (wne ha _) (wne hb _),nH ha,nH hb];simp only[qM,List.append_assoc]
 rfl
end
end Go.Proofs.YtbpijnalmakfaaaGreatDoor
namespace Go.Proofs.YtbpijnalmakfaaaGreatDoor
open Go.RowKit
def Up (W w:World):Prop:=Below W.heap.size W w
theorem Up.refl (W:World):Up W W:=Below.refl _ _
theorem Up.trans {W a b:World} (h:Up W a) (k:Up a b):Up W b:=Below.trans h (Below.mono k h.size)
theorem Up.of {W a b:World} (h:Up W a) (k:Below a.heap.size a b):Up W b:=h.trans k
theorem Up.drew {W a:World} (h:Up W a):Up W a.drew:=Below.drew h
theorem Up.drewN {W a:World} (h:Up W a) (q:Nat):Up W (a.drewN q):=qD h q
theorem Up.alloc {W a:World} (h:Up W a) (o:Obj):Up W (a.alloc o):=Below.alloc h h.size o
theorem Up.cell {W a:World} (h:Up W a) {p:Addr} {v:Value} (k:W.cell? p=some v):a.cell? p=some v:=(Below.cell h (yL k)).trans k
theorem Up.row {W a:World} (h:Up W a) {b:Nat} {o:Obj} (k:W.heap[b]? = some o):a.heap[b]? = some o:=(h.block b (qC k)).trans k
def HasT (w:World) (v:Value) (o:Option Tr):Prop:=InO w (fun q=>q<w.heap.size) v o
theorem HasT.of {w:World} {S:Nat→Prop} {v:Value} {o:Option Tr} (h:InO w S v o) (hb:Bel S w.heap.size):HasT w v o:=h.keep hb fun _ _=>rfl
theorem HasT.up {W w:World} {v:Value} {o:Option Tr} (h:HasT W v o) (u:Up W w):HasT w v o:=InO.keep h (fun _ hq=>Nat.lt_of_lt_of_le hq u.size) fun b hb=>u.block b hb
theorem HasT.bel {w:World}:Bel (fun q=>q<w.heap.size) w.heap.size:=fun _ h=>h
structure Upw (W:World) where
 w:World
 h:Up W w
instance (W:World):Nonempty (Upw W):=⟨⟨W,Up.refl W⟩⟩
theorem Upw.cell {W:World} {p:Addr} {v:Value} (k:W.cell? p=some v) (u:Upw W):u.w.cell? p=some v:=u.h.cell k
theorem Calls.upw {P:Program} {f:FuncId} {args:Array Value} {W:World} {u:Upw W} {v:Value} (h:Calls P f args u.w fun e w'=>e = .returned v∧Up W w') :
  Calls P f args u.w fun e w''=>e = .returned v∧∃u':Upw W,w''=u'.w:=h.mono fun _ w' ⟨he,hu⟩=>⟨he,⟨w',hu⟩,rfl⟩
theorem qF {P:Program} {id:Nat} {Q:Exit→Act→World→Prop} {a:Act} {W w:World} {l:List Oper} (hu:Up W w) (hm:P.follows .mixedOrders=true) (hB:Region.lexB .any l.toArray=true)
  (h:wpQuiet P l.toArray (fun w'=>∃u:Upw W,w'=u.w) (fun a'=>∀w',(∃u:Upw W,w'=u.w)→Q .normal a' w') l a):(Code.region id l.toArray true).wp P Q a w:=
 wp_region_quiet (C:=fun w'=>∃u:Upw W,w'=u.w) hm hB ⟨⟨_,hu.drew⟩,rfl⟩ (by simpa using h)
def BoP (b:Bool) (W:World) (e:Ending) (w':World):Prop:=e = .returned (.bool b)∧Up W w'
def NuP (n:Nat) (W:World) (e:Ending) (w':World):Prop:=e = .returned (.int .i64 (n:Int))∧Up W w'
def qE (n:Int):ByteArray:=B.T (B.numb n)
theorem oO:∀s,B.nck s=true→s.size≤128:=fun s h=>by have:=(B.iL h).2;omega
theorem lD:∀s,B.long s=true→s.size≤128:=fun _ h=>(B.pD.1 h).1
def Tkm (w:World) (v:Value) (l:List Tk):Prop:=∃A c,v = .slice A l.length c∧∀(j:Nat) (t:Tk),l[j]? = some t→∃b o,A=some ⟨b,o,none⟩∧b<w.heap.size∧w.cell? ⟨b,o+j*4,none⟩=some (.int .i64 t.k)∧w.cell? ⟨b,o+j*4+1,none⟩=some (.string t.s)
theorem Tkm.up {W w:World} {v:Value} {l:List Tk} (h:Tkm W v l) (u:Up W w):Tkm w v l:=by
 obtain⟨A,c,rfl,h⟩:=h;refine⟨A,c,rfl,fun j t ht=>?_⟩;obtain⟨b,o,h1,h2,h3,h4⟩:=h j t ht;exact⟨b,o,h1,Nat.lt_of_lt_of_le h2 u.size,u.cell h3,u.cell h4⟩
theorem oP (a b:ByteArray):(a.toList==b.toList)=decide (a=b):=by
 by_cases h:a=b
 ·rw[h,decide_eq_true rfl]
  simp
 ·rw[decide_eq_false h,beq_eq_false_iff_ne]
  intro e;rw[Lib.toList_data,Lib.toList_data] at e;exact h (B.jK e)
def keyZ (l:List Tk) (i:Int) (x:ByteArray):Bool:=decide (0≤i)&&key l i.toNat x
def BoU (b:Bool) (w:World) (e:Ending) (w':World):Prop:=e = .returned (.bool b)∧Up w w'
theorem kK {a b:Bool} {w w':World} (h:a=b) (u:Up w w'):BoU a w (.returned (.bool b)) w':=⟨by rw[h],u⟩
def namZ (p:ByteArray→Bool) (l:List Tk) (i:Int):Option ByteArray:=if 0≤i then nam p l i.toNat else none
def NaP (o:Option ByteArray) (w:World) (e:Ending) (w':World):Prop:=e = .returned (.tuple #[.string (o.getD nob),.bool o.isSome])∧Up w w'
theorem gY (l:List Tk) (i:Int) (w:World) (v:Value) (hv:Tkm w v l) (hz:∀t∈l,t.s.size≤1000000000) :
  Calls Tryz.prog 126 #[v,.int .i64 i] w (NaP (namZ B.nck l i) w):=by
 obtain⟨A,c,rfl,hc⟩:=hv;obtain⟨n,hn⟩:∃n,l.length=n:=⟨_,rfl⟩;rw[hn]
 by_cases h0:0≤i
 ·obtain⟨k,rfl⟩:=Int.eq_ofNat_of_zero_le h0
  by_cases hk:k<n
  ·obtain⟨t,ht⟩:∃t,l[k]? = some t:=⟨_,List.getElem?_eq_getElem (by rw[hn];exact hk)⟩
   obtain⟨b,o,rfl,hb,c0,c1⟩:=hc k t ht;have hki:(k:Int)<(n:Int):=by omega
   have cC:=B.refCk t.s w (hz t (List.mem_of_getElem? ht));obtain⟨p,hp⟩:∃p,B.nck t.s=p:=⟨_,rfl⟩;rw[hp] at cC;have HE:Hid (namZ B.nck l (k:Int)=if decide (t.k=1)&&p then some t.s else none):=Lib.hid (by unfold namZ;rw[if_pos h0,Int.toNat_natCast];unfold nam;rw[ht,←hp]);rw[HE.out];clear hc ht hn HE hp hz
   by_cases h3:t.k=1
   ·rw[decide_eq_true h3,Bool.true_and]
    cases p
    ·go_enter Tryz.func126,Tryz.ntmps126
     go_wp2_with fail;refine cC.mono ?_;rintro e w1 ⟨rfl,u1⟩;go_wp2_with fail
     go_ret2
     exact⟨rfl,u1⟩
    ·go_enter Tryz.func126,Tryz.ntmps126
     go_wp2_with fail;refine cC.mono ?_;rintro e w1 ⟨rfl,u1⟩;have c1':=(show Up w w1 from u1).cell c1;go_wp2_with fail
     go_ret2
     exact⟨rfl,u1⟩
   ·rw[decide_eq_false h3,Bool.false_and]
    go_enter Tryz.func126,Tryz.ntmps126
    go_wp2_with fail
    go_ret2
    exact⟨rfl,Up.refl _⟩
  ·have hki:¬(k:Int)<(n:Int):=by omega
   have HE:Hid (namZ B.nck l (k:Int)=none):=Lib.hid (by unfold namZ;rw[if_pos h0,Int.toNat_natCast,tV (by omega)]);rw[HE.out]
   go_enter Tryz.func126,Tryz.ntmps126
   go_wp2_with fail
   go_ret2
   exact⟨rfl,Up.refl _⟩
 ·have HE:Hid (namZ B.nck l i=none):=Lib.hid (by unfold namZ;rw[if_neg h0])
  rw[HE.out]
  go_enter Tryz.func126,Tryz.ntmps126
  go_wp2_with fail
  go_ret2
  exact⟨rfl,Up.refl _⟩
section
variable {nk lg:ByteArray→Bool}
def LeOk {α:Type} (N:Nat) (R:Rs α):Prop:=pl R≤N∧∀p e,R = .inr (p,e)→¬e=0
theorem St.leok {α:Type} {N:Nat} {R R':Rs α} (h:St N R R'):LeOk N R:=⟨h.le,fun p e he=>by rcases h.bad p e he with h | ⟨h,_⟩<;>omega⟩
theorem mF (l:List Tk) (i:Nat) (hi:i≤l.length):LeOk l.length (typL nk lg l i):=((dF l [] _).1 i hi).leok
theorem zUj (l:List Tk) (i:Nat) (hi:i≤l.length):LeOk l.length (prodL nk lg l i):=((dF l [] _).2.1 i hi).leok
theorem zUk (l:List Tk) (i:Nat) (hi:i≤l.length):LeOk l.length (atomL nk lg l i):=((dF l [] _).2.2.1 i hi).leok
theorem zUl (l:List Tk) (i:Nat) (acc:Fr) (hi:i≤l.length):LeOk l.length (consL nk lg l i acc):=((dF l [] _).2.2.2 i acc hi).leok
end
def NewS (W w:World) (q:Nat):Prop:=W.heap.size≤q∧q<w.heap.size
def NewT (W w:World) (v:Value) (t:Tr):Prop:=InT w (NewS W w) v t
theorem NewT.up {W a w:World} {v:Value} {t:Tr} (h:NewT W a v t) (u:Up a w):NewT W w v t:=InT.keep h (fun _ hq=>⟨hq.1,Nat.lt_of_lt_of_le hq.2 u.size⟩) fun b hb=>Below.block u b hb.2
theorem NewT.base {W a w:World} {v:Value} {t:Tr} (h:NewT a w v t) (u:W.heap.size≤a.heap.size):NewT W w v t:=InT.keep h (fun _ hq=>⟨Nat.le_trans u hq.1,hq.2⟩) fun _ _=>rfl
theorem NewT.has {W w:World} {v:Value} {t:Tr} (h:NewT W w v t):HasT w v (some t):=InT.keep h (fun _ hq=>hq.2) fun _ _=>rfl
theorem vV (w:World) (o:Obj) {n:Nat} (h:w.heap.size=n):(w.alloc o).heap[n]? = some o:=by rw[←h];exact heap_alloc_new w o
theorem kL {w:World} {b:Nat} {o:Obj} (o':Obj) (h:w.heap[b]? = some o):(w.alloc o').heap[b]? = some o:=(Below.heap_alloc _ _ _ (qC h)).trans h
theorem yU {w:World} {S:Nat→Prop} {b g n c:Nat} {x:Nod} {f:Fr} (h:w.heap[b]? = some (.cells #[.int .i64 x.k,.int .i64 x.n,.string x.a,.string x.m,.slice (some ⟨g,0,none⟩) n c] 57 (0,0))) (hn:f.len=n) (hc:n≤c) (hS:S b) (hg:S g) (hf:InF w S f g 0):InT w S (.pointer (some ⟨b,0,none⟩)) (x,f):=by
 subst hn;exact⟨b,0,some ⟨g,0,none⟩,c,rfl,hS,⟨_,_,h⟩,cell_of_row w b 0 _ _ _ h,cell_of_row w b 1 _ _ _ h,cell_of_row w b 2 _ _ _ h,cell_of_row w b 3 _ _ _ h,cell_of_row w b 4 _ _ _ h,hc,fun _=>⟨g,0,rfl,hg,hf⟩⟩
theorem nI {w:World} {S:Nat→Prop} {b:Nat} {x:Nod} (h:w.heap[b]? = some (.cells #[.int .i64 x.k,.int .i64 x.n,.string x.a,.string x.m,.slice none 0 0] 57 (0,0))) (hS:S b):InT w S (.pointer (some ⟨b,0,none⟩)) (x,.nil):=
 ⟨b,0,none,0,rfl,hS,⟨_,_,h⟩,cell_of_row w b 0 _ _ _ h,cell_of_row w b 1 _ _ _ h,cell_of_row w b 2 _ _ _ h,cell_of_row w b 3 _ _ _ h,cell_of_row w b 4 _ _ _ h,Nat.le_refl _,fun hn=>absurd hn (by simp[Fr.len])⟩
section
variable (nk lg:ByteArray→Bool)
def typZ (l:List Tk) (i:Int):Rs Tr:=if i<0∨(l.length:Int)<i then .inr (0,2) else typL nk lg l i.toNat
end
def RtV (R:Rs Tr) (w w':World) (v:Value) (j e:Int):Prop:=match R with
 | .inl (t,q)=>NewT w w' v t∧j=(q:Int)∧e=0
 | .inr (p,r)=>j=(p:Int)∧e=r∧v = .pointer none
def sP (R:Rs Tr) (w:World) (e:Ending) (w':World):Prop:=∃v j er,e = .returned (.tuple #[v,.int .i64 j,.int .i64 er])∧RtV R w w' v j er∧Up w w'
def Tke (w:World) (v:Value) (l:List Te):Prop:=∃A c,v = .slice A l.length c∧∀(j:Nat) (t:Te),l[j]? = some t→∃b o,A=some ⟨b,o,none⟩∧b<w.heap.size∧w.cell? ⟨b,o+j*4,none⟩=some (.int .i64 t.t.k)∧w.cell? ⟨b,o+j*4+1,none⟩=some (.string t.t.s)∧w.cell? ⟨b,o+j*4+2,none⟩=some (.int .i64 t.n)∧∃m,w.cell? ⟨b,o+j*4+3,none⟩=some (.int .i64 m)
theorem Tke.up {W w:World} {v:Value} {l:List Te} (h:Tke W v l) (u:Up W w):Tke w v l:=by
 obtain⟨A,c,rfl,h⟩:=h;refine⟨A,c,rfl,fun j t ht=>?_⟩;obtain⟨b,o,h1,h2,h3,h4,h5,m,h6⟩:=h j t ht;exact⟨b,o,h1,Nat.lt_of_lt_of_le h2 u.size,u.cell h3,u.cell h4,u.cell h5,m,u.cell h6⟩
theorem Tke.tkm {w:World} {v:Value} {l:List Te} (h:Tke w v l):Tkm w v (tks l):=by
 obtain⟨A,c,rfl,h⟩:=h;refine⟨A,c,by rw[yV],fun j t ht=>?_⟩;rw[fL] at ht;obtain⟨u,hu,rfl⟩:=Option.map_eq_some_iff.1 ht;obtain⟨b,o,h1,h2,h3,h4,_⟩:=h j u hu;exact⟨b,o,h1,h2,h3,h4⟩
theorem In.ne {α:Type} {N i:Nat} {R:Rs α} (h:In N i R) {p:Nat} {e:Int} (hR:R = .inr (p,e)):¬e=0:=by
 rw[hR] at h;have h:i≤p∧p≤N∧(e=6∨e=9):=h;omega
section
variable {W w:World}
theorem oQ {va vb:Value} {a b:Tr} {k:Int} {s:ByteArray} (hW:W.heap.size≤w.heap.size) (ha:NewT W w va a) (hb:NewT W w vb b) :
  NewT W ((w.alloc (.cells #[va,vb] 24)).alloc (.cells #[.int .i64 k,.int .i64 0,.string s,.string ⟨#[]⟩,.slice (some ⟨w.heap.size,0,none⟩) 2 2] 57)) (.pointer (some ⟨w.heap.size+1,0,none⟩)) (nd k s (fr2 a b)):=by
 have e1:(w.alloc (.cells #[va,vb] 24)).heap.size=w.heap.size+1:=by simp
 rw[←e1];obtain⟨W1,hW1⟩:∃W1,w.alloc (.cells #[va,vb] 24)=W1:=⟨_,rfl⟩;have s1:W1.heap[w.heap.size]? = some (.cells #[va,vb] 24 (0,0)):=by rw[←hW1];exact heap_alloc_new w _
 have u1:Up w W1:=by rw[←hW1];exact(Up.refl w).alloc _
 have z1:=u1.size;rw[hW1];obtain⟨W2,hW2⟩:∃W2,W1.alloc (.cells #[.int .i64 k,.int .i64 0,.string s,.string ⟨#[]⟩,.slice (some ⟨w.heap.size,0,none⟩) 2 2] 57)=W2:=⟨_,rfl⟩;have s2:W2.heap[W1.heap.size]? = some (.cells #[.int .i64 k,.int .i64 0,.string s,.string ⟨#[]⟩,.slice (some ⟨w.heap.size,0,none⟩) 2 2] 57 (0,0)):=by rw[←hW2];exact heap_alloc_new W1 _
 have u2:Up W1 W2:=by rw[←hW2];exact(Up.refl W1).alloc _
 have s3:W2.heap[w.heap.size]? = some (.cells #[va,vb] 24 (0,0)):=u2.row s1;rw[hW2];exact yU (x:=⟨k,0,s,nob⟩) (f:=fr2 a b) s2 rfl (Nat.le_refl _) ⟨by omega,qC s2⟩ ⟨hW,qC s3⟩ ⟨⟨_,cell_of_row W2 w.heap.size 0 _ _ _ s3,ha.up (u1.trans u2)⟩,⟨_,cell_of_row W2 w.heap.size 1 _ _ _ s3,hb.up (u1.trans u2)⟩,trivial⟩
end
theorem PtF.app {w:World} {S:Nat→Prop}:∀{vs us:List Value} {f g:Fr},PtF w S vs f→PtF w S us g→PtF w S (vs++us) (f.app g)
 | [],_,.nil,_,_,h=>h
 | [],_,.cons _ _ _,_,h,_=>h.elim
 | _::_,_,.nil,_,h,_=>h.elim
 | _::vs,us,.cons _ _ r,g,h,h2=>⟨h.1,PtF.app (vs:=vs) (us:=us) (f:=r) (g:=g) h.2 h2⟩
end Go.Proofs.YtbpijnalmakfaaaGreatDoor
