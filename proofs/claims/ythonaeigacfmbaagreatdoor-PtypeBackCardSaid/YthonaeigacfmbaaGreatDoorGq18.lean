/-
  Plain: what is parsed has a type's form, and no more nodes than tokens.
-/
import Derived.Test.YthonaeigacfmbaaGreatDoorGq03
import Derived.Test.YthonaeigacfmbaaGreatDoorGq17
namespace Go.Proofs.YthonaeigacfmbaaGreatDoor
section
variable {nk lg : ByteArray → Bool}
theorem is_con {s : ByteArray} (h : nk s = true) {t : Tr} (ht : isT nk lg t 1 = true) : isT nk lg (nd 8 s (fr1 t)) 8 = true := by
  have hs : seqOk (infF nk lg (fr1 t)) [116] = true := by
    show ((isT nk lg t 1) && true) = true
    rw [ht]
    rfl
  exact isX_row.2 ⟨⟨8, 8, [110], [], 0, 0, [116]⟩, by simp [RWS], fitR_is.2 ⟨rfl, rfl, h, rfl, Int.le_refl 0, Int.le_refl 0, hs⟩⟩
theorem apart_snoc (j : Inf) : ∀ l : List Inf, apartA (l ++ [j]) = (apartA l && l.all fun i => decide (i.a ≠ j.a))
  | [] => rfl
  | i :: t => by
    show ((t ++ [j]).all (fun x => decide (i.a ≠ x.a)) && apartA (t ++ [j])) = ((t.all (fun x => decide (i.a ≠ x.a)) && apartA t) && (decide (i.a ≠ j.a) && t.all fun x => decide (x.a ≠ j.a)))
    rw [apart_snoc j t, List.all_append, List.all_cons, List.all_nil]
    cases t.all (fun x => decide (i.a ≠ x.a)) <;> cases decide (i.a ≠ j.a) <;> cases apartA t <;> cases (t.all fun x => decide (x.a ≠ j.a)) <;> rfl
theorem hasN_all : ∀ (f : Fr) (s : ByteArray), hasN f s = false → ((infF nk lg f).all fun i => decide (i.a ≠ s)) = true
  | .nil, _, _ => rfl
  | .cons x k r, s, h => by
    unfold hasN at h
    rw [Bool.or_eq_false_iff] at h
    show (decide (x.a ≠ s) && (infF nk lg r).all fun i => decide (i.a ≠ s)) = true
    rw [hasN_all r s h.2, Bool.and_true, decide_eq_true_eq]
    exact of_decide_eq_false h.1
def ConOk (nk lg : ByteArray → Bool) (f : Fr) : Prop := ((infF nk lg f).all fun i => i.is 8) = true ∧ apartA (infF nk lg f) = true
theorem ConOk.nil : ConOk nk lg .nil := ⟨rfl, rfl⟩
theorem ConOk.more {f : Fr} (h : ConOk nk lg f) {s : ByteArray} (hs : nk s = true) (hn : hasN f s = false) {t : Tr} (ht : isT nk lg t 1 = true) : ConOk nk lg (f.app (fr1 (nd 8 s (fr1 t)))) := by
  have e : infF nk lg (f.app (fr1 (nd 8 s (fr1 t)))) = infF nk lg f ++ [infT nk lg (nd 8 s (fr1 t))] := infF_app f _
  unfold ConOk
  rw [e]
  refine ⟨?_, ?_⟩
  · rw [List.all_append, h.1]
    show (true && (isT nk lg (nd 8 s (fr1 t)) 8 && true)) = true
    rw [is_con hs ht]
    rfl
  · rw [apart_snoc, h.2]
    exact hasN_all f s hn
end
end Go.Proofs.YthonaeigacfmbaaGreatDoor
namespace Go.Proofs.YthonaeigacfmbaaGreatDoor

def ky (x : ByteArray) : Tk := ⟨3, x⟩
def nmT (s : ByteArray) : Tk := ⟨1, s⟩
def wi (b : Bool) (ts : List Tk) : List Tk := if b then ky kOpen :: (ts ++ [ky kShut]) else ts
def bars : List (List Tk) → List Tk
  | [] => []
  | [a] => a
  | a :: b :: r => a ++ ky kBar :: bars (b :: r)
def is5 (x : Nod) : Bool := decide (x.k = 5)
def is56 (x : Nod) : Bool := decide (x.k = 5) || decide (x.k = 6)
def tkN (x : Nod) (ks : List (Nod × List Tk)) : List Tk :=
  if x.k = 1 then [ky kInt] else if x.k = 2 then [ky kBool] else if x.k = 3 then [ky kUnit] else if x.k = 4 then [nmT x.a]
  else if x.k = 5 then (match ks with
    | [a, b] => wi (is5 a.1) a.2 ++ ky kArrow :: b.2
    | _ => [])
  else if x.k = 6 then (match ks with
    | [a, b] => wi (is56 a.1) a.2 ++ ky kStar :: wi (is5 b.1) b.2
    | _ => [])
  else if x.k = 7 then ky kMu :: nmT x.a :: ky kLeft :: (bars (ks.map (·.2)) ++ [ky kRight])
  else if x.k = 8 then (match ks with
    | [a] => nmT x.a :: ky kOf :: a.2
    | _ => [])
  else []
def tkF : Fr → List (Nod × List Tk)
  | .nil => []
  | .cons x k r => (x, tkN x (tkF k)) :: tkF r
def tkT (t : Tr) : List Tk := tkN t.1 (tkF t.2)

/-! ### what stands at a place -/
def At (l : List Tk) (i : Nat) (ts : List Tk) : Prop := ∃ r, l.drop i = ts ++ r
theorem At.left {l a b : List Tk} {i : Nat} (h : At l i (a ++ b)) : At l i a := by
  obtain ⟨r, h⟩ := h
  exact ⟨b ++ r, by rw [h, List.append_assoc]⟩
theorem At.right {l a b : List Tk} {i : Nat} (h : At l i (a ++ b)) : At l (i + a.length) b := by
  obtain ⟨r, h⟩ := h
  refine ⟨r, ?_⟩
  rw [← List.drop_drop, h, List.append_assoc, List.drop_left]
theorem At.tail {l a : List Tk} {i : Nat} {x : Tk} (h : At l i (x :: a)) : At l (i + 1) a := At.right (a := [x]) h
theorem At.head {l a : List Tk} {i : Nat} {x : Tk} (h : At l i (x :: a)) : l[i]? = some x := by
  obtain ⟨r, h⟩ := h
  have e : (l.drop i)[0]? = l[i + 0]? := List.getElem?_drop
  rw [h] at e
  exact e.symm
theorem key_ky {l : List Tk} {i : Nat} {x : ByteArray} (h : l[i]? = some (ky x)) (y : ByteArray) : key l i y = decide (x = y) := by
  unfold key
  rw [h]
  show (decide ((3 : Int) = 3) && decide (x = y)) = _
  rw [decide_eq_true rfl, Bool.true_and]
theorem nam_ky {p : ByteArray → Bool} {l : List Tk} {i : Nat} {x : ByteArray} (h : l[i]? = some (ky x)) : nam p l i = none := by
  unfold nam
  rw [h]
  show (if (decide ((3 : Int) = 1) && p x) = true then some x else none) = none
  rw [decide_eq_false (by decide), Bool.false_and]
  rfl
theorem nam_nm {p : ByteArray → Bool} {l : List Tk} {i : Nat} {s : ByteArray} (h : l[i]? = some (nmT s)) (hp : p s = true) : nam p l i = some s := by
  unfold nam
  rw [h]
  show (if (decide ((1 : Int) = 1) && p s) = true then some s else none) = some s
  rw [hp]
  rfl
section
variable {nk lg : ByteArray → Bool}
theorem emp_is {s : ByteArray} (h : isEmp s = true) : s = nob := by
  have h := of_decide_eq_true h
  obtain ⟨⟨l⟩⟩ := s
  cases l with
  | nil => rfl
  | cons a l => simp [ByteArray.size] at h
theorem nod_is {x : Nod} {k : Int} {a : ByteArray} (hk : k = x.k) (h1 : 0 ≤ x.n) (h2 : x.n ≤ 0) (ha : x.a = a) (hm : isEmp x.m = true) : x = ⟨k, 0, a, nob⟩ := by
  obtain ⟨k', n, a', m⟩ := x
  simp only at hk h1 h2 ha hm
  subst hk; subst ha
  have h3 : n = 0 := by omega
  rw [h3, emp_is hm]
inductive TyForm (nk lg : ByteArray → Bool) : Tr → Prop
  | leaf (k : Int) (h : k = 1 ∨ k = 2 ∨ k = 3) : TyForm nk lg (nd k nob .nil)
  | name (s : ByteArray) (h : lg s = true) : TyForm nk lg (nd 4 s .nil)
  | two (k : Int) (h : k = 5 ∨ k = 6) (a b : Tr) (ha : isT nk lg a 1 = true) (hb : isT nk lg b 1 = true) : TyForm nk lg (nd k nob (fr2 a b))
  | mu (s : ByteArray) (h : nk s = true) (c : Fr) (hc : ConOk nk lg c) (h0 : 0 < c.len) : TyForm nk lg (nd 7 s c)
theorem seq_nil (l : List Inf) : seqOk l [] = l.isEmpty := by cases l <;> rfl
theorem inf_nil {f : Fr} (h : seqOk (infF nk lg f) [] = true) : f = .nil := by
  cases f with
  | nil => rfl
  | cons x k r => cases h
theorem inf_two {f : Fr} (h : seqOk (infF nk lg f) [116, 116] = true) : ∃ a b, f = fr2 a b ∧ isT nk lg a 1 = true ∧ isT nk lg b 1 = true := by
  cases f with
  | nil => cases h
  | cons x k r =>
    cases r with
    | nil =>
      have h : (isT nk lg (x, k) 1 && false) = true := h
      rw [Bool.and_false] at h
      cases h
    | cons y m q =>
      have h : (isT nk lg (x, k) 1 && (isT nk lg (y, m) 1 && seqOk (infF nk lg q) [])) = true := h
      rw [seq_nil] at h
      simp only [Bool.and_eq_true] at h
      refine ⟨(x, k), (y, m), ?_, h.1, h.2.1⟩
      cases q with
      | nil => rfl
      | cons _ _ _ => cases h.2.2
theorem inf_one {f : Fr} (h : seqOk (infF nk lg f) [116] = true) : ∃ a, f = fr1 a ∧ isT nk lg a 1 = true := by
  cases f with
  | nil => cases h
  | cons x k r =>
    have h : (isT nk lg (x, k) 1 && seqOk (infF nk lg r) []) = true := h
    rw [seq_nil, Bool.and_eq_true] at h
    refine ⟨(x, k), ?_, h.1⟩
    cases r with
    | nil => rfl
    | cons _ _ _ => cases h.2
theorem ty_form {t : Tr} (h : isT nk lg t 1 = true) : TyForm nk lg t := by
  obtain ⟨x, f⟩ := t
  obtain ⟨r, hr, hf⟩ := isX_row.1 h
  obtain ⟨hc, hk, ha, hm, h1, h2, hs⟩ := fitR_is.1 hf
  simp only [RWS, List.mem_cons, List.not_mem_nil, or_false] at hr
  rcases hr with rfl | rfl | rfl | rfl | rfl | rfl | rfl | rfl | rfl | rfl | rfl | rfl | rfl | rfl | rfl | rfl | rfl | rfl | rfl | rfl | rfl | rfl | rfl | rfl | rfl | rfl | rfl | rfl | rfl | rfl | rfl | rfl | rfl | rfl | rfl | rfl | rfl | rfl | rfl | rfl | rfl | rfl | rfl | rfl | rfl | rfl | rfl
  all_goals try (exact absurd hc (by decide))
  · have e : x = ⟨1, 0, nob, nob⟩ := nod_is hk h1 h2 (emp_is ha) hm
    have ef : f = .nil := inf_nil hs
    rw [e, ef]; exact .leaf 1 (by omega)
  · have e : x = ⟨2, 0, nob, nob⟩ := nod_is hk h1 h2 (emp_is ha) hm
    have ef : f = .nil := inf_nil hs
    rw [e, ef]; exact .leaf 2 (by omega)
  · have e : x = ⟨3, 0, nob, nob⟩ := nod_is hk h1 h2 (emp_is ha) hm
    have ef : f = .nil := inf_nil hs
    rw [e, ef]; exact .leaf 3 (by omega)
  · have e : x = ⟨4, 0, x.a, nob⟩ := nod_is hk h1 h2 rfl hm
    have ha : lg x.a = true := ha
    have ef : f = .nil := inf_nil hs
    rw [e, ef]; exact .name x.a ha
  · obtain ⟨a, b, rfl, hA, hB⟩ := inf_two hs
    have e : x = ⟨5, 0, nob, nob⟩ := nod_is hk h1 h2 (emp_is ha) hm
    rw [e]; exact .two 5 (by omega) a b hA hB
  · obtain ⟨a, b, rfl, hA, hB⟩ := inf_two hs
    have e : x = ⟨6, 0, nob, nob⟩ := nod_is hk h1 h2 (emp_is ha) hm
    rw [e]; exact .two 6 (by omega) a b hA hB
  · have e7 : x = ⟨7, 0, x.a, nob⟩ := nod_is hk h1 h2 rfl hm
    have ha : nk x.a = true := ha
    rw [e7]
    have e : seqOk (infF nk lg f) [67] = (!(infF nk lg f).isEmpty && ((infF nk lg f).all fun i => i.is 8) && apartA (infF nk lg f)) := by cases infF nk lg f <;> rfl
    have hs : seqOk (infF nk lg f) [67] = true := hs
    rw [e] at hs
    simp only [Bool.and_eq_true] at hs
    refine .mu x.a ha f ⟨hs.1.2, hs.2⟩ ?_
    cases f with
    | nil => cases hs.1.1
    | cons _ _ _ => exact Nat.succ_pos _
theorem con_form {t : Tr} (h : isT nk lg t 8 = true) : ∃ s u, t = nd 8 s (fr1 u) ∧ nk s = true ∧ isT nk lg u 1 = true := by
  obtain ⟨x, f⟩ := t
  obtain ⟨r, hr, hf⟩ := isX_row.1 h
  obtain ⟨hc, hk, ha, hm, h1, h2, hs⟩ := fitR_is.1 hf
  simp only [RWS, List.mem_cons, List.not_mem_nil, or_false] at hr
  rcases hr with rfl | rfl | rfl | rfl | rfl | rfl | rfl | rfl | rfl | rfl | rfl | rfl | rfl | rfl | rfl | rfl | rfl | rfl | rfl | rfl | rfl | rfl | rfl | rfl | rfl | rfl | rfl | rfl | rfl | rfl | rfl | rfl | rfl | rfl | rfl | rfl | rfl | rfl | rfl | rfl | rfl | rfl | rfl | rfl | rfl | rfl | rfl
  all_goals try (exact absurd hc (by decide))
  obtain ⟨u, rfl, hu⟩ := inf_one hs
  have e : x = ⟨8, 0, x.a, nob⟩ := nod_is hk h1 h2 rfl hm
  refine ⟨x.a, u, ?_, ha, hu⟩
  rw [e]
  rfl
/-! ### parsed, they are the type -/
theorem atom_1 {l : List Tk} {i : Nat} (h : l[i]? = some (ky kInt)) : atomL nk lg l i = .inl (nd 1 nob .nil, i + 1) := by
  rw [atomL_eq]; unfold atomS
  rw [nam_ky h, key_ky h]; rfl
theorem atom_2 {l : List Tk} {i : Nat} (h : l[i]? = some (ky kBool)) : atomL nk lg l i = .inl (nd 2 nob .nil, i + 1) := by
  rw [atomL_eq]; unfold atomS
  rw [nam_ky h, key_ky h, key_ky h]; rfl
theorem atom_3 {l : List Tk} {i : Nat} (h : l[i]? = some (ky kUnit)) : atomL nk lg l i = .inl (nd 3 nob .nil, i + 1) := by
  rw [atomL_eq]; unfold atomS
  rw [nam_ky h, key_ky h, key_ky h, key_ky h]; rfl
theorem atom_4 {l : List Tk} {i : Nat} {s : ByteArray} (h : l[i]? = some (nmT s)) (hs : lg s = true) : atomL nk lg l i = .inl (nd 4 s .nil, i + 1) := by
  rw [atomL_eq]; unfold atomS
  rw [nam_nm h hs]
theorem atom_p {l : List Tk} {i j : Nat} {t : Tr} (h : l[i]? = some (ky kOpen)) (ht : typL nk lg l (i + 1) = .inl (t, j)) (hj : l[j]? = some (ky kShut)) : atomL nk lg l i = .inl (t, j + 1) := by
  rw [atomL_eq]; unfold atomS
  rw [nam_ky h, key_ky h, key_ky h, key_ky h, key_ky h, ht]
  show (if key l j kShut = true then _ else _) = _
  rw [key_ky hj]; rfl
theorem atom_m {l : List Tk} {i j : Nat} {s : ByteArray} {c : Fr} (h : l[i]? = some (ky kMu)) (h1 : l[i + 1]? = some (nmT s)) (hs : nk s = true) (h2 : l[i + 2]? = some (ky kLeft)) (hc : consL nk lg l (i + 3) .nil = .inl (c, j)) (hj : l[j]? = some (ky kRight)) :
    atomL nk lg l i = .inl (nd 7 s c, j + 1) := by
  rw [atomL_eq]; unfold atomS
  rw [nam_ky h, key_ky h, key_ky h, key_ky h, key_ky h, key_ky h, nam_nm h1 hs, key_ky h2, hc]
  show (if key l j kRight = true then _ else _) = _
  rw [key_ky hj]; rfl
theorem prod_of {l : List Tk} {i j : Nat} {t : Tr} (h : atomL nk lg l i = .inl (t, j)) (hk : key l j kStar = false) : prodL nk lg l i = .inl (t, j) := by
  rw [prodL_eq, h]; unfold typS
  simp only
  rw [hk]; rfl
theorem typ_of {l : List Tk} {i j : Nat} {t : Tr} (h : prodL nk lg l i = .inl (t, j)) (hk : key l j kArrow = false) : typL nk lg l i = .inl (t, j) := by
  rw [typL_eq, h]; unfold typS
  simp only
  rw [hk]; rfl
theorem prod_6 {l : List Tk} {i j m : Nat} {a b : Tr} (h : atomL nk lg l i = .inl (a, j)) (hk : l[j]? = some (ky kStar)) (hb : prodL nk lg l (j + 1) = .inl (b, m)) : prodL nk lg l i = .inl (nd 6 nob (fr2 a b), m) := by
  rw [prodL_eq, h]; unfold typS
  simp only
  rw [key_ky hk, hb]; rfl
theorem typ_5 {l : List Tk} {i j m : Nat} {a b : Tr} (h : prodL nk lg l i = .inl (a, j)) (hk : l[j]? = some (ky kArrow)) (hb : typL nk lg l (j + 1) = .inl (b, m)) : typL nk lg l i = .inl (nd 5 nob (fr2 a b), m) := by
  rw [typL_eq, h]; unfold typS
  simp only
  rw [key_ky hk, hb]; rfl
structure Back (nk lg : ByteArray → Bool) (t : Tr) : Prop where
  at_ : ∀ l i, At l i (tkT t) → is56 t.1 = false → atomL nk lg l i = .inl (t, i + (tkT t).length)
  pr : ∀ l i, At l i (tkT t) → is5 t.1 = false → key l (i + (tkT t).length) kStar = false → prodL nk lg l i = .inl (t, i + (tkT t).length)
  ty : ∀ l i, At l i (tkT t) → key l (i + (tkT t).length) kStar = false → key l (i + (tkT t).length) kArrow = false → typL nk lg l i = .inl (t, i + (tkT t).length)
theorem Back.of_atom {t : Tr} (h : ∀ l i, At l i (tkT t) → atomL nk lg l i = .inl (t, i + (tkT t).length)) : Back nk lg t :=
  ⟨fun l i ha _ => h l i ha, fun l i ha _ hs => prod_of (h l i ha) hs, fun l i ha hs hr => typ_of (prod_of (h l i ha) hs) hr⟩
theorem wi_atom {t : Tr} (h : Back nk lg t) {b : Bool} (hb : b = false → is56 t.1 = false) {l : List Tk} {i : Nat} (ha : At l i (wi b (tkT t))) : atomL nk lg l i = .inl (t, i + (wi b (tkT t)).length) := by
  cases b with
  | false => exact h.at_ l i ha (hb rfl)
  | true =>
    have ha : At l i (ky kOpen :: (tkT t ++ [ky kShut])) := ha
    have h1 := ha.tail.left
    have h2 := ha.tail.right.head
    have e : (wi true (tkT t)).length = (tkT t).length + 2 := by show (ky kOpen :: (tkT t ++ [ky kShut])).length = _; simp
    rw [e]
    have hk := h.ty l (i + 1) h1 (by rw [key_ky h2]; decide) (by rw [key_ky h2]; decide)
    have := atom_p ha.head hk h2
    rw [this]
    congr 2
    omega
theorem tk_two5 (a b : Tr) : tkT (nd 5 nob (fr2 a b)) = wi (is5 a.1) (tkT a) ++ ky kArrow :: tkT b := rfl
theorem tk_two6 (a b : Tr) : tkT (nd 6 nob (fr2 a b)) = wi (is56 a.1) (tkT a) ++ ky kStar :: wi (is5 b.1) (tkT b) := rfl
theorem tk_mu (s : ByteArray) (c : Fr) : tkT (nd 7 s c) = ky kMu :: nmT s :: ky kLeft :: (bars ((tkF c).map (·.2)) ++ [ky kRight]) := rfl
theorem tk_con (s : ByteArray) (t : Tr) : tkT (nd 8 s (fr1 t)) = nmT s :: ky kOf :: tkT t := rfl
theorem hasN_no : ∀ (acc : Fr) (x : Nod) (k r : Fr), apartA (infF nk lg (acc.app (.cons x k r))) = true → hasN acc x.a = false
  | .nil, _, _, _, _ => rfl
  | .cons y m q, x, k, r, h => by
    have h : (((infF nk lg (q.app (.cons x k r))).all fun j => decide (y.a ≠ j.a)) && apartA (infF nk lg (q.app (.cons x k r)))) = true := h
    rw [Bool.and_eq_true] at h
    unfold hasN
    rw [hasN_no q x k r h.2, Bool.or_false, decide_eq_false_iff_not]
    have h1 := h.1
    rw [infF_app, List.all_append, Bool.and_eq_true] at h1
    have h2 : (decide (y.a ≠ x.a) && (infF nk lg r).all fun j => decide (y.a ≠ j.a)) = true := h1.2
    rw [Bool.and_eq_true] at h2
    exact of_decide_eq_true h2.1
theorem cons_back : ∀ (f acc : Fr) (l : List Tk) (i : Nat), 0 < f.len → ConOk nk lg (acc.app f) → (∀ t, szT t < f.sz → isT nk lg t 1 = true → Back nk lg t) → At l i (bars ((tkF f).map (·.2))) →
    key l (i + (bars ((tkF f).map (·.2))).length) kStar = false → key l (i + (bars ((tkF f).map (·.2))).length) kArrow = false → key l (i + (bars ((tkF f).map (·.2))).length) kBar = false →
    consL nk lg l i acc = .inl (acc.app f, i + (bars ((tkF f).map (·.2))).length)
  | .nil, _, _, _, h, _, _, _, _, _, _ => absurd h (Nat.lt_irrefl _)
  | .cons x k r, acc, l, i, _, hok, ih, ha, hS, hA, hB => by
    have h8 : isT nk lg (x, k) 8 = true := by
      have := hok.1
      rw [infF_app, List.all_append, Bool.and_eq_true] at this
      have h : (isT nk lg (x, k) 8 && (infF nk lg r).all fun i => i.is 8) = true := this.2
      rw [Bool.and_eq_true] at h
      exact h.1
    obtain ⟨s, u, hxu, hs, hu⟩ := con_form h8
    injection hxu with h1 h2
    subst h1; subst h2
    have hn := hasN_no acc _ _ _ hok.2
    have hz : szT u < (Fr.cons ⟨8, 0, s, nob⟩ (fr1 u) r).sz := by unfold szT; simp only [fr1, Fr.sz]; omega
    have hb := ih u hz hu
    have hn : hasN acc s = false := hn
    cases r with
    | nil =>
      have ha : At l i (nmT s :: ky kOf :: tkT u) := ha
      have e : (bars ((tkF (.cons ⟨8, 0, s, nob⟩ (fr1 u) .nil)).map (·.2))).length = (tkT u).length + 2 := rfl
      rw [e] at hS hA hB ⊢
      have e2 : i + ((tkT u).length + 2) = i + 2 + (tkT u).length := by omega
      rw [e2] at hS hA hB ⊢
      have ht := hb.ty l (i + 2) ha.tail.tail hS hA
      rw [consL_eq]; unfold consS
      rw [nam_nm ha.head hs]
      simp only
      rw [hn, key_ky ha.tail.head, ht]
      simp only [hB]
      rfl
    | cons y m q =>
      have ha : At l i ((nmT s :: ky kOf :: tkT u) ++ ky kBar :: bars ((tkF (.cons y m q)).map (·.2))) := ha
      have e : (bars ((tkF (.cons ⟨8, 0, s, nob⟩ (fr1 u) (.cons y m q))).map (·.2))).length = (tkT u).length + 3 + (bars ((tkF (.cons y m q)).map (·.2))).length := by
        show ((nmT s :: ky kOf :: tkT u) ++ ky kBar :: bars ((tkF (.cons y m q)).map (·.2))).length = _
        simp only [List.length_append, List.length_cons]
        omega
      rw [e] at hS hA hB ⊢
      have h0 := ha.left
      have hr := ha.right
      have e1 : i + (nmT s :: ky kOf :: tkT u).length = i + 2 + (tkT u).length := by simp only [List.length_cons]; omega
      rw [e1] at hr
      have hbar := hr.head
      have ht := hb.ty l (i + 2) h0.tail.tail (by rw [key_ky hbar]; decide) (by rw [key_ky hbar]; decide)
      have e2 : i + ((tkT u).length + 3 + (bars ((tkF (.cons y m q)).map (·.2))).length) = i + 2 + (tkT u).length + 1 + (bars ((tkF (.cons y m q)).map (·.2))).length := by omega
      rw [e2] at hS hA hB ⊢
      have ea : (acc.app (fr1 (nd 8 s (fr1 u)))).app (.cons y m q) = acc.app (.cons ⟨8, 0, s, nob⟩ (fr1 u) (.cons y m q)) := by rw [Fr.app_assoc]; rfl
      have hc := cons_back (.cons y m q) (acc.app (fr1 (nd 8 s (fr1 u)))) l (i + 2 + (tkT u).length + 1) (Nat.succ_pos _) (by rw [ea]; exact hok) (fun t hz => ih t (by simp only [fr1, Fr.sz] at hz ⊢; omega)) hr.tail hS hA hB
      rw [consL_eq]; unfold consS
      rw [nam_nm h0.head hs]
      simp only
      rw [hn, key_ky h0.tail.head, ht]
      simp only [key_ky hbar]
      rw [← ea]
      exact hc
theorem back_all : ∀ (n : Nat) (t : Tr), szT t ≤ n → isT nk lg t 1 = true → Back nk lg t
  | 0, t, h, _ => absurd h (by unfold szT; omega)
  | n + 1, t, hn, h => by
    have ih := back_all n
    cases ty_form h with
    | leaf k hk =>
      refine Back.of_atom fun l i ha => ?_
      rcases hk with rfl | rfl | rfl
      · exact atom_1 ha.head
      · exact atom_2 ha.head
      · exact atom_3 ha.head
    | name s hs => exact Back.of_atom fun l i ha => atom_4 ha.head hs
    | two k hk a b hA hB =>
      have hz : szT (nd k nob (fr2 a b)) = 1 + (szT a + szT b) := by unfold szT; simp only [nd, fr2, fr1, Fr.sz]; omega
      have bA := ih a (by unfold szT at *; omega) hA
      have bB := ih b (by unfold szT at *; omega) hB
      rcases hk with rfl | rfl
      · refine ⟨(fun l i _ h => by cases h), (fun l i _ h => by cases h), fun l i ha hS hR => ?_⟩
        rw [tk_two5] at ha hS hR ⊢
        have e : (wi (is5 a.1) (tkT a) ++ ky kArrow :: tkT b).length = (wi (is5 a.1) (tkT a)).length + 1 + (tkT b).length := by simp only [List.length_append, List.length_cons]; omega
        have e1 : i + (wi (is5 a.1) (tkT a) ++ ky kArrow :: tkT b).length = i + (wi (is5 a.1) (tkT a)).length + 1 + (tkT b).length := by omega
        rw [e1] at hS hR ⊢
        have hk := ha.right.head
        have hp : prodL nk lg l i = .inl (a, i + (wi (is5 a.1) (tkT a)).length) := by
          cases h5 : is5 a.1 with
          | false => rw [h5] at ha hk; exact bA.pr l i ha.left h5 (by rw [show (tkT a).length = (wi false (tkT a)).length from rfl, key_ky hk]; decide)
          | true => rw [h5] at ha hk; exact prod_of (wi_atom bA (fun h => by cases h) ha.left) (by rw [key_ky hk]; decide)
        exact typ_5 hp hk (bB.ty l _ ha.right.tail hS hR)
      · have key6 : ∀ l i, At l i (tkT (nd 6 nob (fr2 a b))) → key l (i + (tkT (nd 6 nob (fr2 a b))).length) kStar = false → prodL nk lg l i = .inl (nd 6 nob (fr2 a b), i + (tkT (nd 6 nob (fr2 a b))).length) := fun l i ha hS => by
          rw [tk_two6] at ha hS ⊢
          have e1 : i + (wi (is56 a.1) (tkT a) ++ ky kStar :: wi (is5 b.1) (tkT b)).length = i + (wi (is56 a.1) (tkT a)).length + 1 + (wi (is5 b.1) (tkT b)).length := by simp only [List.length_append, List.length_cons]; omega
          rw [e1] at hS ⊢
          have hk := ha.right.head
          refine prod_6 (wi_atom bA (fun h => h) ha.left) hk ?_
          cases h5 : is5 b.1 with
          | false => rw [h5] at ha hS; exact bB.pr l _ ha.right.tail h5 hS
          | true => rw [h5] at ha hS; exact prod_of (wi_atom bB (fun h => by cases h) ha.right.tail) hS
        exact ⟨(fun l i _ h => by cases h), fun l i ha _ hS => key6 l i ha hS, fun l i ha hS hR => typ_of (key6 l i ha hS) hR⟩
    | mu s hs c hc h0 =>
      refine Back.of_atom fun l i ha => ?_
      rw [tk_mu] at ha ⊢
      have h1 := ha.tail
      have h2 := h1.tail
      have h3 := h2.tail
      have hr := h3.right.head
      have hz : szT (nd 7 s c) = 1 + c.sz := rfl
      have hcc := cons_back c .nil l (i + 3) h0 hc (fun t ht => ih t (by omega)) h3.left (by rw [key_ky hr]; decide) (by rw [key_ky hr]; decide) (by rw [key_ky hr]; decide)
      have := atom_m ha.head h1.head hs h2.head hcc hr
      rw [this]
      have e1 : (ky kMu :: nmT s :: ky kLeft :: (bars ((tkF c).map (·.2)) ++ [ky kRight])).length = (bars ((tkF c).map (·.2))).length + 4 := by simp only [List.length_append, List.length_cons, List.length_nil]
      rw [e1]
      have e2 : i + 3 + (bars ((tkF c).map (·.2))).length + 1 = i + ((bars ((tkF c).map (·.2))).length + 4) := by omega
      rw [e2]
      rfl
theorem typ_back {t : Tr} (h : isT nk lg t 1 = true) : typL nk lg (tkT t) 0 = .inl (t, (tkT t).length) := by
  have ha : At (tkT t) 0 (tkT t) := ⟨[], by simp⟩
  have := (back_all _ t (Nat.le_refl _) h).ty (tkT t) 0 ha (key_end (by omega)) (key_end (by omega))
  rw [Nat.zero_add] at this
  exact this
end
end Go.Proofs.YthonaeigacfmbaaGreatDoor
namespace Go.Proofs.YthonaeigacfmbaaGreatDoor

def jT : List Tk → List UInt8
  | [] => []
  | [a] => a.s.data.toList
  | a :: b :: r => a.s.data.toList ++ 32 :: jT (b :: r)
def tB (ts : List Tk) : ByteArray := ⟨(jT ts).toArray⟩
theorem jT_app : ∀ (x y : List Tk), x ≠ [] → y ≠ [] → jT (x ++ y) = jT x ++ 32 :: jT y
  | [], _, h, _ => absurd rfl h
  | [a], y, _, hy => by
    cases y with
    | nil => exact absurd rfl hy
    | cons b r => rfl
  | a :: b :: r, y, _, hy => by
    show a.s.data.toList ++ 32 :: jT ((b :: r) ++ y) = (a.s.data.toList ++ 32 :: jT (b :: r)) ++ 32 :: jT y
    rw [jT_app (b :: r) y (by simp) hy, List.append_assoc]
    rfl
theorem ba_list (a b : ByteArray) (h : a.data.toList = b.data.toList) : a = b := by
  obtain ⟨⟨x⟩⟩ := a
  obtain ⟨⟨y⟩⟩ := b
  have : x = y := h
  rw [this]
theorem app_list (a b : ByteArray) : (a ++ b).data.toList = a.data.toList ++ b.data.toList := by
  rw [ByteArray.data_append, Array.toList_append]
theorem tB_list (ts : List Tk) : (tB ts).data.toList = jT ts := rfl
theorem tB_app {x y : List Tk} (hx : x ≠ []) (hy : y ≠ []) : tB (x ++ y) = tB x ++ ⟨#[32]⟩ ++ tB y := by
  refine ba_list _ _ ?_
  rw [app_list, app_list, tB_list, tB_list, tB_list, jT_app x y hx hy, List.append_assoc]
  rfl
theorem tB_one (a : Tk) : tB [a] = a.s := ba_list _ _ rfl
theorem tB_mid {x y : List Tk} (k : ByteArray) (hx : x ≠ []) (hy : y ≠ []) : tB (x ++ ky k :: y) = tB x ++ (⟨#[32]⟩ ++ k ++ ⟨#[32]⟩) ++ tB y := by
  have e : ky k :: y = [ky k] ++ y := rfl
  rw [tB_app hx (by simp), e, tB_app (by simp) hy, tB_one]
  refine ba_list _ _ ?_
  simp only [app_list, List.append_assoc]
  rfl
theorem tB_wi {ts : List Tk} (h : ts ≠ []) : tB (wi true ts) = ⟨#[40, 32]⟩ ++ tB ts ++ ⟨#[32, 41]⟩ := by
  have e : wi true ts = [ky kOpen] ++ (ts ++ [ky kShut]) := rfl
  rw [e, tB_app (by simp) (by simp [h]), tB_app h (by simp), tB_one, tB_one]
  refine ba_list _ _ ?_
  simp only [app_list, List.append_assoc]
  rfl
section
variable {nk lg : ByteArray → Bool}
theorem wi_ne {b : Bool} {ts : List Tk} (h : ts ≠ []) : wi b ts ≠ [] := by
  cases b with
  | false => exact h
  | true => intro e; cases e
theorem tk_ne {t : Tr} (h : isT nk lg t 1 = true) : tkT t ≠ [] := by
  cases ty_form h with
  | leaf k hk => rcases hk with rfl | rfl | rfl <;> (intro e; cases e)
  | name s hs => intro e; cases e
  | two k hk a b hA hB =>
    rcases hk with rfl | rfl
    · rw [tk_two5]; simp
    · rw [tk_two6]; simp
  | mu s hs c hc h0 => rw [tk_mu]; simp
theorem jT_le {m : Nat} : ∀ (ts : List Tk), (∀ t ∈ ts, t.s.size ≤ m) → (jT ts).length ≤ (m + 1) * ts.length
  | [], _ => Nat.le_refl _
  | [a], h => by
    have h1 := h a (by simp)
    have e : a.s.data.toList.length = a.s.size := Array.length_toList
    show a.s.data.toList.length ≤ (m + 1) * 1
    omega
  | a :: b :: r, h => by
    have h1 := h a (by simp)
    have ih := jT_le (b :: r) fun t ht => h t (List.mem_cons_of_mem _ ht)
    have e : a.s.data.toList.length = a.s.size := Array.length_toList
    show (a.s.data.toList ++ 32 :: jT (b :: r)).length ≤ (m + 1) * ((b :: r).length + 1)
    rw [List.length_append, List.length_cons, Nat.mul_succ]
    omega
theorem wi_mem {b : Bool} {ts : List Tk} {x : Tk} (h : x ∈ wi b ts) : x ∈ ts ∨ x = ky kOpen ∨ x = ky kShut := by
  cases b with
  | false => exact .inl h
  | true =>
    rcases List.mem_cons.1 h with h | h
    · exact .inr (.inl h)
    · rcases List.mem_append.1 h with h | h
      · exact .inl h
      · exact .inr (.inr (List.mem_singleton.1 h))
end
end Go.Proofs.YthonaeigacfmbaaGreatDoor
namespace Go.Proofs.YthonaeigacfmbaaGreatDoor
section
variable {nk lg : ByteArray → Bool}
def Few (ts : List Tk) (n : Nat) : Prop := ts.length ≤ n ∧ ∀ x ∈ ts, x.s.size ≤ 128
theorem Few.more {ts : List Tk} {n m : Nat} (h : Few ts n) (hm : n ≤ m) : Few ts m := ⟨Nat.le_trans h.1 hm, h.2⟩
theorem Few.one {x : Tk} (h : x.s.size ≤ 128) : Few [x] 1 := ⟨Nat.le_refl _, fun y hy => by rw [List.mem_singleton.1 hy]; exact h⟩
theorem Few.app {a b : List Tk} {n m : Nat} (ha : Few a n) (hb : Few b m) : Few (a ++ b) (n + m) := ⟨by rw [List.length_append]; have := ha.1; have := hb.1; omega, fun x hx => by
  rcases List.mem_append.1 hx with h | h
  · exact ha.2 x h
  · exact hb.2 x h⟩
theorem Few.cons {x : Tk} {b : List Tk} {m : Nat} (h : x.s.size ≤ 128) (hb : Few b m) : Few (x :: b) (m + 1) := ⟨by rw [List.length_cons]; have := hb.1; omega, fun y hy => by
  rcases List.mem_cons.1 hy with rfl | hy
  · exact h
  · exact hb.2 y hy⟩
theorem Few.wi {b : Bool} {ts : List Tk} {n : Nat} (h : Few ts n) : Few (wi b ts) (n + 2) := by
  cases b with
  | false => exact h.more (by omega)
  | true => exact ((Few.app h (Few.one (by decide : (ky kShut).s.size ≤ 128))).cons (by decide : (ky kOpen).s.size ≤ 128)).more (by omega)
theorem few_bars : ∀ (f : Fr), ConOk nk lg f → (∀ s, nk s = true → s.size ≤ 128) → (∀ t, szT t < f.sz → isT nk lg t 1 = true → Few (tkT t) (5 * szT t)) → Few (bars ((tkF f).map (·.2))) (5 * f.sz)
  | .nil, _, _, _ => ⟨Nat.le_refl _, fun _ h => by cases h⟩
  | .cons x k r, hok, hn, ih => by
    have h8 : isT nk lg (x, k) 8 = true := by
      have h : (isT nk lg (x, k) 8 && (infF nk lg r).all fun i => i.is 8) = true := hok.1
      rw [Bool.and_eq_true] at h
      exact h.1
    have hr : ConOk nk lg r := by
      have h : (isT nk lg (x, k) 8 && (infF nk lg r).all fun i => i.is 8) = true := hok.1
      have h' : (((infF nk lg r).all fun j => decide (x.a ≠ j.a)) && apartA (infF nk lg r)) = true := hok.2
      rw [Bool.and_eq_true] at h h'
      exact ⟨h.2, h'.2⟩
    obtain ⟨s, u, hxu, hs, hu⟩ := con_form h8
    injection hxu with h1 h2
    subst h1; subst h2
    have hz : (Fr.cons ⟨8, 0, s, nob⟩ (fr1 u) r).sz = 1 + szT u + r.sz := by unfold szT; simp only [fr1, Fr.sz]; omega
    have fu := ih u (by omega) hu
    have f1 : Few (nmT s :: ky kOf :: tkT u) (5 * szT u + 2) := ((fu.cons (by decide : (ky kOf).s.size ≤ 128)).cons (hn s hs : (nmT s).s.size ≤ 128)).more (by omega)
    cases r with
    | nil => exact f1.more (by rw [hz]; omega)
    | cons y m q =>
      have f2 := few_bars (.cons y m q) hr hn (fun t ht => ih t (by omega))
      exact (f1.app (f2.cons (by decide : (ky kBar).s.size ≤ 128))).more (by rw [hz]; omega)
theorem few_all (hn : ∀ s, nk s = true → s.size ≤ 128) (hg : ∀ s, lg s = true → s.size ≤ 128) : ∀ (n : Nat) (t : Tr), szT t ≤ n → isT nk lg t 1 = true → Few (tkT t) (5 * szT t)
  | 0, t, h, _ => absurd h (by unfold szT; omega)
  | n + 1, t, h, ht => by
    have ih := few_all hn hg n
    cases ty_form ht with
    | leaf k hk =>
      have e : szT (nd k nob .nil) = 1 := rfl
      rw [e]
      rcases hk with rfl | rfl | rfl
      · exact (Few.one (by decide : (ky kInt).s.size ≤ 128)).more (by omega)
      · exact (Few.one (by decide : (ky kBool).s.size ≤ 128)).more (by omega)
      · exact (Few.one (by decide : (ky kUnit).s.size ≤ 128)).more (by omega)
    | name s hs => exact (Few.one (hg s hs : (nmT s).s.size ≤ 128)).more (by show 1 ≤ 5 * 1; omega)
    | two k hk a b hA hB =>
      have hz : szT (nd k nob (fr2 a b)) = 1 + (szT a + szT b) := by unfold szT; simp only [nd, fr2, fr1, Fr.sz]; omega
      have fA := ih a (by omega) hA
      have fB := ih b (by omega) hB
      rcases hk with rfl | rfl
      · rw [tk_two5]
        exact (fA.wi.app (fB.cons (by decide : (ky kArrow).s.size ≤ 128))).more (by omega)
      · rw [tk_two6]
        exact (fA.wi.app (fB.wi.cons (by decide : (ky kStar).s.size ≤ 128))).more (by omega)
    | mu s hs c hc h0 =>
      rw [tk_mu]
      have hz : szT (nd 7 s c) = 1 + c.sz := rfl
      have fc := few_bars c hc hn (fun t ht h1 => ih t (by omega) h1)
      exact ((((fc.app (Few.one (by decide : (ky kRight).s.size ≤ 128))).cons (by decide : (ky kLeft).s.size ≤ 128)).cons (hn s hs : (nmT s).s.size ≤ 128)).cons (by decide : (ky kMu).s.size ≤ 128)).more (by omega)
theorem text_le (hn : ∀ s, nk s = true → s.size ≤ 128) (hg : ∀ s, lg s = true → s.size ≤ 128) {t : Tr} (h : isT nk lg t 1 = true) : (tB (tkT t)).size ≤ 645 * szT t := by
  have f := few_all hn hg _ t (Nat.le_refl _) h
  have h1 := jT_le (m := 128) (tkT t) f.2
  have e : (tB (tkT t)).size = (jT (tkT t)).length := by show (jT (tkT t)).toArray.size = _; simp
  have h2 := f.1
  rw [e]
  omega
end
end Go.Proofs.YthonaeigacfmbaaGreatDoor
namespace Go.Proofs.YthonaeigacfmbaaGreatDoor
open Go.RowKit

def Up (W w : World) : Prop := Below W.heap.size W w
theorem Up.refl (W : World) : Up W W := Below.refl _ _
theorem Up.trans {W a b : World} (h : Up W a) (k : Up a b) : Up W b := Below.trans h (Below.mono k h.size)
theorem Up.of {W a b : World} (h : Up W a) (k : Below a.heap.size a b) : Up W b := h.trans k
theorem Up.drew {W a : World} (h : Up W a) : Up W a.drew := Below.drew h
theorem Up.drewN {W a : World} (h : Up W a) (q : Nat) : Up W (a.drewN q) := below_drewN' h q
theorem Up.alloc {W a : World} (h : Up W a) (o : Obj) : Up W (a.alloc o) := Below.alloc h h.size o
theorem Up.cell {W a : World} (h : Up W a) {p : Addr} {v : Value} (k : W.cell? p = some v) : a.cell? p = some v := (Below.cell h (cell_lt k)).trans k
theorem Up.row {W a : World} (h : Up W a) {b : Nat} {o : Obj} (k : W.heap[b]? = some o) : a.heap[b]? = some o := (h.block b (heap_lt k)).trans k
def HasT (w : World) (v : Value) (o : Option Tr) : Prop := InO w (fun q => q < w.heap.size) v o
theorem HasT.of {w : World} {S : Nat → Prop} {v : Value} {o : Option Tr} (h : InO w S v o) (hb : Bel S w.heap.size) : HasT w v o := h.keep hb fun _ _ => rfl
theorem HasT.up {W w : World} {v : Value} {o : Option Tr} (h : HasT W v o) (u : Up W w) : HasT w v o := InO.keep h (fun _ hq => Nat.lt_of_lt_of_le hq u.size) fun b hb => u.block b hb
theorem HasT.bel {w : World} : Bel (fun q => q < w.heap.size) w.heap.size := fun _ h => h
theorem sin_bel' {S : Nat → Prop} {w w' : World} (hS : Bel S w.heap.size) (h : w.heap.size ≤ w'.heap.size) : Bel (Sin S w w') w'.heap.size := fun q hq => by
  rcases hq with hq | hq
  · exact Nat.lt_of_lt_of_le (hS q hq) h
  · exact hq.2
theorem no_bel (n : Nat) : Bel No n := fun _ h => h.elim

structure Upw (W : World) where
  w : World
  h : Up W w
instance (W : World) : Nonempty (Upw W) := ⟨⟨W, Up.refl W⟩⟩
theorem Upw.cell {W : World} {p : Addr} {v : Value} (k : W.cell? p = some v) (u : Upw W) : u.w.cell? p = some v := u.h.cell k
theorem Calls.upw {P : Program} {f : FuncId} {args : Array Value} {W : World} {u : Upw W} {v : Value} (h : Calls P f args u.w fun e w' => e = .returned v ∧ Up W w') :
    Calls P f args u.w fun e w'' => e = .returned v ∧ ∃ u' : Upw W, w'' = u'.w := h.mono fun _ w' ⟨he, hu⟩ => ⟨he, ⟨w', hu⟩, rfl⟩
theorem wp_region_up {P : Program} {id : Nat} {Q : Exit → Act → World → Prop} {a : Act} {W w : World} {l : List Oper} (hu : Up W w) (hm : P.follows .mixedOrders = true) (hB : Region.lexB .any l.toArray = true)
    (h : wpQuiet P l.toArray (fun w' => ∃ u : Upw W, w' = u.w) (fun a' => ∀ w', (∃ u : Upw W, w' = u.w) → Q .normal a' w') l a) : (Code.region id l.toArray true).wp P Q a w :=
  wp_region_quiet (C := fun w' => ∃ u : Upw W, w' = u.w) hm hB ⟨⟨_, hu.drew⟩, rfl⟩ (by simpa using h)
def BoP (b : Bool) (W : World) (e : Ending) (w' : World) : Prop := e = .returned (.bool b) ∧ Up W w'
def NuP (n : Nat) (W : World) (e : Ending) (w' : World) : Prop := e = .returned (.int .i64 (n : Int)) ∧ Up W w'
end Go.Proofs.YthonaeigacfmbaaGreatDoor
