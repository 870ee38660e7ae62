/-
  Plain definitions, without the program: which trees are source, by the table of the chapter: each form a row.
-/
import Derived.Test.YtoejegndbcbkmaaCel
namespace Go.Proofs.Ytoejegndbcbkmaa

/-- A form: its category, its Kind, what the two texts are, what N is, and what the kids are. -/
structure Rw where
  cat : Int
  kind : Int
  nm : List UInt8
  mr : List UInt8
  fr : Int
  to : Int
  ks : List UInt8
def RWS : List Rw := [
  ⟨1, 1, [], [], 0, 0, []⟩, ⟨1, 2, [], [], 0, 0, []⟩, ⟨1, 3, [], [], 0, 0, []⟩, ⟨1, 4, [108], [], 0, 0, []⟩,
  ⟨1, 5, [], [], 0, 0, [116, 116]⟩, ⟨1, 6, [], [], 0, 0, [116, 116]⟩, ⟨1, 7, [110], [], 0, 0, [67]⟩,
  ⟨2, 20, [], [], -1073741824, 1073741824, []⟩, ⟨2, 21, [], [], 0, 1, []⟩, ⟨2, 22, [], [], 0, 0, []⟩, ⟨2, 23, [108], [], 0, 0, []⟩,
  ⟨2, 24, [110], [], 0, 0, [116, 101]⟩, ⟨2, 25, [], [], 0, 0, [101, 101]⟩, ⟨2, 26, [], [], 0, 0, [101, 101]⟩, ⟨2, 27, [], [], 0, 0, [101]⟩,
  ⟨2, 28, [], [], 0, 0, [101]⟩, ⟨2, 29, [110], [], 0, 0, [101, 101]⟩, ⟨2, 30, [], [], 0, 0, [101, 101, 101]⟩, ⟨2, 31, [], [], 1, 5, [101, 101]⟩,
  ⟨2, 32, [], [], 0, 0, [101, 65]⟩, ⟨2, 33, [], [], 0, 0, [101, 116, 65]⟩,
  ⟨3, 40, [], [], 0, 0, [42, 105]⟩, ⟨3, 41, [108], [], 0, 0, []⟩, ⟨3, 42, [110], [], 0, 0, [109]⟩, ⟨3, 43, [], [], 0, 1, [109, 115]⟩,
  ⟨4, 50, [], [], 0, 0, [42, 112]⟩, ⟨4, 51, [110], [], 0, 0, []⟩, ⟨4, 52, [108], [], 0, 0, [115, 116]⟩,
  ⟨5, 60, [110], [], 0, 0, [116]⟩, ⟨5, 61, [110], [], 0, 0, [116]⟩, ⟨5, 61, [110], [], 0, 0, []⟩, ⟨5, 62, [110], [], 0, 0, [67]⟩,
  ⟨5, 63, [110], [], 0, 0, [115]⟩, ⟨5, 64, [], [], 0, 0, [115]⟩, ⟨5, 65, [108], [108], 0, 0, []⟩,
  ⟨6, 70, [110], [], 0, 0, [101]⟩, ⟨6, 70, [110], [], 0, 0, [116, 101]⟩, ⟨6, 71, [110], [], 0, 0, [116]⟩, ⟨6, 72, [110], [], 0, 0, [67]⟩,
  ⟨6, 73, [110], [], 0, 0, [109]⟩, ⟨6, 74, [110], [], 0, 0, [115]⟩, ⟨6, 75, [110], [110], 0, 0, [115, 109]⟩, ⟨6, 76, [108], [], 0, 0, []⟩, ⟨6, 77, [108], [], 0, 0, []⟩,
  ⟨7, 80, [], [], 0, 0, [42, 100]⟩,
  ⟨8, 8, [110], [], 0, 0, [116]⟩, ⟨9, 34, [110], [110], 0, 0, [101]⟩]
def isEmp (s : ByteArray) : Bool := decide (s.size = 0)
/-- Is a text what a row asks? -/
def wordR (nk lg : ByteArray → Bool) (s : ByteArray) (w : List UInt8) : Bool := if w = [110] then nk s else if w = [108] then lg s else isEmp s
/-- The category that a sign asks. -/
def catOf (c : UInt8) : Int := if c = 116 then 1 else if c = 101 then 2 else if c = 109 then 3 else if c = 115 then 4 else if c = 112 then 5 else 6
/-- What is asked of a kid: its Kind, its Name, and of which categories it is. -/
structure Inf where
  k : Int
  a : ByteArray
  is : Int → Bool
def apartA : List Inf → Bool
  | [] => true
  | i :: l => l.all (fun j => decide (i.a ≠ j.a)) && apartA l
def seqOk : List Inf → List UInt8 → Bool
  | l, [] => l.isEmpty
  | l, c :: r =>
    if c = 42 then l.all fun i => i.is (catOf (r.headD 0)) && !(decide (r.headD 0 = 105) && (decide (i.k = 74) || decide (i.k = 75)))
    else if c = 67 then !l.isEmpty && (l.all fun i => i.is 8) && apartA l
    else if c = 65 then !l.isEmpty && l.all fun i => i.is 9
    else match l with
      | [] => false
      | i :: t => i.is (catOf c) && seqOk t r
def fitR (nk lg : ByteArray → Bool) (x : Nod) (l : List Inf) (c : Int) (r : Rw) : Bool :=
  decide (r.cat = c) && decide (r.kind = x.k) && wordR nk lg x.a r.nm && wordR nk lg x.m r.mr && decide (r.fr ≤ x.n) && decide (x.n ≤ r.to) && seqOk l r.ks
def isX (nk lg : ByteArray → Bool) (x : Nod) (l : List Inf) (c : Int) : Bool := RWS.any (fitR nk lg x l c)
def infF (nk lg : ByteArray → Bool) : Fr → List Inf
  | .nil => []
  | .cons x k r => ⟨x.k, x.a, isX nk lg x (infF nk lg k)⟩ :: infF nk lg r
/-- Is a tree of a category (8: a constructor, 9: an arm)? -/
def isT (nk lg : ByteArray → Bool) (t : Tr) (c : Int) : Bool := isX nk lg t.1 (infF nk lg t.2) c
def infT (nk lg : ByteArray → Bool) (t : Tr) : Inf := ⟨t.1.k, t.1.a, isT nk lg t⟩
/-- What the calls of the layer tell of a tree. -/
def chk (nk lg : ByteArray → Bool) (o : Option Tr) (c : Int) : Int := match o with
  | none => 1
  | some t => if 8192 < szT t then 3 else if 60 < dpT t then 7 else if isT nk lg t c then 0 else 16

section
variable {nk lg : ByteArray → Bool}
theorem infF_len (f : Fr) : (infF nk lg f).length = f.len := by
  induction f with
  | nil => rfl
  | cons x k r _ ih => simp only [infF, List.length_cons, Fr.len, ih]
theorem infF_get (f : Fr) (i : Nat) : (infF nk lg f)[i]? = (f.get i).map (infT nk lg) := by
  induction f generalizing i with
  | nil => rfl
  | cons x k r _ ih =>
    cases i with
    | zero => rfl
    | succ i => exact ih i
theorem infF_app (a b : Fr) : infF nk lg (a.app b) = infF nk lg a ++ infF nk lg b := by
  induction a with
  | nil => rfl
  | cons x k r _ ih => simp only [Fr.app, infF, ih, List.cons_append]
theorem infF_set (f : Fr) (i : Nat) (t : Tr) : infF nk lg (f.set i t) = (infF nk lg f).set i (infT nk lg t) := by
  induction f generalizing i with
  | nil => rfl
  | cons x k r _ ih =>
    cases i with
    | zero => rfl
    | succ i => simp only [Fr.set, infF, List.set_cons_succ, ih]
theorem isX_row {x : Nod} {l : List Inf} {c : Int} : isX nk lg x l c = true ↔ ∃ r ∈ RWS, fitR nk lg x l c r = true := by
  unfold isX
  rw [List.any_eq_true]
theorem fitR_is {x : Nod} {l : List Inf} {c : Int} {r : Rw} : fitR nk lg x l c r = true ↔ r.cat = c ∧ r.kind = x.k ∧ wordR nk lg x.a r.nm = true ∧ wordR nk lg x.m r.mr = true ∧ r.fr ≤ x.n ∧ x.n ≤ r.to ∧ seqOk l r.ks = true := by
  unfold fitR
  simp only [Bool.and_eq_true, decide_eq_true_iff, and_assoc]
/-- A Kind belongs to one category. -/
theorem rows_cat : ∀ r ∈ RWS, ∀ r' ∈ RWS, r.kind = r'.kind → r.cat = r'.cat := by decide
theorem is_one {t : Tr} {c c' : Int} (h : isT nk lg t c = true) (h' : isT nk lg t c' = true) : c = c' := by
  obtain ⟨r, hr, hf⟩ := isX_row.1 h
  obtain ⟨r', hr', hf'⟩ := isX_row.1 h'
  have a := fitR_is.1 hf
  have b := fitR_is.1 hf'
  rw [← a.1, ← b.1]
  exact rows_cat r hr r' hr' (a.2.1.trans b.2.1.symm)
/-- A category is one of nine. -/
theorem rows_nine : ∀ r ∈ RWS, 1 ≤ r.cat ∧ r.cat ≤ 9 := by decide
theorem is_nine {t : Tr} {c : Int} (h : isT nk lg t c = true) : 1 ≤ c ∧ c ≤ 9 := by
  obtain ⟨r, hr, hf⟩ := isX_row.1 h
  rw [← (fitR_is.1 hf).1]
  exact rows_nine r hr
theorem catOf_six (c : UInt8) : 1 ≤ catOf c ∧ catOf c ≤ 6 := by
  unfold catOf
  repeat' split
  all_goals omega
/-- Each kid of what has a form has one. -/
theorem seq_kid : ∀ (w : List UInt8) (l : List Inf), seqOk l w = true → ∀ i ∈ l, ∃ c, i.is c = true
  | [], l, h, i, hi => by
    have : l = [] := by simpa [seqOk] using h
    subst this
    cases hi
  | c :: r, l, h, i, hi => by
    unfold seqOk at h
    split at h
    · rw [List.all_eq_true] at h
      have := h i hi
      rw [Bool.and_eq_true] at this
      exact ⟨_, this.1⟩
    · split at h
      · simp only [Bool.and_eq_true, List.all_eq_true] at h
        exact ⟨8, h.1.2 i hi⟩
      · split at h
        · simp only [Bool.and_eq_true, List.all_eq_true] at h
          exact ⟨9, h.2 i hi⟩
        · cases l with
          | nil => cases hi
          | cons j t =>
            simp only [Bool.and_eq_true] at h
            rcases List.mem_cons.1 hi with rfl | hi
            · exact ⟨_, h.1⟩
            · exact seq_kid r t h.2 i hi
theorem is_kid {t u : Tr} {c : Int} {i : Nat} (h : isT nk lg t c = true) (hg : t.2.get i = some u) : ∃ c', isT nk lg u c' = true := by
  obtain ⟨r, _, hf⟩ := isX_row.1 h
  have hk := (fitR_is.1 hf).2.2.2.2.2.2
  have hm : infT nk lg u ∈ infF nk lg t.2 := List.mem_of_getElem? (i := i) (by rw [infF_get, hg]; rfl)
  exact seq_kid _ _ hk _ hm
/-- What lies in a tree that has a form has one. -/
theorem is_at : ∀ (p : List Int) (t u : Tr) (c : Int), isT nk lg t c = true → atT t p = some u → ∃ c', isT nk lg u c' = true
  | [], t, u, c, h, ha => by injection ha with ha; subst ha; exact ⟨c, h⟩
  | i :: p, t, u, c, h, ha => by
    unfold atT at ha
    cases hg : getZ t.2 i with
    | none => rw [hg] at ha; cases ha
    | some v =>
      rw [hg] at ha
      obtain ⟨c', hc⟩ := is_kid h (getZ_some hg).2
      exact is_at p v u c' hc ha
theorem rows_one : ∀ r ∈ RWS, r.cat = 8 ∨ r.cat = 9 → (r.kind = 8 ∨ r.kind = 34) ∧ (r.ks = [116] ∨ r.ks = [101]) := by decide
/-- Constructors and arms have one kid each. -/
theorem is_one_kid {t : Tr} {c : Int} (h : isT nk lg t c = true) (hc : c = 8 ∨ c = 9) : (t.1.k = 8 ∨ t.1.k = 34) ∧ t.2.len = 1 := by
  obtain ⟨r, hr, hf⟩ := isX_row.1 h
  have a := fitR_is.1 hf
  obtain ⟨h1, h2⟩ := rows_one r hr (by rw [a.1]; exact hc)
  refine ⟨by rw [← a.2.1]; exact h1, ?_⟩
  rw [← infF_len (nk := nk) (lg := lg)]
  have hs := a.2.2.2.2.2.2
  rcases h2 with h2 | h2 <;> rw [h2] at hs
  all_goals
    cases hl : infF nk lg t.2 with
    | nil => rw [hl] at hs; simp [seqOk] at hs
    | cons i l =>
      rw [hl] at hs
      simp [seqOk] at hs
      simp [hs.2]
end
end Go.Proofs.Ytoejegndbcbkmaa
/-
  Plain facts on forms: an expression put in the place of another one; a type put there.
-/
namespace Go.Proofs.Ytoejegndbcbkmaa

section
variable {nk lg : ByteArray → Bool}
/-- What is put in the place of a kid may stand there: it is all that the kid was, and has its Kind and Name, or the kid was an expression. -/
structure Heir (j0 j : Inf) : Prop where
  is : ∀ c, j0.is c = true → j.is c = true
  same : (j.k = j0.k ∧ j.a = j0.a) ∨ (j0.is 6 = false ∧ j0.is 8 = false)
theorem all_set {l : List Inf} {i : Nat} {j0 j : Inf} {P : Inf → Bool} (h : l.all P = true) (hi : l[i]? = some j0) (hj : P j0 = true → P j = true) : (l.set i j).all P = true := by
  rw [List.all_eq_true] at h ⊢
  intro x hx
  rcases List.mem_or_eq_of_mem_set hx with hx | rfl
  · exact h x hx
  · exact hj (h j0 (List.mem_of_getElem? hi))
theorem apart_set : ∀ {l : List Inf} {i : Nat} {j0 j : Inf}, apartA l = true → l[i]? = some j0 → j.a = j0.a → apartA (l.set i j) = true
  | [], _, _, _, _, hi, _ => by simp at hi
  | x :: l, 0, j0, j, h, hi, ha => by
    have : x = j0 := by simpa using hi
    subst this
    simp only [apartA, Bool.and_eq_true, List.set_cons_zero] at h ⊢
    rw [ha]
    exact h
  | x :: l, i + 1, j0, j, h, hi, ha => by
    simp only [apartA, Bool.and_eq_true, List.set_cons_succ] at h ⊢
    have hi : l[i]? = some j0 := by simpa using hi
    exact ⟨all_set h.1 hi (fun h => by rw [ha]; exact h), apart_set h.2 hi ha⟩
theorem empty_set {l : List Inf} {i : Nat} {j : Inf} (h : (!l.isEmpty) = true) : (!(l.set i j).isEmpty) = true := by
  cases l with
  | nil => exact h
  | cons x l => cases i <;> rfl
theorem seq_heir : ∀ (w : List UInt8) (l : List Inf) (i : Nat) (j0 j : Inf), seqOk l w = true → l[i]? = some j0 → Heir j0 j → seqOk (l.set i j) w = true
  | [], l, i, j0, j, h, hi, _ => by
    have : l = [] := by simpa [seqOk] using h
    subst this
    simp at hi
  | c :: r, l, i, j0, j, h, hi, hh => by
    unfold seqOk at h ⊢
    split at h
    · rename_i h1
      rw [if_pos h1]
      refine all_set h hi fun h => ?_
      simp only [Bool.and_eq_true, Bool.not_eq_true', Bool.and_eq_false_iff, decide_eq_false_iff_not] at h ⊢
      refine ⟨hh.is _ h.1, ?_⟩
      rcases hh.same with ⟨hk, _⟩ | ⟨h6, _⟩
      · rw [hk]; exact h.2
      · refine .inl fun e => ?_
        have h3 := h.1
        rw [e] at h3
        rw [show catOf 105 = 6 from rfl, h6] at h3
        cases h3
    · rename_i h1
      rw [if_neg h1]
      split at h
      · rename_i h2
        rw [if_pos h2]
        simp only [Bool.and_eq_true] at h ⊢
        refine ⟨⟨empty_set h.1.1, all_set h.1.2 hi (hh.is 8)⟩, ?_⟩
        rcases hh.same with ⟨_, ha⟩ | ⟨_, h8⟩
        · exact apart_set h.2 hi ha
        · have := List.all_eq_true.1 h.1.2 j0 (List.mem_of_getElem? hi)
          rw [h8] at this
          cases this
      · rename_i h2
        rw [if_neg h2]
        split at h
        · rename_i h3
          rw [if_pos h3]
          simp only [Bool.and_eq_true] at h ⊢
          exact ⟨empty_set h.1, all_set h.2 hi (hh.is 9)⟩
        · rename_i h3
          rw [if_neg h3]
          cases l with
          | nil => cases h
          | cons x t =>
            simp only [Bool.and_eq_true] at h
            cases i with
            | zero =>
              have : x = j0 := by simpa using hi
              subst this
              simp only [List.set_cons_zero, Bool.and_eq_true]
              exact ⟨hh.is _ h.1, h.2⟩
            | succ i =>
              simp only [List.set_cons_succ, Bool.and_eq_true]
              exact ⟨h.1, seq_heir r t i j0 j h.2 (by simpa using hi) hh⟩
theorem isX_heir {x : Nod} {l : List Inf} {i : Nat} {j0 j : Inf} (hi : l[i]? = some j0) (hh : Heir j0 j) {c : Int} (h : isX nk lg x l c = true) : isX nk lg x (l.set i j) c = true := by
  obtain ⟨r, hr, hf⟩ := isX_row.1 h
  have a := fitR_is.1 hf
  exact isX_row.2 ⟨r, hr, fitR_is.2 ⟨a.1, a.2.1, a.2.2.1, a.2.2.2.1, a.2.2.2.2.1, a.2.2.2.2.2.1, seq_heir _ _ _ _ _ a.2.2.2.2.2.2 hi hh⟩⟩
theorem is_only {t : Tr} {c c' : Int} (h : isT nk lg t c = true) (hc : c ≠ c') : isT nk lg t c' = false := by
  cases h' : isT nk lg t c' with
  | false => rfl
  | true => exact absurd (is_one h h') hc
theorem with_root (t : Tr) (i : Int) (p : List Int) (s : Tr) : (withT t (i :: p) s).1 = t.1 := by
  rw [withT_cons]
  split <;> rfl
/-- An expression put in the place of another one: the form stays. -/
theorem put_expr : ∀ (p : List Int) (t s e : Tr) (c : Int), isT nk lg t c = true → atT t p = some e → isT nk lg e 2 = true → isT nk lg s 2 = true → isT nk lg (withT t p s) c = true
  | [], t, s, e, c, h, ha, he, hs => by
    injection ha with ha
    subst ha
    rw [is_one h he]
    exact hs
  | i :: p, t, s, e, c, h, ha, he, hs => by
    unfold atT at ha
    cases hg : getZ t.2 i with
    | none => rw [hg] at ha; cases ha
    | some v =>
      rw [hg] at ha
      have ih := fun c' hc => put_expr p v s e c' hc ha he hs
      rw [withT_some p s hg]
      unfold isT
      rw [infF_set]
      refine isX_heir (j0 := infT nk lg v) (j := infT nk lg (withT v p s)) (by rw [infF_get, (getZ_some hg).2]; rfl) (Heir.mk (fun c' hc => ih c' hc) ?_) h
      cases p with
      | nil =>
        injection ha with ha
        subst ha
        exact .inr ⟨show isT nk lg v 6 = false from is_only he (by decide), show isT nk lg v 8 = false from is_only he (by decide)⟩
      | cons k p =>
        refine .inl ⟨?_, ?_⟩
        · show (withT v (k :: p) s).1.k = v.1.k
          rw [with_root]
        · show (withT v (k :: p) s).1.a = v.1.a
          rw [with_root]
/-- Two things that may stand at one place have a category in common. -/
theorem seq_clash : ∀ (w : List UInt8) (l : List Inf) (i : Nat) (j0 j : Inf), seqOk l w = true → seqOk (l.set i j) w = true → l[i]? = some j0 → ∃ c, j0.is c = true ∧ j.is c = true
  | [], l, i, j0, j, h, _, hi => by
    have : l = [] := by simpa [seqOk] using h
    subst this
    simp at hi
  | c :: r, l, i, j0, j, h, h', hi => by
    have hm0 := List.mem_of_getElem? hi
    have hlt := (List.getElem?_eq_some_iff.1 hi).1
    have hm : j ∈ l.set i j := List.mem_of_getElem? (i := i) (by rw [List.getElem?_set_self hlt])
    unfold seqOk at h h'
    split at h
    · rename_i h1
      rw [if_pos h1] at h'
      have a := List.all_eq_true.1 h j0 hm0
      have b := List.all_eq_true.1 h' j hm
      simp only [Bool.and_eq_true] at a b
      exact ⟨_, a.1, b.1⟩
    · rename_i h1
      rw [if_neg h1] at h'
      split at h
      · rename_i h2
        rw [if_pos h2] at h'
        simp only [Bool.and_eq_true] at h h'
        exact ⟨8, List.all_eq_true.1 h.1.2 j0 hm0, List.all_eq_true.1 h'.1.2 j hm⟩
      · rename_i h2
        rw [if_neg h2] at h'
        split at h
        · rename_i h3
          rw [if_pos h3] at h'
          simp only [Bool.and_eq_true] at h h'
          exact ⟨9, List.all_eq_true.1 h.2 j0 hm0, List.all_eq_true.1 h'.2 j hm⟩
        · rename_i h3
          rw [if_neg h3] at h'
          cases l with
          | nil => cases h
          | cons x t =>
            simp only [Bool.and_eq_true] at h
            cases i with
            | zero =>
              have : x = j0 := by simpa using hi
              subst this
              simp only [List.set_cons_zero, Bool.and_eq_true] at h'
              exact ⟨_, h.1, h'.1⟩
            | succ i =>
              simp only [List.set_cons_succ, Bool.and_eq_true] at h'
              exact seq_clash r t i j0 j h.2 h'.2 (by simpa using hi)
def plainW (w : List UInt8) : Bool := w.all fun c => decide (c ≠ 42) && decide (c ≠ 67) && decide (c ≠ 65)
theorem seq_len : ∀ (w : List UInt8) (l : List Inf), plainW w = true → seqOk l w = true → l.length = w.length
  | [], l, _, h => by
    have : l = [] := by simpa [seqOk] using h
    subst this
    rfl
  | c :: r, l, hw, h => by
    unfold plainW at hw
    simp only [List.all_cons, Bool.and_eq_true, decide_eq_true_iff] at hw
    unfold seqOk at h
    rw [if_neg hw.1.1.1, if_neg hw.1.1.2, if_neg hw.1.2] at h
    cases l with
    | nil => cases h
    | cons x t =>
      simp only [Bool.and_eq_true] at h
      rw [List.length_cons, List.length_cons, seq_len r t hw.2 h.2]
theorem rows_ks : ∀ r ∈ RWS, ∀ r' ∈ RWS, r.kind = r'.kind → r.ks = r'.ks ∨ (plainW r.ks = true ∧ plainW r'.ks = true ∧ r.ks.length ≠ r'.ks.length) := by decide
/-- Something of another category in the place of what has one: what it lies in has none. -/
theorem put_other : ∀ (p : List Int) (t s e : Tr) (c c1 c2 : Int), isT nk lg t c = true → atT t p = some e → isT nk lg e c1 = true → isT nk lg s c2 = true → c1 ≠ c2 → p ≠ [] → ∀ c', isT nk lg (withT t p s) c' = false
  | [], _, _, _, _, _, _, _, _, _, _, _, hp, _ => absurd rfl hp
  | i :: p, t, s, e, c, c1, c2, h, ha, he, hs, hne, _, c' => by
    unfold atT at ha
    cases hg : getZ t.2 i with
    | none => rw [hg] at ha; cases ha
    | some v =>
      rw [hg] at ha
      rw [withT_some p s hg]
      cases h' : isT nk lg (t.1, t.2.set i.toNat (withT v p s)) c' with
      | false => rfl
      | true =>
        exfalso
        have hgi := (getZ_some hg).2
        cases p with
        | nil =>
          injection ha with ha
          subst ha
          obtain ⟨r, hr, hf⟩ := isX_row.1 h
          unfold isT at h'
          rw [infF_set] at h'
          obtain ⟨r', hr', hf'⟩ := isX_row.1 h'
          have a := fitR_is.1 hf
          have b := fitR_is.1 hf'
          have hsq := a.2.2.2.2.2.2
          have hsq' := b.2.2.2.2.2.2
          rcases rows_ks r hr r' hr' (a.2.1.trans b.2.1.symm) with hk | ⟨k1, k2, k3⟩
          · rw [← hk] at hsq'
            obtain ⟨d, d1, d2⟩ := seq_clash _ _ _ (infT nk lg v) _ hsq hsq' (by rw [infF_get, hgi]; rfl)
            have e1 := is_one he d1
            have e2 := is_one hs d2
            exact hne (e1.trans e2.symm)
          · have l1 := seq_len _ _ k1 hsq
            have l2 := seq_len _ _ k2 hsq'
            rw [List.length_set] at l2
            exact k3 (l1.symm.trans l2)
        | cons k p =>
          obtain ⟨cv, hv⟩ := is_kid h hgi
          have ih := put_other (k :: p) v s e cv c1 c2 hv ha he hs hne (by simp)
          obtain ⟨d, hd⟩ := is_kid (t := (t.1, t.2.set i.toNat (withT v (k :: p) s))) h' (Fr.get_set _ _ _ (Fr.get_lt hgi))
          rw [ih d] at hd
          cases hd
/-- A leaf in the place of a leaf: the depth stays. -/
theorem Fr.dp_set {f : Fr} {i : Nat} {t u : Tr} (h : f.get i = some u) (hd : dpT t = dpT u) : (f.set i t).dp = f.dp := by
  induction f generalizing i with
  | nil => cases h
  | cons x k r _ ih =>
    cases i with
    | zero =>
      injection h with h
      subst h
      unfold dpT at hd
      simp only at hd
      simp only [Fr.set, Fr.dp]
      omega
    | succ i => simp only [Fr.set, Fr.dp, ih h]
theorem with_dp : ∀ (p : List Int) (t s u : Tr), atT t p = some u → dpT s = dpT u → dpT (withT t p s) = dpT t
  | [], t, s, u, h, hd => by injection h with h; subst h; exact hd
  | i :: p, t, s, u, h, hd => by
    unfold atT at h
    cases hg : getZ t.2 i with
    | none => rw [hg] at h; cases h
    | some v =>
      rw [hg] at h
      rw [withT_some p s hg]
      unfold dpT
      simp only
      rw [Fr.dp_set (getZ_some hg).2 (with_dp p v s u h hd)]
/-- What has the Kind of the empty expression, and a form, is one, and a leaf. -/
theorem rows_unit : ∀ r ∈ RWS, r.kind = 22 → r.cat = 2 ∧ r.ks = [] := by decide
theorem unit_leaf {t : Tr} {c : Int} (h : isT nk lg t c = true) (hk : t.1.k = 22) : isT nk lg t 2 = true ∧ dpT t = 1 ∧ szT t = 1 := by
  obtain ⟨r, hr, hf⟩ := isX_row.1 h
  have a := fitR_is.1 hf
  obtain ⟨h1, h2⟩ := rows_unit r hr (a.2.1.trans hk)
  have hc : c = 2 := by rw [← a.1]; exact h1
  subst hc
  have hs := a.2.2.2.2.2.2
  rw [h2] at hs
  have hl : (infF nk lg t.2).length = 0 := by simpa [seqOk] using hs
  rw [infF_len] at hl
  have hn : t.2 = .nil := by
    cases ht : t.2 with
    | nil => rfl
    | cons x k r => rw [ht] at hl; simp [Fr.len] at hl
  refine ⟨h, ?_, ?_⟩
  · unfold dpT; rw [hn]; rfl
  · unfold szT; rw [hn]; rfl
end
end Go.Proofs.Ytoejegndbcbkmaa
/-
  Plain facts on forms: what a row's word says of kids, place by place; names of nodes that are not too long; which words stand in the table.
-/
namespace Go.Proofs.Ytoejegndbcbkmaa

theorem apart_iff : ∀ {l : List Inf}, apartA l = true ↔ ∀ (k i : Nat) (a b : Inf), k < i → l[k]? = some a → l[i]? = some b → a.a ≠ b.a
  | [] => ⟨fun _ k i a b _ h => by simp at h, fun _ => rfl⟩
  | x :: l => by
    unfold apartA
    rw [Bool.and_eq_true, List.all_eq_true, apart_iff (l := l)]
    refine ⟨fun ⟨h1, h2⟩ k i a b hk ha hb => ?_, fun h => ⟨fun j hj => ?_, fun k i a b hk ha hb => h (k + 1) (i + 1) a b (by omega) (by simpa using ha) (by simpa using hb)⟩⟩
    · cases i with
      | zero => omega
      | succ i =>
        have hb : l[i]? = some b := by simpa using hb
        cases k with
        | zero =>
          have : x = a := by simpa using ha
          subst this
          exact of_decide_eq_true (h1 b (List.mem_of_getElem? hb))
        | succ k => exact h2 k i a b (by omega) (by simpa using ha) hb
    · obtain ⟨i, hi⟩ := List.getElem?_of_mem hj
      exact decide_eq_true (h 0 (i + 1) x j (by omega) rfl (by simpa using hi))
/-- A word that stands in the table, or behind its first signs. -/
def goodW : List UInt8 → Bool
  | [] => true
  | c :: r => if c = 42 then !r.isEmpty else if c = 67 then true else if c = 65 then true else goodW r
theorem rows_good : ∀ r ∈ RWS, goodW r.ks = true ∧ r.ks.length ≤ 3 ∧ (r.nm = [] ∨ r.nm = [110] ∨ r.nm = [108]) ∧ (r.mr = [] ∨ r.mr = [110] ∨ r.mr = [108]) := by decide
theorem rows_num : RWS.length = 47 := by decide
def starOk (d : UInt8) (i : Inf) : Bool := i.is (catOf d) && !(decide (d = 105) && (decide (i.k = 74) || decide (i.k = 75)))
theorem seq_star (l : List Inf) (d : UInt8) (r : List UInt8) : seqOk l (42 :: d :: r) = l.all (starOk d) := by
  unfold seqOk
  rw [if_pos rfl]
  rfl
theorem all_no {l : List Inf} {P : Inf → Bool} {i : Nat} {j : Inf} (hi : l[i]? = some j) (h : P j = false) : l.all P = false := by
  rw [List.all_eq_false]
  exact ⟨j, List.mem_of_getElem? hi, by rw [h]; decide⟩
theorem all_yes {l : List Inf} {P : Inf → Bool} (h : ∀ (i : Nat) (j : Inf), l[i]? = some j → P j = true) : l.all P = true := by
  rw [List.all_eq_true]
  intro j hj
  obtain ⟨i, hi⟩ := List.getElem?_of_mem hj
  exact h i j hi
theorem seq_A (l : List Inf) (r : List UInt8) : seqOk l (65 :: r) = (decide (0 < l.length) && l.all fun i => i.is 9) := by
  cases l <;> rfl
theorem seq_C (l : List Inf) (r : List UInt8) : seqOk l (67 :: r) = (decide (0 < l.length) && (l.all fun i => i.is 8) && apartA l) := by
  cases l <;> rfl
theorem seq_C_no1 {l : List Inf} {r : List UInt8} {i : Nat} {j : Inf} (hi : l[i]? = some j) (h : j.is 8 = false) : seqOk l (67 :: r) = false := by
  rw [seq_C, all_no hi h, Bool.and_false, Bool.false_and]
theorem seq_C_no2 {l : List Inf} {r : List UInt8} {i k : Nat} {a b : Inf} (hk : k < i) (ha : l[k]? = some a) (hb : l[i]? = some b) (h : a.a = b.a) : seqOk l (67 :: r) = false := by
  rw [seq_C]
  have : apartA l = false := by
    cases hp : apartA l with
    | false => rfl
    | true => exact absurd h (apart_iff.1 hp k i a b hk ha hb)
  rw [this, Bool.and_false]
theorem seq_C_yes {l : List Inf} {r : List UInt8} (h : ∀ (i : Nat) (j : Inf), l[i]? = some j → j.is 8 = true ∧ ∀ (k : Nat) (a : Inf), k < i → l[k]? = some a → a.a ≠ j.a) : seqOk l (67 :: r) = decide (0 < l.length) := by
  rw [seq_C, all_yes fun i j hi => (h i j hi).1, apart_iff.2 fun k i a b hk ha hb => (h i b hb).2 k a hk ha, Bool.and_true, Bool.and_true]
theorem seq_A_no {l : List Inf} {r : List UInt8} {i : Nat} {j : Inf} (hi : l[i]? = some j) (h : j.is 9 = false) : seqOk l (65 :: r) = false := by
  rw [seq_A, all_no hi h, Bool.and_false]
theorem seq_A_yes {l : List Inf} {r : List UInt8} (h : ∀ (i : Nat) (j : Inf), l[i]? = some j → j.is 9 = true) : seqOk l (65 :: r) = decide (0 < l.length) := by
  rw [seq_A, all_yes fun i j hi => h i j hi, Bool.and_true]
theorem seq_sign {l : List Inf} {c : UInt8} {r : List UInt8} (h1 : c ≠ 42) (h2 : c ≠ 67) (h3 : c ≠ 65) : seqOk l (c :: r) = (match l with | [] => false | i :: t => i.is (catOf c) && seqOk t r) := by
  conv => lhs; unfold seqOk
  rw [if_neg h1, if_neg h2, if_neg h3]
  all_goals (cases l <;> rfl)
/-- All texts of a row of trees are short enough to be asked. -/
def okS : Fr → Prop
  | .nil => True
  | .cons x k r => x.a.size ≤ 1000000000 ∧ x.m.size ≤ 1000000000 ∧ okS k ∧ okS r
def okST (t : Tr) : Prop := t.1.a.size ≤ 1000000000 ∧ t.1.m.size ≤ 1000000000 ∧ okS t.2
theorem okS_get : ∀ {f : Fr} {i : Nat} {t : Tr}, okS f → f.get i = some t → okST t
  | .nil, _, _, _, h => by cases h
  | .cons x k r, 0, t, h, hg => by injection hg with hg; subst hg; exact ⟨h.1, h.2.1, h.2.2.1⟩
  | .cons x k r, i + 1, t, h, hg => okS_get h.2.2.2 hg
end Go.Proofs.Ytoejegndbcbkmaa
