/-
  Plain facts, without the program: tokens stand behind one another; what stands behind a blank changes nothing ahead of it; blanks and comments change nothing but places.
-/
import Derived.Test.YteennkekpblccaaGreatDoorNum
import Derived.Test.YteennkekpblccaaGreatDoorSpl
namespace Go.Proofs.YteennkekpblccaaGreatDoor
open Go.Lib

/-! ### where blanks and comments end -/
theorem cnt_drop (f : Nat → Bool) (l : List Nat) : cnt f (l.drop (cnt f l)) = 0 := by
  induction l with
  | nil => rfl
  | cons r t ih =>
    cases h : f r
    · simp [cnt, h]
    · simpa [cnt, h] using ih
theorem cnt_app {f : Nat → Bool} {l : List Nat} (h : cnt f l < l.length) (y : List Nat) : cnt f (l ++ y) = cnt f l := by
  induction l with
  | nil => simp at h
  | cons r t ih =>
    cases hr : f r
    · simp [cnt, hr]
    · simp [cnt, hr] at h ⊢
      exact ih h
theorem cnt_all {f : Nat → Bool} {l : List Nat} (h : ∀ r ∈ l, f r = true) (y : List Nat) : cnt f (l ++ y) = l.length + cnt f y := by
  induction l with
  | nil => simp
  | cons r t ih =>
    have hr := h r (by simp)
    have := ih (fun x hx => h x (by simp [hx]))
    simp [cnt, hr, this]
    omega
theorem cnt_full {f : Nat → Bool} {l : List Nat} (h : cnt f l = l.length) : ∀ r ∈ l, f r = true := by
  have := cnt_take (f := f) l
  rw [h, List.take_length] at this
  exact this
theorem btw_stop : ∀ (n : Nat) (l : List Nat), l.length ≤ n → cnt blk (l.drop (btw l)) = 0 ∧ cmt (l.drop (btw l)) = 0
  | n, l, hn => by
    by_cases h : cmt (l.drop (cnt blk l)) = 0
    · rw [btw_end h]
      exact ⟨cnt_drop blk l, h⟩
    · rw [btw_step h, ← List.drop_drop]
      have h1 := cmt_le (l.drop (cnt blk l))
      have h2 := cnt_le blk l
      simp only [List.length_drop] at h1
      cases n with
      | zero => omega
      | succ n => exact btw_stop n _ (by simp only [List.length_drop]; omega)
theorem btw_zero {d : List Nat} (h1 : cnt blk d = 0) (h2 : cmt d = 0) : btw d = 0 := by
  rw [btw_end (by rw [h1]; exact h2), h1]
theorem btw_idem (l : List Nat) : btw (l.drop (btw l)) = 0 := by
  obtain ⟨h1, h2⟩ := btw_stop l.length l (Nat.le_refl _)
  exact btw_zero h1 h2

theorem pre_app {x l y : List Nat} (h : x.isPrefixOf l = true) : x.isPrefixOf (l ++ y) = true := by
  rw [List.isPrefixOf_iff_prefix] at h ⊢
  exact h.trans (List.prefix_append _ _)
theorem cm_app {d : Int} {last : Nat} {l : List Nat} {k : Nat} (h : cm d last l = some k) (y : List Nat) : cm d last (l ++ y) = some k := by
  induction l generalizing d last k with
  | nil => cases h
  | cons r t ih =>
    have key : ∀ {d' : Int} {last' : Nat}, (cm d' last' t).map (· + 1) = some k → (cm d' last' (t ++ y)).map (· + 1) = some k := by
      intro d' last' h
      obtain ⟨j, hj, rfl⟩ := Option.map_eq_some_iff.1 h
      rw [ih hj]
      rfl
    rw [List.cons_append]
    unfold cm at h ⊢
    by_cases c1 : last = 40 ∧ r = 42
    · rw [if_pos c1] at h ⊢
      by_cases c2 : d + 1 = 0
      · rw [if_pos c2] at h ⊢; exact h
      · rw [if_neg c2] at h ⊢; exact key h
    · rw [if_neg c1] at h ⊢
      by_cases c3 : last = 42 ∧ r = 41
      · rw [if_pos c3] at h ⊢
        by_cases c2 : d - 1 = 0
        · rw [if_pos c2] at h ⊢; exact h
        · rw [if_neg c2] at h ⊢; exact key h
      · rw [if_neg c3] at h ⊢; exact key h
theorem cmt_some {l : List Nat} (h : cmt l ≠ 0) : opens l = true ∧ cm 0 32 l = some (cmt l) := by
  unfold cmt at h ⊢
  cases ho : opens l
  · rw [ho] at h; exact absurd rfl h
  · refine ⟨rfl, ?_⟩
    rw [if_pos rfl]
    rw [ho, if_pos rfl] at h
    cases hc : cm 0 32 l with
    | none => rw [hc] at h; exact absurd rfl h
    | some k => rfl
theorem cmt_app {l : List Nat} (h : cmt l ≠ 0) (y : List Nat) : cmt (l ++ y) = cmt l := by
  obtain ⟨h1, h2⟩ := cmt_some h
  have h3 : opens (l ++ y) = true := pre_app h1
  have h4 := cm_app h2 y
  conv => lhs; unfold cmt
  rw [h3, if_pos rfl, h4]
  rfl
theorem cmt_nil : cmt [] = 0 := rfl

/-- Blanks and comments ahead of y are passed over. -/
theorem btw_absorb : ∀ (n : Nat) (z y : List Nat), z.length ≤ n → btw z = z.length → btw (z ++ y) = z.length + btw y
  | n, z, y, hn, hz => by
    by_cases hc : cnt blk z = z.length
    · have hall := cnt_full hc
      have h1 : cnt blk (z ++ y) = z.length + cnt blk y := cnt_all hall y
      have h2 : (z ++ y).drop (cnt blk (z ++ y)) = y.drop (cnt blk y) := by
        rw [h1, ← List.drop_drop, List.drop_left]
      by_cases h : cmt (y.drop (cnt blk y)) = 0
      · rw [btw_end h, btw_end (by rw [h2]; exact h), h1]
      · rw [btw_step h, btw_step (by rw [h2]; exact h), h2, h1]
        have h3 : (z ++ y).drop (z.length + cnt blk y + cmt (y.drop (cnt blk y))) = y.drop (cnt blk y + cmt (y.drop (cnt blk y))) := by
          rw [Nat.add_assoc, ← List.drop_drop, List.drop_left]
        rw [h3]
        omega
    · have hl := cnt_le blk z
      have hlt : cnt blk z < z.length := by omega
      have h1 := cnt_app hlt y
      have h2 : (z ++ y).drop (cnt blk z) = z.drop (cnt blk z) ++ y := List.drop_append_of_le_length hl
      by_cases h : cmt (z.drop (cnt blk z)) = 0
      · rw [btw_end h] at hz
        omega
      · have h3 := cmt_le (z.drop (cnt blk z))
        simp only [List.length_drop] at h3
        have h4 := btw_step h
        have h5 := cmt_app h y
        have h6 : (z ++ y).drop (cnt blk z + cmt (z.drop (cnt blk z))) = z.drop (cnt blk z + cmt (z.drop (cnt blk z))) ++ y := List.drop_append_of_le_length (by omega)
        have h7 : btw (z ++ y) = cnt blk z + cmt (z.drop (cnt blk z)) + btw (z.drop (cnt blk z + cmt (z.drop (cnt blk z))) ++ y) := by
          rw [btw_step (by rw [h1, h2, h5]; exact h), h1, h2, h5, h6]
        have h8 : btw (z.drop (cnt blk z + cmt (z.drop (cnt blk z)))) = (z.drop (cnt blk z + cmt (z.drop (cnt blk z)))).length := by
          rw [List.length_drop]; omega
        cases n with
        | zero => omega
        | succ n =>
          have ih := btw_absorb n (z.drop (cnt blk z + cmt (z.drop (cnt blk z)))) y (by rw [List.length_drop]; omega) h8
          rw [h7, ih, List.length_drop]
          omega
/-- Where a token begins, what stands behind changes nothing ahead of it. -/
theorem btw_keep : ∀ (n : Nat) (a y : List Nat), a.length ≤ n → a.drop (btw a) ≠ [] → cmt (a.drop (btw a) ++ y) = 0 → btw (a ++ y) = btw a
  | n, a, y, hn, hne, hc => by
    have hl := cnt_le blk a
    by_cases h : cmt (a.drop (cnt blk a)) = 0
    · have hb := btw_end h
      rw [hb] at hne hc
      have hlt : cnt blk a < a.length := by
        rcases Nat.lt_or_ge (cnt blk a) a.length with h1 | h1
        · exact h1
        · exact absurd (List.drop_eq_nil_of_le h1) hne
      have h1 := cnt_app hlt y
      have h2 : (a ++ y).drop (cnt blk a) = a.drop (cnt blk a) ++ y := List.drop_append_of_le_length hl
      rw [hb, btw_end (by rw [h1, h2]; exact hc), h1]
    · have h3 := cmt_le (a.drop (cnt blk a))
      simp only [List.length_drop] at h3
      have hlt : cnt blk a < a.length := by
        rcases Nat.lt_or_ge (cnt blk a) a.length with h1 | h1
        · exact h1
        · rw [List.drop_eq_nil_of_le h1] at h; exact absurd cmt_nil h
      have h1 := cnt_app hlt y
      have h2 : (a ++ y).drop (cnt blk a) = a.drop (cnt blk a) ++ y := List.drop_append_of_le_length hl
      have h4 := btw_step h
      have h5 := cmt_app h y
      have h6 : (a ++ y).drop (cnt blk a + cmt (a.drop (cnt blk a))) = a.drop (cnt blk a + cmt (a.drop (cnt blk a))) ++ y := List.drop_append_of_le_length (by omega)
      have h7 : btw (a ++ y) = cnt blk a + cmt (a.drop (cnt blk a)) + btw (a.drop (cnt blk a + cmt (a.drop (cnt blk a))) ++ y) := by
        rw [btw_step (by rw [h1, h2, h5]; exact h), h1, h2, h5, h6]
      have h8 : a.drop (btw a) = (a.drop (cnt blk a + cmt (a.drop (cnt blk a)))).drop (btw (a.drop (cnt blk a + cmt (a.drop (cnt blk a))))) := by
        rw [List.drop_drop, ← h4]
      cases n with
      | zero => omega
      | succ n =>
        have ih := btw_keep n (a.drop (cnt blk a + cmt (a.drop (cnt blk a)))) y (by rw [List.length_drop]; omega) (by rw [← h8]; exact hne) (by rw [← h8]; exact hc)
        rw [h7, ih, h4]

/-! ### places -/
def sh (p : Nat) (r : List (Tok × Nat)) : List (Tok × Nat) := r.map fun x => (x.1, x.2 + p)
theorem lex_shift (p : Nat) : ∀ (n : Nat) (l : List Nat) (a : Nat), l.length ≤ n → lexL l (a + p) = (match lexL l a with | .inl r => .inl (sh p r) | .inr e => .inr (e + p))
  | n, l, a, hn => by
    by_cases h : l.drop (btw l) = []
    · rw [lex_end h, lex_end h]; rfl
    · cases e : tokT (l.drop (btw l)) with
      | none =>
        rw [lex_bad h e, lex_bad h e]
        simp only
        congr 1
        omega
      | some tn =>
        obtain ⟨t, k⟩ := tn
        have hk := tokT_some e
        simp only [List.length_drop] at hk
        cases n with
        | zero => omega
        | succ n =>
          have ih := lex_shift p n ((l.drop (btw l)).drop k) (a + sz (l.take (btw l)) + sz ((l.drop (btw l)).take k)) (by simp only [List.length_drop]; omega)
          rw [lex_next h e, lex_next h e, show a + p + sz (l.take (btw l)) + sz ((l.drop (btw l)).take k) = a + sz (l.take (btw l)) + sz ((l.drop (btw l)).take k) + p by omega, ih]
          cases lexL ((l.drop (btw l)).drop k) (a + sz (l.take (btw l)) + sz ((l.drop (btw l)).take k)) with
          | inl r =>
            simp only [sh, List.map_cons]
            congr 3
            omega
          | inr e => rfl
theorem lex_at {l : List Nat} {r : List (Tok × Nat)} (h : lexL l 0 = .inl r) (p : Nat) : lexL l p = .inl (sh p r) := by
  have := lex_shift p l.length l 0 (Nat.le_refl _)
  rw [Nat.zero_add, h] at this
  exact this
theorem lex_absorb {z : List Nat} (h : btw z = z.length) (y : List Nat) (p : Nat) : lexL (z ++ y) p = lexL y (p + sz z) := by
  have hb := btw_absorb z.length z y (Nat.le_refl _) h
  have hd : (z ++ y).drop (btw (z ++ y)) = y.drop (btw y) := by rw [hb, ← List.drop_drop, List.drop_left]
  have ht : sz ((z ++ y).take (btw (z ++ y))) = sz z + sz (y.take (btw y)) := by
    rw [hb, List.take_append, List.take_of_length_le (by omega), show z.length + btw y - z.length = btw y by omega, sz_app]
  by_cases he : y.drop (btw y) = []
  · rw [lex_end he, lex_end (by rw [hd]; exact he)]
  · cases e : tokT (y.drop (btw y)) with
    | none => rw [lex_bad he e, lex_bad (by rw [hd]; exact he) (by rw [hd]; exact e), ht, Nat.add_assoc]
    | some tn =>
      obtain ⟨t, k⟩ := tn
      rw [lex_next he e, lex_next (by rw [hd]; exact he) (by rw [hd]; exact e), ht, hd, ← Nat.add_assoc p (sz z) (sz (y.take (btw y)))]
/-- Each token's place: the text from there on begins with it. -/
def PlaceOk (l : List Nat) (a : Nat) (t : Tok) (q : Nat) : Prop := ∃ l1 d n r, l = l1 ++ d ∧ q = a + sz l1 ∧ d ≠ [] ∧ btw d = 0 ∧ tokT d = some (t, n) ∧ lexL d q = .inl ((t, q) :: r)
theorem lex_places : ∀ (n : Nat) (l : List Nat) (a : Nat) (toks : List (Tok × Nat)), l.length ≤ n → lexL l a = .inl toks →
    (∀ (k : Nat) t q, toks[k]? = some (t, q) → PlaceOk l a t q ∧ a ≤ q) ∧ ∀ (k : Nat) t q t' q', toks[k]? = some (t, q) → toks[k + 1]? = some (t', q') → q < q'
  | n, l, a, toks, hn, h => by
    by_cases he : l.drop (btw l) = []
    · rw [lex_end he] at h
      injection h with h
      subst h
      exact ⟨fun k t q h => by simp at h, fun k t q t' q' h => by simp at h⟩
    · cases e : tokT (l.drop (btw l)) with
      | none => rw [lex_bad he e] at h; cases h
      | some tn =>
        obtain ⟨t, j⟩ := tn
        have hj := tokT_some e
        have hj2 := hj.2
        simp only [List.length_drop] at hj2
        rw [lex_next he e] at h
        obtain ⟨d, hd⟩ : ∃ d, l.drop (btw l) = d := ⟨_, rfl⟩
        have hl : l = l.take (btw l) ++ d := by rw [← hd]; exact (List.take_append_drop _ _).symm
        rw [hd] at h e he hj
        cases hx : lexL (d.drop j) (a + sz (l.take (btw l)) + sz (d.take j)) with
        | inr e => rw [hx] at h; cases h
        | inl r =>
          rw [hx] at h
          simp only [Sum.inl.injEq] at h
          subst h
          have hbd : btw d = 0 := by rw [← hd]; exact btw_idem l
          have hself : lexL d (a + sz (l.take (btw l))) = .inl ((t, a + sz (l.take (btw l))) :: r) := by
            rw [lex_next (by rw [hbd]; exact he) (by rw [hbd]; exact e), hbd]
            simp only [List.drop_zero, List.take_zero, sz_nil, Nat.add_zero, hx]
          cases n with
          | zero => omega
          | succ n =>
            have hdl : d.length ≤ l.length := by rw [← hd, List.length_drop]; omega
            obtain ⟨i1, i2⟩ := lex_places n (d.drop j) _ r (by rw [List.length_drop]; omega) hx
            have hsj : 1 ≤ sz (d.take j) := by
              have h1 := sz_len (d.take j)
              rw [List.length_take] at h1
              omega
            have hld : l = (l.take (btw l) ++ d.take j) ++ d.drop j := by rw [List.append_assoc, List.take_append_drop]; exact hl
            refine ⟨?_, ?_⟩
            · intro k t' q hk
              cases k with
              | zero =>
                simp at hk
                obtain ⟨rfl, rfl⟩ := hk
                exact ⟨⟨_, d, j, r, hl, rfl, he, hbd, e, hself⟩, by omega⟩
              | succ k =>
                obtain ⟨⟨l1, d', n', r', k1, k2, k3, k4, k5, k6⟩, k7⟩ := i1 k t' q (by simpa using hk)
                refine ⟨⟨l.take (btw l) ++ d.take j ++ l1, d', n', r', ?_, ?_, k3, k4, k5, k6⟩, by omega⟩
                · rw [List.append_assoc _ l1, ← k1]; exact hld
                · rw [k2, sz_app, sz_app]; omega
            · intro k t1 q1 t2 q2 h1 h2
              cases k with
              | zero =>
                simp at h1 h2
                obtain ⟨rfl, rfl⟩ := h1
                have := (i1 0 t2 q2 (by simpa using h2)).2
                omega
              | succ k => exact i2 k t1 q1 t2 q2 (by simpa using h1) (by simpa using h2)
end Go.Proofs.YteennkekpblccaaGreatDoor
