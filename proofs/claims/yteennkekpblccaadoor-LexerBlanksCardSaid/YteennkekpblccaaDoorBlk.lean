/-
  Plain facts, without the program: two texts with a blank, a comment and a blank between have the tokens of both.
-/
import Derived.Test.YteennkekpblccaaDoorPlc
namespace Go.Proofs.YteennkekpblccaaDoor
open Go.Lib

theorem end_all {z : List Nat} (h : lexL z 0 = .inl []) : btw z = z.length := by
  by_cases he : z.drop (btw z) = []
  · have h1 := btw_le z
    have h2 := congrArg List.length he
    rw [List.length_drop, List.length_nil] at h2
    omega
  · exfalso
    cases ht : tokT (z.drop (btw z)) with
    | none => rw [lex_bad he ht] at h; cases h
    | some tn =>
      obtain ⟨t, j⟩ := tn
      rw [lex_next he ht] at h
      cases hx : lexL ((z.drop (btw z)).drop j) (0 + sz (z.take (btw z)) + sz ((z.drop (btw z)).take j)) with
      | inr e => rw [hx] at h; cases h
      | inl r => rw [hx] at h; cases h
theorem blank_one : btw [32] = [32].length := by decide
theorem absorb_all {z y : List Nat} (h1 : btw z = z.length) (h2 : btw y = y.length) : btw (z ++ y) = (z ++ y).length := by
  rw [btw_absorb z.length z y (Nat.le_refl _) h1, h2, List.length_append]
/-- The tokens of both, at their places. -/
theorem lex_gap {a z b : List Nat} {x y : List (Tok × Nat)} (ha : lexL a 0 = .inl x) (hz : lexL z 0 = .inl []) (hb : lexL b 0 = .inl y) :
    ∃ p, lexL (a ++ 32 :: (z ++ 32 :: b)) 0 = .inl (x ++ sh p y) := by
  have hB := lex_behind a.length a 0 x (z ++ 32 :: b) (Nat.le_refl _) ha
  have h1 : btw ((32 :: z) ++ [32]) = ((32 :: z) ++ [32]).length := absorb_all (absorb_all (z := [32]) blank_one (end_all hz)) blank_one
  have h2 := lex_absorb h1 b (0 + sz a)
  have e : (32 :: z) ++ [32] ++ b = 32 :: (z ++ 32 :: b) := by simp
  rw [e, lex_at hb] at h2
  refine ⟨0 + sz a + sz ((32 :: z) ++ [32]), ?_⟩
  rw [hB, h2]
theorem shd_map (p : Nat) (y : List (Tok × Nat)) : (sh p y).map (·.1) = y.map (·.1) := by
  unfold sh
  rw [List.map_map]
  rfl
theorem gap_T {la lg lb : List Nat} : T (la ++ 32 :: (([40, 42] ++ lg ++ [42, 41]) ++ 32 :: lb)) = T la ++ T [32, 40, 42] ++ T lg ++ T [42, 41, 32] ++ T lb := by
  rw [← T_app, ← T_app, ← T_app, ← T_app]
  congr 1
  simp
theorem gap_C {lg : List Nat} : T ([40, 42] ++ lg ++ [42, 41]) = T [40, 42] ++ T lg ++ T [42, 41] := by
  rw [← T_app, ← T_app]
/-- What the law asks, of three texts that may be read. -/
theorem blanks_ok {a b gap : ByteArray} {La Lb Lg : List Nat} (ha : Txt a La) (hb : Txt b Lb) (hg : Txt gap Lg) {x y c : List (Tok × Nat)} (hx : lexL La 0 = .inl x) (hy : lexL Lb 0 = .inl y)
    (hz : lexR (T [40, 42] ++ gap ++ T [42, 41]) = ([], 0, 0)) (hc : lexR (a ++ T [32, 40, 42] ++ gap ++ T [42, 41, 32] ++ b) = (c, 0, 0)) :
    c.map (·.1) = x.map (·.1) ++ y.map (·.1) := by
  have plain : ∀ l : List Nat, (∀ r ∈ l, r = 32 ∨ r = 40 ∨ r = 41 ∨ r = 42) → okl l ∧ ∀ r ∈ l, rdb (r : Int) = true := fun l h =>
    ⟨fun r hr => .inl (by have := h r hr; omega), fun r hr => by rcases h r hr with rfl | rfl | rfl | rfl <;> decide⟩
  have hez : T [40, 42] ++ gap ++ T [42, 41] = T ([40, 42] ++ Lg ++ [42, 41]) := by rw [gap_C, hg.txt]
  have hec : a ++ T [32, 40, 42] ++ gap ++ T [42, 41, 32] ++ b = T (La ++ 32 :: (([40, 42] ++ Lg ++ [42, 41]) ++ 32 :: Lb)) := by rw [gap_T, ha.txt, hg.txt, hb.txt]
  have hoz : okl ([40, 42] ++ Lg ++ [42, 41]) := okl_app.2 ⟨okl_app.2 ⟨(plain _ (by simp)).1, hg.ok⟩, (plain _ (by simp)).1⟩
  rw [hez] at hz
  rw [hec] at hc
  have hz' : lexL ([40, 42] ++ Lg ++ [42, 41]) 0 = .inl [] := by
    rcases lexR_out hz with ⟨_, _, L, hL, hl⟩ | ⟨h, _⟩
    · have : L = [40, 42] ++ Lg ++ [42, 41] := T_inj hL.ok hoz hL.txt
      rw [← this]; exact hl
    · exact absurd rfl h
  obtain ⟨p, hp⟩ := lex_gap hx hz' hy
  have hoc : okl (La ++ 32 :: (([40, 42] ++ Lg ++ [42, 41]) ++ 32 :: Lb)) :=
    okl_app.2 ⟨ha.ok, okl_cons.2 ⟨.inl (by omega), okl_app.2 ⟨hoz, okl_cons.2 ⟨.inl (by omega), hb.ok⟩⟩⟩⟩
  rcases lexR_out hc with ⟨_, _, L, hL, hl⟩ | ⟨h, _⟩
  · have : L = La ++ 32 :: (([40, 42] ++ Lg ++ [42, 41]) ++ 32 :: Lb) := T_inj hL.ok hoc hL.txt
    rw [this, hp] at hl
    injection hl with hl
    rw [← hl, List.map_append, shd_map]
  · exact absurd rfl h
end Go.Proofs.YteennkekpblccaaDoor
