/-
  Plain facts, without the program: what a text's tokens say of the texts from their places on.
-/
import Derived.Test.YteennkekpblccaaGreatDoorLexT
namespace Go.Proofs.YteennkekpblccaaGreatDoor
open Go.Lib

/-- A text that may be read, by its runes. -/
structure Txt (s : ByteArray) (L : List Nat) : Prop where
  ok : okl L
  rd : ∀ r ∈ L, rdb (r : Int) = true
  txt : T L = s
  size : s.size ≤ 16384
theorem ckr_ok' {s : ByteArray} (h : (ckr s).2 = 0) : ∃ L, Txt s L ∧ rns s 0 = L := by
  unfold ckr at h
  by_cases hs : 16384 < s.size
  · rw [if_pos hs] at h; exact absurd h (by decide)
  · rw [if_neg hs] at h
    rcases ck_ok s 0 with ⟨h1, h2, h3, h4⟩ | h1
    · exact ⟨_, ⟨rns_okl h3, h4, T_rns h3, by omega⟩, rfl⟩
    · rw [h] at h1; exact absurd h1 (by decide)
theorem ckr_T {L : List Nat} (h : okl L) (hr : ∀ r ∈ L, rdb (r : Int) = true) (hs : sz L ≤ 16384) : ckr (T L) = (0, 0) := by
  have k := ck_T (l := L) [] h hr
  unfold ckr
  rw [if_neg (by rw [T_size]; omega)]
  exact k
theorem lexR_T {L : List Nat} (h : okl L) (hr : ∀ r ∈ L, rdb (r : Int) = true) (hs : sz L ≤ 16384) :
    lexR (T L) = (match lexL L 0 with | .inl l => (l, 0, 0) | .inr a => ([], (a : Int), 5)) := by
  unfold lexR
  rw [ckr_T h hr hs, if_pos rfl, rns_T h]
  cases lexL L 0 <;> rfl
theorem lexR_out {s : ByteArray} {l : List (Tok × Nat)} {a b : Int} (h : lexR s = (l, a, b)) : (b = 0 ∧ a = 0 ∧ ∃ L, Txt s L ∧ lexL L 0 = .inl l) ∨ (b ≠ 0 ∧ l = []) := by
  unfold lexR at h
  by_cases hc : (ckr s).2 = 0
  · rw [if_pos hc] at h
    obtain ⟨L, hL, hr⟩ := ckr_ok' hc
    rw [hr] at h
    cases e : lexL L 0 with
    | inl r =>
      rw [e] at h
      injection h with h1 h2
      injection h2 with h2 h3
      subst h1
      exact .inl ⟨h3.symm, h2.symm, L, hL, e⟩
    | inr q =>
      rw [e] at h
      injection h with h1 h2
      injection h2 with h2 h3
      exact .inr ⟨by rw [← h3]; decide, h1.symm⟩
  · rw [if_neg hc] at h
    injection h with h1 h2
    injection h2 with h2 h3
    exact .inr ⟨by rw [← h3]; exact hc, h1.symm⟩
theorem ck_range (s : ByteArray) : ∀ p, p ≤ s.size → 0 ≤ (ck s p).1 ∧ (ck s p).1 ≤ (s.size : Int) := by
  refine along s _ ?_ ?_
  · intro p h hp
    rw [ck_end (by omega)]
    exact ⟨Int.le_refl _, by show (0 : Int) ≤ _; omega⟩
  · intro p h ih hp
    cases hr : rdb ((dc s p).1 : Int)
    · rw [ck_stop h hr]
      exact ⟨by show (0 : Int) ≤ (p : Int); omega, by show (p : Int) ≤ _; omega⟩
    · rw [ck_next h hr]
      exact ih (dc_le s p h)
theorem lex_err : ∀ (n : Nat) (l : List Nat) (a e : Nat), l.length ≤ n → lexL l a = .inr e → e ≤ a + sz l
  | n, l, a, e, hn, h => by
    by_cases he : l.drop (btw l) = []
    · rw [lex_end he] at h; cases h
    · have hs : sz l = sz (l.take (btw l)) + sz (l.drop (btw l)) := by rw [← sz_app, List.take_append_drop]
      cases ht : tokT (l.drop (btw l)) with
      | none =>
        rw [lex_bad he ht] at h
        injection h with h
        omega
      | some tn =>
        obtain ⟨t, j⟩ := tn
        have hj := tokT_some ht
        have hj2 := hj.2
        simp only [List.length_drop] at hj2
        rw [lex_next he ht] at h
        cases hx : lexL ((l.drop (btw l)).drop j) (a + sz (l.take (btw l)) + sz ((l.drop (btw l)).take j)) with
        | inl r => rw [hx] at h; cases h
        | inr q =>
          rw [hx] at h
          injection h with h
          subst h
          cases n with
          | zero => omega
          | succ n =>
            have := lex_err n _ _ _ (by simp only [List.length_drop]; omega) hx
            have hs2 : sz (l.drop (btw l)) = sz ((l.drop (btw l)).take j) + sz ((l.drop (btw l)).drop j) := by rw [← sz_app, List.take_append_drop]
            omega
theorem lex_len : ∀ (n : Nat) (l : List Nat) (a : Nat) (toks : List (Tok × Nat)), l.length ≤ n → lexL l a = .inl toks → toks.length ≤ l.length
  | n, l, a, toks, hn, h => by
    by_cases he : l.drop (btw l) = []
    · rw [lex_end he] at h
      injection h with h
      subst h
      exact Nat.zero_le _
    · cases ht : tokT (l.drop (btw l)) with
      | none => rw [lex_bad he ht] at h; cases h
      | some tn =>
        obtain ⟨t, j⟩ := tn
        have hj := tokT_some ht
        have hj2 := hj.2
        simp only [List.length_drop] at hj2
        rw [lex_next he ht] at h
        cases hx : lexL ((l.drop (btw l)).drop j) (a + sz (l.take (btw l)) + sz ((l.drop (btw l)).take j)) with
        | inr r => rw [hx] at h; cases h
        | inl q =>
          rw [hx] at h
          simp only [Sum.inl.injEq] at h
          subst h
          cases n with
          | zero => omega
          | succ n =>
            have := lex_len n _ _ _ (by simp only [List.length_drop]; omega) hx
            simp only [List.length_drop] at this
            simp only [List.length_cons]
            omega
theorem lex_len' {s : ByteArray} {L : List Nat} (hL : Txt s L) {toks : List (Tok × Nat)} (h : lexL L 0 = .inl toks) : toks.length ≤ s.size := by
  have h1 := lex_len _ L 0 toks (Nat.le_refl _) h
  have h2 := sz_len L
  have h3 : s.size = sz L := by rw [← hL.txt, T_size]
  omega
theorem lexR_range (s : ByteArray) : 0 ≤ (lexR s).2.1 ∧ (lexR s).2.1 ≤ (s.size : Int) := by
  unfold lexR
  by_cases hc : (ckr s).2 = 0
  · rw [if_pos hc]
    obtain ⟨L, hL, hr⟩ := ckr_ok' hc
    rw [hr]
    cases e : lexL L 0 with
    | inl r => exact ⟨Int.le_refl _, by show (0 : Int) ≤ _; omega⟩
    | inr q =>
      have := lex_err _ L 0 q (Nat.le_refl _) e
      have hs : s.size = sz L := by rw [← hL.txt, T_size]
      exact ⟨by show (0 : Int) ≤ (q : Int); omega, by show (q : Int) ≤ _; omega⟩
  · rw [if_neg hc]
    show 0 ≤ (ckr s).1 ∧ (ckr s).1 ≤ _
    unfold ckr
    split
    · exact ⟨Int.le_refl _, by show (0 : Int) ≤ _; omega⟩
    · exact ck_range s 0 (Nat.zero_le _)
/-- From a token's place on the text begins with it. -/
theorem place_at {s : ByteArray} {L : List Nat} (hL : Txt s L) {toks : List (Tok × Nat)} (h : lexL L 0 = .inl toks) {k : Nat} {t : Tok} {q : Nat} (hk : toks[k]? = some (t, q)) :
    q < s.size ∧ ∃ rest, lexR (s.extract q s.size) = ((t, 0) :: rest, 0, 0) := by
  obtain ⟨h1, _⟩ := lex_places L.length L 0 toks (Nat.le_refl _) h
  obtain ⟨⟨l1, d, n, r, e1, e2, e3, e4, e5, e6⟩, _⟩ := h1 k t q hk
  have hs : s.size = sz l1 + sz d := by rw [← hL.txt, T_size, e1, sz_app]
  have hsd : 1 ≤ sz d := by
    have := sz_len d
    cases d with
    | nil => exact absurd rfl e3
    | cons x y => simp at this; omega
  rw [Nat.zero_add] at e2
  refine ⟨by omega, ?_⟩
  have hT : s.extract q s.size = T d := by
    rw [e2, ← hL.txt, T_size, e1]
    exact T_suf l1 d
  have hsz := hL.size
  have hod : okl d := (okl_app.1 (e1 ▸ hL.ok)).2
  have hrd : ∀ r ∈ d, rdb (r : Int) = true := fun r hr => hL.rd r (by rw [e1]; exact List.mem_append_right _ hr)
  rw [hT, lexR_T hod hrd (by omega)]
  have hsh := lex_shift q d.length d 0 (Nat.le_refl _)
  rw [Nat.zero_add, e6] at hsh
  cases hx : lexL d 0 with
  | inr e => rw [hx] at hsh; cases hsh
  | inl r0 =>
    rw [hx] at hsh
    simp only [Sum.inl.injEq] at hsh
    cases r0 with
    | nil => cases hsh
    | cons a b =>
      simp only [sh, List.map_cons, List.cons.injEq, Prod.mk.injEq] at hsh
      obtain ⟨⟨h5, h6⟩, _⟩ := hsh
      have ha : a = (t, 0) := Prod.ext h5.symm (by show a.2 = 0; omega)
      rw [ha]
      exact ⟨b, rfl⟩
theorem place_up {L : List Nat} {toks : List (Tok × Nat)} (h : lexL L 0 = .inl toks) {k : Nat} {t t' : Tok} {q q' : Nat} (hk : toks[k]? = some (t, q)) (hk' : toks[k + 1]? = some (t', q')) : q < q' :=
  (lex_places L.length L 0 toks (Nat.le_refl _) h).2 k t q t' q' hk hk'
end Go.Proofs.YteennkekpblccaaGreatDoor
