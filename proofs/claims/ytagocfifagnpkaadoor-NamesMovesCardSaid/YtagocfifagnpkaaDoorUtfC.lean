/-
  Plain facts, without the program: a text's runes written again; a text cut; the place of each byte.
-/
import Derived.Test.YtagocfifagnpkaaDoorUtfB
namespace Go.Proofs.YtagocfifagnpkaaDoor
open Go.Lib

theorem exAll (s : ByteArray) : s.extract 0 s.size = s := by
  apply ByteArray.ext
  apply Array.ext'
  rw [Lib.extract_data, Nat.sub_zero, List.drop_zero, Lib.size_eq]
  exact List.take_length

/-! ### written again -/
theorem dc_valid {s : ByteArray} {p : Nat} (hb : bad s p = false) : (dc s p).1 < 55296 ∨ (57343 < (dc s p).1 ∧ (dc s p).1 ≤ 1114111) := by
  rw [bad_false, dc_N] at hb
  rw [dc_N]
  have k0 := bt_lt s p
  have k1 := bt_lt s (p + 1)
  have k2 := bt_lt s (p + 2)
  have k3 := bt_lt s (p + 3)
  rcases decodeN_shape (s.size - p) (bt s p) (bt s (p + 1)) (bt s (p + 2)) (bt s (p + 3)) with ⟨c, e⟩ | ⟨c1, c2, c3, cv, e⟩ | ⟨c1, c2, c3, c4, cv, cs, e⟩ | ⟨c1, c2, c3, c4, c5, cv, cw, e⟩ | e
  all_goals (rw [e] at hb ⊢; dsimp only)
  all_goals (try (exact absurd rfl hb))
  all_goals omega
theorem byteZ (z : Int) (n : Nat) (h : z = (n : Int)) : z.toNat.toUInt8 = UInt8.ofNat n := by
  subst h
  rfl
theorem enc_eq (r : Nat) (hv : r < 55296 ∨ (57343 < r ∧ r ≤ 1114111)) : Utf8.encode (r : Int) = ⟨(encodeRune (r : Int)).toArray⟩ := by
  have v : Utf8.valid (r : Int) = true := by
    unfold Utf8.valid
    simp only [Bool.or_eq_true, Bool.and_eq_true, decide_eq_true_eq]
    omega
  unfold Utf8.encode
  simp only [v, if_true, Int.toNat_natCast]
  unfold encodeRune
  by_cases h1 : r < 128
  · rw [if_pos h1, encodeRuneZ_one (by omega) (by omega)]
    simp only [List.map_cons, List.map_nil]
    rw [byteZ _ r rfl]
  rw [if_neg h1]
  by_cases h2 : r < 2048
  · rw [if_pos h2, encodeRuneZ_two (by omega) (by omega)]
    simp only [List.map_cons, List.map_nil]
    rw [byteZ _ (192 + r / 64) (by omega), byteZ _ (128 + r % 64) (by omega)]
  rw [if_neg h2]
  by_cases h3 : r < 65536
  · rw [if_pos h3, encodeRuneZ_three (by omega)]
    simp only [List.map_cons, List.map_nil]
    rw [byteZ _ (224 + r / 4096) (by omega), byteZ _ (128 + r / 64 % 64) (by omega), byteZ _ (128 + r % 64) (by omega)]
  · rw [if_neg h3, encodeRuneZ_four (by omega) (by omega)]
    simp only [List.map_cons, List.map_nil]
    rw [byteZ _ (240 + r / 262144) (by omega), byteZ _ (128 + r / 4096 % 64) (by omega), byteZ _ (128 + r / 64 % 64) (by omega), byteZ _ (128 + r % 64) (by omega)]
/-- The text up to p, and the rune at p: the text up to behind it. -/
theorem ext_enc {s : ByteArray} {p : Nat} (h : p < s.size) (hb : bad s p = false) : s.extract 0 p ++ Utf8.encode ((dc s p).1 : Int) = s.extract 0 (p + (dc s p).2) := by
  rw [enc_eq _ (dc_valid hb)]
  apply ByteArray.ext
  apply Array.ext'
  rw [ByteArray.data_append, Array.toList_append, extract_data, extract_data, dc_enc h hb]
  simp only [Nat.sub_zero, List.drop_zero]
  rw [List.take_add]
theorem enc_size {s : ByteArray} {p : Nat} (h : p < s.size) (hb : bad s p = false) : (Utf8.encode ((dc s p).1 : Int)).size ≤ s.size := by
  rw [enc_eq _ (dc_valid hb), dc_enc h hb]
  show (Array.size _) ≤ _
  rw [List.size_toArray, List.length_take, List.length_drop, size_eq]
  omega
theorem ext_size (s : ByteArray) (a b : Nat) : (s.extract a b).size = min (b - a) (s.size - a) := by
  rw [size_eq, extract_data, List.length_take, List.length_drop, ← size_eq]

/-! ### cut -/
theorem get_out (s : ByteArray) (p : Nat) (h : ¬ p < s.size) : bt s p = 0 := by
  unfold bt
  simp [ByteArray.get!, getElem!_neg, h]
  rfl
theorem bt_list (s : ByteArray) (p : Nat) : bt s p = (s.data.toList.getD p 0).toNat := by
  by_cases h : p < s.size
  · rw [← bt_get s p h]
    have h' : p < s.data.toList.length := by rw [← size_eq]; exact h
    rw [List.getD_eq_getElem?_getD, List.getElem?_eq_getElem h']
    rfl
  · rw [get_out s p h, List.getD_eq_getElem?_getD, List.getElem?_eq_none (by rw [← size_eq]; omega)]
    rfl
theorem bt_pre (s : ByteArray) (c q : Nat) : bt (s.extract 0 c) q = if q < c then bt s q else 0 := by
  rw [bt_list, bt_list, extract_data]
  simp only [Nat.sub_zero, List.drop_zero, List.getD_eq_getElem?_getD, List.getElem?_take]
  split <;> rfl
theorem bt_suf (s : ByteArray) (c q : Nat) : bt (s.extract c s.size) q = bt s (c + q) := by
  rw [bt_list, bt_list, extract_data]
  simp only [List.getD_eq_getElem?_getD, List.getElem?_take, List.getElem?_drop]
  by_cases h : q < s.size - c
  · rw [if_pos h]
  · rw [if_neg h, List.getElem?_eq_none (by rw [← size_eq]; omega)]
theorem dc_suf (s : ByteArray) (c q : Nat) : dc (s.extract c s.size) q = dc s (c + q) := by
  rw [dc_N, dc_N, bt_suf, bt_suf, bt_suf, bt_suf, ext_size]
  rw [show min (s.size - c) (s.size - c) - q = s.size - (c + q) by omega, show c + (q + 1) = c + q + 1 by omega, show c + (q + 2) = c + q + 2 by omega, show c + (q + 3) = c + q + 3 by omega]
set_option maxHeartbeats 2000000 in
theorem dc_pre {s : ByteArray} {c p : Nat} (hb : bad s p = false) (h : p + (dc s p).2 ≤ c) (hc : c ≤ s.size) : dc (s.extract 0 c) p = dc s p := by
  rw [bad_false, dc_N] at hb
  rw [dc_N] at h ⊢
  rw [dc_N s p, bt_pre, bt_pre, bt_pre, bt_pre, ext_size, show min (c - 0) (s.size - 0) - p = c - p by omega]
  rcases decodeN_shape (s.size - p) (bt s p) (bt s (p + 1)) (bt s (p + 2)) (bt s (p + 3)) with ⟨c0, e⟩ | ⟨c1, c2, c3, cv, e⟩ | ⟨c1, c2, c3, c4, cv, cs, e⟩ | ⟨c1, c2, c3, c4, c5, cv, cw, e⟩ | e
  · rw [e] at h ⊢
    dsimp only at h
    rw [if_pos (by omega)]
    unfold decodeN
    rw [if_pos c0]
  · rw [e] at h ⊢
    dsimp only at h
    rw [if_pos (by omega), if_pos (by omega)]
    unfold decodeN
    rw [if_neg (by omega), if_pos ⟨c1, by omega, c3⟩, if_pos cv]
  · rw [e] at h ⊢
    dsimp only at h
    rw [if_pos (by omega), if_pos (by omega), if_pos (by omega)]
    unfold decodeN
    rw [if_neg (by omega), if_neg (by omega), if_pos ⟨c1, ⟨by omega, c3⟩, by omega, c4⟩, if_pos ⟨cv, by omega⟩]
  · rw [e] at h ⊢
    dsimp only at h
    rw [if_pos (by omega), if_pos (by omega), if_pos (by omega), if_pos (by omega)]
    unfold decodeN
    rw [if_neg (by omega), if_neg (by omega), if_neg (by omega), if_pos ⟨c1, ⟨by omega, c3⟩, ⟨by omega, c4⟩, by omega, c5⟩, if_pos ⟨cv, by omega⟩]
  · exact absurd e hb
theorem bad_pre {s : ByteArray} {c p : Nat} (hb : bad s p = false) (h : p + (dc s p).2 ≤ c) (hc : c ≤ s.size) : bad (s.extract 0 c) p = false := by
  rw [bad_false] at hb ⊢
  rw [dc_pre (by rw [bad_false]; exact hb) h hc]
  exact hb
theorem suf_runes (s : ByteArray) (c : Nat) : ∀ q, rns (s.extract c s.size) q = rns s (c + q) ∧ vls (s.extract c s.size) q = vls s (c + q) := by
  have hsz := ext_size s c s.size
  refine along (s.extract c s.size) _ ?_ ?_
  · intro q h
    rw [rns_end (by omega), vls_end (by omega), rns_end (by omega), vls_end (by omega)]
    exact ⟨rfl, rfl⟩
  · intro q h ih
    rw [dc_suf] at ih
    rw [rns_step h, vls_step h, rns_step (s := s) (p := c + q) (by omega), vls_step (s := s) (p := c + q) (by omega), dc_suf, ih.1, ih.2, show c + (q + (dc s (c + q)).2) = c + q + (dc s (c + q)).2 by omega]
    refine ⟨rfl, ?_⟩
    have e : bad (s.extract c s.size) q = bad s (c + q) := by unfold bad; rw [dc_suf]
    rw [e]
theorem cut_runes (s : ByteArray) : ∀ p, p ≤ s.size → vls s p = true → ∀ n : Nat, n ≤ (rns s p).length →
    rns (s.extract 0 (ct s n p)) p = (rns s p).take n ∧ vls (s.extract 0 (ct s n p)) p = true ∧ rns s (ct s n p) = (rns s p).drop n ∧ vls s (ct s n p) = true := by
  refine along s _ ?_ ?_
  · intro p h hp hv n hn
    have hc := ct_end (s := s) (n := n) (p := p) (by omega)
    have hx := ext_size s 0 (ct s n p)
    rw [rns_end (s := s) (p := p) (by omega)] at hn ⊢
    rw [rns_end (by omega), vls_end (by omega), rns_end (by omega), vls_end (by omega)]
    simp
  · intro p h ih hp hv n hn
    obtain ⟨hb, hv'⟩ := vls_head h hv
    have hw := dc_pos s p
    have hl := dc_le s p h
    cases n with
    | zero =>
      have hc : ct s ((0 : Nat) : Int) p = p := ct_stop h (by omega)
      rw [hc]
      have hx := ext_size s 0 p
      rw [rns_end (by omega), vls_end (by omega)]
      exact ⟨by simp, rfl, by simp, hv⟩
    | succ n =>
      have hc : ct s ((n + 1 : Nat) : Int) p = ct s (n : Int) (p + (dc s p).2) := by
        rw [ct_next h (by omega)]
        congr 1
        omega
      rw [rns_step h, List.length_cons] at hn
      have hk := ih hl hv' n (by omega)
      have hcl := ct_le s (p + (dc s p).2) hl (n : Int)
      rw [← hc] at hk hcl
      have hx := ext_size s 0 (ct s ((n + 1 : Nat) : Int) p)
      have e1 := dc_pre hb hcl.1 hcl.2
      have e2 := bad_pre hb hcl.1 hcl.2
      rw [rns_step (s := s.extract 0 _) (p := p) (by omega), vls_good (s := s.extract 0 _) (p := p) (by omega) e2, e1, hk.1, hk.2.1, rns_step h]
      exact ⟨by simp, rfl, by simpa using hk.2.2.1, hk.2.2.2⟩

/-! ### the place of each byte -/
theorem nl_byte {s : ByteArray} {p q : Nat} (h : p < s.size) (hb : bad s p = false) (h1 : p ≤ q) (h2 : q < p + (dc s p).2) : ((dc s p).1 = 10 ∧ bt s q = 10 ∧ (dc s p).2 = 1) ∨ ((dc s p).1 ≠ 10 ∧ bt s q ≠ 10) := by
  rw [bad_false, dc_N] at hb
  rw [dc_N] at h2 ⊢
  have k0 := bt_lt s p
  rcases decodeN_shape (s.size - p) (bt s p) (bt s (p + 1)) (bt s (p + 2)) (bt s (p + 3)) with ⟨c0, e⟩ | ⟨c1, c2, c3, cv, e⟩ | ⟨c1, c2, c3, c4, cv, cs, e⟩ | ⟨c1, c2, c3, c4, c5, cv, cw, e⟩ | e
  · rw [e] at h2 ⊢
    dsimp only at h2 ⊢
    obtain rfl : q = p := by omega
    by_cases h10 : bt s q = 10
    · exact .inl ⟨h10, h10, rfl⟩
    · exact .inr ⟨h10, h10⟩
  · rw [e] at h2 ⊢
    dsimp only at h2 ⊢
    rcases (show q = p ∨ q = p + 1 by omega) with rfl | rfl
    all_goals exact .inr ⟨by omega, by omega⟩
  · rw [e] at h2 ⊢
    dsimp only at h2 ⊢
    rcases (show q = p ∨ q = p + 1 ∨ q = p + 2 by omega) with rfl | rfl | rfl
    all_goals exact .inr ⟨by omega, by omega⟩
  · rw [e] at h2 ⊢
    dsimp only at h2 ⊢
    rcases (show q = p ∨ q = p + 1 ∨ q = p + 2 ∨ q = p + 3 by omega) with rfl | rfl | rfl | rfl
    all_goals exact .inr ⟨by omega, by omega⟩
  · exact absurd e hb
/-- From a byte to the next one: a line's end leads to the next line's first column; each other byte stays at its place or goes one column on. -/
theorem pl_succ (s : ByteArray) : ∀ p, vls s p = true → ∀ (st : Int × Int) (q : Nat), p ≤ q → q < s.size →
    (bt s q = 10 ∧ pl s ((q + 1 : Nat) : Int) st p = ((pl s (q : Int) st p).1 + 1, 1)) ∨
    (bt s q ≠ 10 ∧ (pl s ((q + 1 : Nat) : Int) st p = pl s (q : Int) st p ∨ pl s ((q + 1 : Nat) : Int) st p = ((pl s (q : Int) st p).1, (pl s (q : Int) st p).2 + 1))) := by
  refine along s _ ?_ ?_
  · intro p h _ st q h1 h2
    omega
  · intro p h ih hv st q h1 h2
    obtain ⟨hb, hv'⟩ := vls_head h hv
    have hw := dc_pos s p
    have hl := dc_le s p h
    by_cases hq : q < p + (dc s p).2
    · have hnl := nl_byte h hb h1 hq
      have e1 : pl s (q : Int) st p = st := pl_stop h (by omega)
      rw [e1]
      by_cases hq1 : q + 1 < p + (dc s p).2
      · have e2 : pl s ((q + 1 : Nat) : Int) st p = st := pl_stop h (by omega)
        rw [e2]
        rcases hnl with ⟨_, _, h3⟩ | ⟨_, h3⟩
        · omega
        · exact .inr ⟨h3, .inl rfl⟩
      · have e2 : pl s ((q + 1 : Nat) : Int) st p = bhd st (dc s p).1 := by
          rw [pl_next h (by omega)]
          by_cases hend : p + (dc s p).2 < s.size
          · have hw2 := dc_pos s (p + (dc s p).2)
            exact pl_stop hend (by omega)
          · exact pl_end hend
        rw [e2]
        unfold bhd
        rcases hnl with ⟨h3, h4, _⟩ | ⟨h3, h4⟩
        · rw [if_pos h3]; exact .inl ⟨h4, rfl⟩
        · rw [if_neg h3]; exact .inr ⟨h4, .inr rfl⟩
    · rw [pl_next h (by omega), pl_next (at_ := (q : Int)) h (by omega)]
      exact ih hv' _ q (by omega) h2
end Go.Proofs.YtagocfifagnpkaaDoor
