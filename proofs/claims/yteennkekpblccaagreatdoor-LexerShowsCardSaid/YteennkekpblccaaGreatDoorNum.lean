/-
  Plain facts, without the program: numbers written in digits, and read.
-/
import Derived.Test.YteennkekpblccaaGreatDoorLexP
import Derived.Lib.CountLaws
import Derived.Lib.IndexBytes
import Derived.Lib.Replace
import Derived.Lib.AtoiAll
import Derived.Lib.ItoaLen
namespace Go.Proofs.YteennkekpblccaaGreatDoor
open Go.Lib

theorem dec_digit (u : Nat) : ∀ b ∈ decDigits u, 48 ≤ b.toNat ∧ b.toNat ≤ 57 := by
  induction u using Nat.strongRecOn with
  | _ u ih =>
    intro b hb
    rw [decDigits] at hb
    split at hb
    · simp only [List.mem_singleton] at hb
      rw [hb, u8n _ (by omega)]
      omega
    · rw [List.mem_append] at hb
      rcases hb with hb | hb
      · exact ih (u / 10) (by omega) b hb
      · simp only [List.mem_singleton] at hb
        rw [hb, u8n _ (by omega)]
        omega
theorem dgs_digit (u : Nat) : ∀ r ∈ dgs u, 48 ≤ r ∧ r ≤ 57 := by
  intro r hr
  obtain ⟨b, hb, rfl⟩ := List.mem_map.1 hr
  exact dec_digit u b hb
theorem u8_toNat (l : List UInt8) : u8 (l.map UInt8.toNat) = l := by
  unfold u8
  rw [List.map_map]
  conv => rhs; rw [← List.map_id l]
  refine List.map_congr_left fun b _ => ?_
  simp
theorem enc_dgs (u : Nat) : enc (dgs u) = decDigits u := by
  rw [enc_ascii (fun r hr => by have := dgs_digit u r hr; omega)]
  exact u8_toNat _
theorem numb_ascii (n : Int) : ∀ r ∈ numb n, r < 128 := by
  intro r hr
  unfold numb at hr
  split at hr
  · rcases List.mem_cons.1 hr with rfl | hr
    · omega
    · have := dgs_digit _ r hr; omega
  · have := dgs_digit _ r hr; omega
theorem enc_numb (n : Int) : enc (numb n) = if n < 0 then 126 :: decDigits n.natAbs else decDigits n.toNat := by
  unfold numb
  split
  · show en 126 ++ enc (dgs _) = _
    rw [enc_dgs]
    rfl
  · exact enc_dgs _
theorem no45 {d : List UInt8} (h : ∀ b ∈ d, 48 ≤ b.toNat ∧ b.toNat ≤ 57) : index d [45] = -1 := by
  rw [index_one]
  induction d with
  | nil => rfl
  | cons b t ih =>
    have hb := h b (by simp)
    have hne : (b == 45) = false := by
      rw [beq_eq_false_iff_ne]
      rintro rfl
      exact absurd hb (by decide)
    unfold indexByte
    rw [hne, ih (fun x hx => h x (by simp [hx]))]
    rfl
theorem count45 {d : List UInt8} (h : ∀ b ∈ d, 48 ≤ b.toNat ∧ b.toNat ≤ 57) : count d [45] = 0 := count_miss (no45 h)
theorem index45 (d : List UInt8) : index (45 :: d) [45] = 0 := by
  unfold index
  simp
theorem count45c {d : List UInt8} (h : ∀ b ∈ d, 48 ≤ b.toNat ∧ b.toNat ≤ 57) : count (45 :: d) [45] = 1 := by
  rw [count_hit (i := 0) (by simp) (index45 d)]
  show 1 + count d [45] = 1
  rw [count45 h]
theorem rep_pos {d : List UInt8} (h : ∀ b ∈ d, 48 ≤ b.toNat ∧ b.toNat ≤ 57) : replace d [45] [126] 1 = d := by
  have e : replaceNum d [45] 1 = 0 := by
    unfold replaceNum
    rw [count45 h]
    rfl
  unfold replace
  rw [e]
  rfl
theorem rep_neg {d : List UInt8} (h : ∀ b ∈ d, 48 ≤ b.toNat ∧ b.toNat ≤ 57) : replace (45 :: d) [45] [126] 1 = 126 :: d := by
  have e : replaceNum (45 :: d) [45] 1 = 1 := by
    unfold replaceNum
    rw [count45c h]
    rfl
  unfold replace
  rw [e, if_neg (by decide), replaceK_hit _ _ _ _ 0 (index45 d)]
  rfl
theorem rep_itoa (n : Int) : replace (itoa n) [45] [126] 1 = enc (numb n) := by
  rw [enc_numb]
  unfold itoa
  split
  · exact rep_neg (dec_digit _)
  · exact rep_pos (dec_digit _)
theorem count_itoa (n : Int) : count (itoa n) [45] ≤ 1 := by
  unfold itoa
  split
  · rw [count45c (dec_digit _)]; exact Nat.le_refl _
  · rw [count45 (dec_digit _)]; omega

/-! ### digits read -/
def digs (d : List Nat) : Prop := ∀ r ∈ d, 48 ≤ r ∧ r ≤ 57
theorem dig_is (r : Nat) : dig r = true ↔ 48 ≤ r ∧ r ≤ 57 := by
  unfold dig
  rw [decide_eq_true_iff]
  unfold cls
  repeat' split
  all_goals omega
theorem cnt_take {f : Nat → Bool} (l : List Nat) : ∀ r ∈ l.take (cnt f l), f r = true := by
  induction l with
  | nil => intro r h; simp at h
  | cons x t ih =>
    intro r h
    unfold cnt at h
    split at h
    · rename_i hx
      rw [List.take_succ_cons] at h
      rcases List.mem_cons.1 h with rfl | h
      · exact hx
      · exact ih r h
    · simp at h
theorem digs_take (l : List Nat) : digs (l.take (cnt dig l)) := fun r hr => (dig_is r).1 (cnt_take l r hr)
theorem digs_ascii {d : List Nat} (h : digs d) : ∀ r ∈ d, r < 128 := fun r hr => by have := h r hr; omega
theorem val_ge : ∀ (d : List Nat) (a : Nat), a ≤ val a d
  | [], a => Nat.le_refl _
  | r :: t, a => by
    have := val_ge t (10 * a + (r - 48))
    show a ≤ val (10 * a + (r - 48)) t
    omega
theorem parse_val : ∀ (d : List Nat) (a : Nat), digs d → a < 18446744073709551616 → parseUint10 a (u8 d) = if val a d < 18446744073709551616 then .ok (val a d) else .range
  | [], a, _, h => by
    show _ = if a < _ then NumEnd.ok a else _
    rw [if_pos h]
    rfl
  | r :: t, a, hd, h => by
    have hr := hd r (by simp)
    have ht : digs t := fun x hx => hd x (by simp [hx])
    have hge := val_ge t (10 * a + (r - 48))
    show parseUint10 a (UInt8.ofNat r :: u8 t) = if val (10 * a + (r - 48)) t < _ then _ else _
    unfold parseUint10
    rw [u8n r (by omega), if_pos ⟨hr.1, hr.2⟩]
    by_cases h1 : 1844674407370955162 ≤ a
    · rw [if_pos h1, if_neg (by omega)]
    · rw [if_neg h1]
      by_cases h2 : 18446744073709551616 ≤ a * 10 + (r - 48)
      · rw [if_pos h2, if_neg (by omega)]
      · rw [if_neg h2, Nat.mul_comm a 10]
        exact parse_val t _ ht (by omega)
theorem atoi_digs {d : List Nat} (h : digs d) (hne : d ≠ []) : atoiAll (enc d) = if val 0 d < 9223372036854775808 then .ok (val 0 d : Int) else .range := by
  rw [enc_ascii (digs_ascii h)]
  cases d with
  | nil => exact absurd rfl hne
  | cons r t =>
    have hr := h r (by simp)
    show atoiAll (UInt8.ofNat r :: u8 t) = _
    unfold atoiAll
    simp only
    rw [u8n r (by omega), if_neg (by omega)]
    have e : parseMag (UInt8.ofNat r :: u8 t) = if val 0 (r :: t) < 18446744073709551616 then .ok (val 0 (r :: t)) else .range := by
      unfold parseMag
      rw [if_neg (by simp)]
      exact parse_val (r :: t) 0 h (by omega)
    rw [e]
    by_cases h1 : val 0 (r :: t) < 18446744073709551616
    · rw [if_pos h1]
      simp only
      by_cases h2 : val 0 (r :: t) < 9223372036854775808
      · rw [if_neg (by omega), if_neg (by omega), if_neg (by omega), if_pos h2]
      · rw [if_pos ⟨by omega, by omega⟩, if_neg h2]
    · rw [if_neg h1, if_neg (by omega)]
theorem trim_T1 (d : List Nat) : trimPrefix (enc (126 :: d)) [126] = enc d := by
  unfold trimPrefix
  have e : enc (126 :: d) = 126 :: enc d := by
    show en 126 ++ enc d = _
    rw [(wd_ascii (r := 126) (by omega)).2]
    rfl
  rw [e, if_pos (by simp [hasPrefix])]
  rfl
theorem trim_T0 {l : List Nat} (ho : okl l) (h : ∀ d, l ≠ 126 :: d) : trimPrefix (enc l) [126] = enc l := by
  unfold trimPrefix
  have e : hasPrefix (enc l) [126] = List.isPrefixOf [126] l := pre_T (p := [126]) (by decide) ho
  rw [e, if_neg]
  intro hp
  obtain ⟨d, hd⟩ := List.isPrefixOf_iff_prefix.1 hp
  exact h d (by rw [← hd]; rfl)
end Go.Proofs.YteennkekpblccaaGreatDoor
