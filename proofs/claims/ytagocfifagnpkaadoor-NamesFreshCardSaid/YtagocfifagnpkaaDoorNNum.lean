/-
  Plain facts, without the program: numbers written in digits, and read.
-/
import Derived.Test.YtagocfifagnpkaaDoorLexS
import Derived.Lib.CountLaws
import Derived.Lib.IndexBytes
import Derived.Lib.Replace
import Derived.Lib.ItoaLen
namespace Go.Proofs.YtagocfifagnpkaaDoor
open Go.Lib


theorem dec_digit (u : Nat) : ∀ b ∈ decDigits u, 48 ≤ b.toNat ∧ b.toNat ≤ 57 := by
  induction u using Nat.strongRecOn with
  | _ u ih =>
    intro b hb
    rw [decDigits] at hb
    split at hb
    · simp only [List.mem_singleton] at hb
      rw [hb, u8n _ (by omega)]
      omega
    · rw [List.mem_append] at hb
      rcases hb with hb | hb
      · exact ih (u / 10) (by omega) b hb
      · simp only [List.mem_singleton] at hb
        rw [hb, u8n _ (by omega)]
        omega
theorem dgs_digit (u : Nat) : ∀ r ∈ dgs u, 48 ≤ r ∧ r ≤ 57 := by
  intro r hr
  obtain ⟨b, hb, rfl⟩ := List.mem_map.1 hr
  exact dec_digit u b hb
theorem u8_toNat (l : List UInt8) : u8 (l.map UInt8.toNat) = l := by
  unfold u8
  rw [List.map_map]
  conv => rhs; rw [← List.map_id l]
  refine List.map_congr_left fun b _ => ?_
  simp
theorem enc_dgs (u : Nat) : enc (dgs u) = decDigits u := by
  rw [enc_ascii (fun r hr => by have := dgs_digit u r hr; omega)]
  exact u8_toNat _
theorem numb_ascii (n : Int) : ∀ r ∈ numb n, r < 128 := by
  intro r hr
  unfold numb at hr
  split at hr
  · rcases List.mem_cons.1 hr with rfl | hr
    · omega
    · have := dgs_digit _ r hr; omega
  · have := dgs_digit _ r hr; omega
theorem enc_numb (n : Int) : enc (numb n) = if n < 0 then 126 :: decDigits n.natAbs else decDigits n.toNat := by
  unfold numb
  split
  · show en 126 ++ enc (dgs _) = _
    rw [enc_dgs]
    rfl
  · exact enc_dgs _
theorem no45 {d : List UInt8} (h : ∀ b ∈ d, 48 ≤ b.toNat ∧ b.toNat ≤ 57) : index d [45] = -1 := by
  rw [index_one]
  induction d with
  | nil => rfl
  | cons b t ih =>
    have hb := h b (by simp)
    have hne : (b == 45) = false := by
      rw [beq_eq_false_iff_ne]
      rintro rfl
      exact absurd hb (by decide)
    unfold indexByte
    rw [hne, ih (fun x hx => h x (by simp [hx]))]
    rfl
theorem count45 {d : List UInt8} (h : ∀ b ∈ d, 48 ≤ b.toNat ∧ b.toNat ≤ 57) : count d [45] = 0 := count_miss (no45 h)
theorem index45 (d : List UInt8) : index (45 :: d) [45] = 0 := by
  unfold index
  simp
theorem count45c {d : List UInt8} (h : ∀ b ∈ d, 48 ≤ b.toNat ∧ b.toNat ≤ 57) : count (45 :: d) [45] = 1 := by
  rw [count_hit (i := 0) (by simp) (index45 d)]
  show 1 + count d [45] = 1
  rw [count45 h]
theorem rep_pos {d : List UInt8} (h : ∀ b ∈ d, 48 ≤ b.toNat ∧ b.toNat ≤ 57) : replace d [45] [126] 1 = d := by
  have e : replaceNum d [45] 1 = 0 := by
    unfold replaceNum
    rw [count45 h]
    rfl
  unfold replace
  rw [e]
  rfl
theorem rep_neg {d : List UInt8} (h : ∀ b ∈ d, 48 ≤ b.toNat ∧ b.toNat ≤ 57) : replace (45 :: d) [45] [126] 1 = 126 :: d := by
  have e : replaceNum (45 :: d) [45] 1 = 1 := by
    unfold replaceNum
    rw [count45c h]
    rfl
  unfold replace
  rw [e, if_neg (by decide), replaceK_hit _ _ _ _ 0 (index45 d)]
  rfl
theorem rep_itoa (n : Int) : replace (itoa n) [45] [126] 1 = enc (numb n) := by
  rw [enc_numb]
  unfold itoa
  split
  · exact rep_neg (dec_digit _)
  · exact rep_pos (dec_digit _)
theorem count_itoa (n : Int) : count (itoa n) [45] ≤ 1 := by
  unfold itoa
  split
  · rw [count45c (dec_digit _)]; exact Nat.le_refl _
  · rw [count45 (dec_digit _)]; omega
/-! ### no two numbers have the same digits -/
def dval (l : List UInt8) : Nat := l.foldl (fun a b => 10 * a + (b.toNat - 48)) 0
theorem dval_snoc (l : List UInt8) (b : UInt8) : dval (l ++ [b]) = 10 * dval l + (b.toNat - 48) := by unfold dval; rw [List.foldl_append]; rfl
theorem dval_dec (u : Nat) : dval (decDigits u) = u := by
  induction u using Nat.strongRecOn with
  | _ u ih =>
    rw [decDigits]
    split
    · show 10 * 0 + ((UInt8.ofNat (48 + u)).toNat - 48) = u
      rw [u8n _ (by omega)]
      omega
    · rw [dval_snoc, ih (u / 10) (by omega), u8n _ (by omega)]
      omega
theorem dec_inj {u v : Nat} (h : decDigits u = decDigits v) : u = v := by rw [← dval_dec u, h, dval_dec]
theorem dec_mono (u : Nat) : ∀ v, u ≤ v → (decDigits u).length ≤ (decDigits v).length := by
  induction u using Nat.strongRecOn with
  | _ u ih =>
    intro v hv
    rw [decDigits]
    split
    · rw [decDigits]
      split
      · simp
      · simp
    · rw [decDigits.eq_1 v, dif_neg (by omega)]
      have := ih (u / 10) (by omega) (v / 10) (Nat.div_le_div_right hv)
      simp only [List.length_append, List.length_singleton]
      omega
end Go.Proofs.YtagocfifagnpkaaDoor
