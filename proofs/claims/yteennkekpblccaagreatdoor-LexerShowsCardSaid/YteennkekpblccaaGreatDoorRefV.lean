/-
  The document's name: what it tells.
-/
import Derived.Test.YteennkekpblccaaGreatDoorRefU
import Derived.Test.YteennkekpblccaaGreatDoorRefW
namespace Go.Proofs.YteennkekpblccaaGreatDoor
open Go.RowKit

theorem number_ref (v : Value) (l : List Nat) (B i : Nat) (w : World) (h : Sl w B v l) (hB : B ≤ w.heap.size) (hl : l.length ≤ 1000000) (hi : i < l.length) :
    Calls Tryz.prog 36 #[v, .int .i64 (i : Int)] w (RT (numT (l.drop i)) i w) := by
  obtain ⟨r0, hr0⟩ : ∃ r, l[i]? = some r := ⟨_, List.getElem?_eq_getElem hi⟩
  by_cases h126 : r0 = 126
  · have e : numT (l.drop i) = digT true (l.drop (i + 1)) := by rw [drop_succ hr0, h126]; rfl
    have k := numNeg v l B i w h hB hl r0 hr0 h126
    rw [e]
    have hm : ((digT true (l.drop (i + 1))).map fun x => (x.1, x.2)) = digT true (l.drop (i + 1)) := by cases digT true (l.drop (i + 1)) <;> rfl
    rw [hm] at k
    exact k
  · have e : numT (l.drop i) = digT false (l.drop i) := numT_other fun d hd => h126 (by rw [drop_succ hr0] at hd; injection hd)
    rw [e]
    exact numPos v l B i w h hB hl r0 hr0 h126

/-! ### pieces behind dots -/
theorem spl_dot (x z : List Nat) : spl (x ++ 46 :: z) = spl x ++ spl z := by
  induction x with
  | nil => show spl (46 :: z) = [[]] ++ spl z; rw [spl, if_pos rfl]; rfl
  | cons a t ih =>
    by_cases ha : a = 46
    · subst ha
      show spl (46 :: (t ++ 46 :: z)) = _
      rw [spl, if_pos rfl, ih]
      conv => rhs; rw [spl, if_pos rfl]
      rfl
    · show spl (a :: (t ++ 46 :: z)) = _
      rw [spl_ne ha, ih, spl_ne ha]
      cases hs : spl t with
      | nil => have := (spl_len t).1; rw [hs] at this; simp at this
      | cons p q => rfl
theorem inr46 {r : Nat} (h : inr r = true) : r ≠ 46 := by
  rintro rfl
  exact absurd h (by decide)
theorem inr_no46 {x : List Nat} (h : ∀ r ∈ x, inr r = true) : 46 ∉ x := fun hm => inr46 (h 46 hm) rfl
theorem words_no46 : ∀ x ∈ WORDS, 46 ∉ x := by decide
theorem words_ascii : ∀ x ∈ WORDS, ∀ r ∈ x, r < 128 := by decide
theorem wrd_dot {x : List Nat} (ho : okl x) (h : 46 ∈ x) : wrd (T x) = false := by
  unfold wrd
  rw [List.any_eq_false]
  intro y hy
  rw [decide_eq_true_iff]
  intro e
  have := T_inj ho (ok_ascii (words_ascii y hy)) e
  subst this
  exact words_no46 x hy h
/-- What is known k runes behind i: the pieces gone over, whether all may stand. -/
structure NamRel (d : List Nat) (k : Nat) (b : Bool) : Prop where
  le : k ≤ d.length
  ps : (spl (d.take k)).all pcs = b
  cn : k + lrest (d.drop k) = cnt lng d
theorem nam_start {d : List Nat} {b : Bool} (hb : pcs (d.take (cnt inr d)) = b) : NamRel d (cnt inr d) b := by
  refine ⟨cnt_le _ _, ?_, ?_⟩
  · rw [spl_none (inr_no46 (cnt_take d))]
    simpa using hb
  · rw [cnt_lng d]; rfl
theorem nam_next {d t : List Nat} {k : Nat} (h : NamRel d k true) (ht : d.drop k = 46 :: t) {b : Bool} (hb : pcs (t.take (cnt inr t)) = b) : NamRel d (k + 1 + cnt inr t) b := by
  have hle := h.le
  have hl : (d.drop k).length = t.length + 1 := by rw [ht]; simp
  rw [List.length_drop] at hl
  have hc := cnt_le inr t
  have htk : d.take (k + 1 + cnt inr t) = d.take k ++ 46 :: t.take (cnt inr t) := by
    rw [Nat.add_assoc, List.take_add, ht, Nat.add_comm 1, List.take_succ_cons]
  refine ⟨by omega, ?_, ?_⟩
  · rw [htk, spl_dot, List.all_append, h.ps, Bool.true_and, spl_none (inr_no46 (cnt_take t))]
    simpa using hb
  · have h1 := h.cn
    rw [ht, lrest_dot] at h1
    have h2 : d.drop (k + 1 + cnt inr t) = t.drop (cnt inr t) := by
      rw [Nat.add_assoc, ← List.drop_drop, ht, Nat.add_comm 1]
      rfl
    rw [h2]
    omega
theorem nam_off {d : List Nat} {k : Nat} (h : NamRel d k false) (hw : wrd (T (d.take (cnt lng d))) = false) : nameT d = none := by
  unfold nameT
  rw [if_neg (by rw [hw]; simp), if_neg]
  intro hl
  unfold isLong at hl
  rw [Bool.and_eq_true] at hl
  have h1 := h.ps
  have hall := hl.2
  have hcn := h.cn
  have hle := h.le
  have hlc := cnt_le lng d
  have e : d.take (cnt lng d) = d.take k ++ (d.drop k).take (lrest (d.drop k)) := by rw [← hcn, List.take_add]
  rw [e] at hall
  have hpc : (fun y => !wrd (T y) && nm (T y)) = pcs := rfl
  rw [hpc] at hall
  cases hd : d.drop k with
  | nil => rw [hd] at hall; simp at hall; rw [List.all_eq_false] at h1; obtain ⟨y, hy, hp⟩ := h1; exact hp (hall y hy)
  | cons r t =>
    by_cases hr : r = 46
    · subst hr
      rw [hd] at hall
      have e2 : (46 :: t).take (lrest (46 :: t)) = 46 :: t.take (cnt lng t) := by
        show (46 :: t).take (1 + cnt lng t) = _
        rw [Nat.add_comm, List.take_succ_cons]
      rw [e2, spl_dot, List.all_append, Bool.and_eq_true] at hall
      rw [h1] at hall
      exact absurd hall.1 (by simp)
    · rw [hd] at hall
      have e2 : lrest (r :: t) = 0 := lrest_no (by
        cases hb : List.isPrefixOf [46] (r :: t)
        · rfl
        · obtain ⟨u, hu⟩ := List.isPrefixOf_iff_prefix.1 hb
          injection hu with h3 h4
          exact absurd h3.symm hr)
      rw [e2] at hall
      simp at hall
      rw [List.all_eq_false] at h1
      obtain ⟨y, hy, hp⟩ := h1
      exact hp (hall y hy)
end Go.Proofs.YteennkekpblccaaGreatDoor
