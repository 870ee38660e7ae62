/-
  The document's Words and Word: what they tell.
-/
import Derived.Test.YtagocfifagnpkaaDoorNVar
namespace Go.Proofs.YtagocfifagnpkaaDoor
open Go.RowKit

/-- The words' values. -/
def wdV : Array Value := (WORDS.map fun x => Value.string (T x)).toArray
def wdk (k : Nat) : List Nat := WORDS.getD k []
theorem wdV_at (k : Nat) (h : k < 29) : wdV[k]? = some (.string (T (wdk k))) := by
  unfold wdV wdk
  rw [List.getElem?_toArray, List.getElem?_map, List.getD_eq_getElem?_getD, List.getElem?_eq_getElem (show k < WORDS.length from h)]
  rfl
theorem words_any (w : World) : Calls Tryd.prog 52 #[] w fun e w' => e = .returned (.slice (some ⟨w.heap.size, 0, none⟩) 29 29) ∧ w' = w.alloc (.cells wdV 9) := by
  have hv : wdV = #[.string ⟨#[118, 97, 108]⟩] ++ wdV.extract 1 29 := by kernel_rfl
  clear hv
  go_enter Tryd.func52, Tryd.ntmps52
  go_wp2
  go_ret
  refine ⟨rfl, ?_⟩
  exact congrArg (fun c => w.alloc (.cells c 9)) (by kernel_rfl)
theorem wrd_hit {s : ByteArray} {k : Nat} (h : k < 29) (e : T (wdk k) = s) : wrd s = true := by
  unfold wrd
  rw [List.any_eq_true]
  refine ⟨wdk k, ?_, by rw [e]; simp⟩
  unfold wdk
  rw [List.getD_eq_getElem?_getD, List.getElem?_eq_getElem (show k < WORDS.length from h)]
  exact List.getElem_mem _
theorem wrd_miss {s : ByteArray} (h : ∀ k, k < 29 → T (wdk k) ≠ s) : wrd s = false := by
  unfold wrd
  rw [List.any_eq_false]
  intro x hx
  obtain ⟨k, hk, rfl⟩ := List.getElem_of_mem hx
  have := h k hk
  unfold wdk at this
  rw [List.getD_eq_getElem?_getD, List.getElem?_eq_getElem hk] at this
  simp only [Option.getD_some] at this
  rw [decide_eq_true_iff]
  exact fun e => this e.symm

set_option maxHeartbeats 3200000 in
set_option maxRecDepth 100000 in
theorem refWord (s : ByteArray) (w : World) : Calls Tryd.prog 38 #[.string s] w (NmPost (wrd s) w) := by
  have c1 := words_any w
  obtain ⟨V, hV⟩ : ∃ V, wdV = V := ⟨_, rfl⟩
  rw [hV] at c1
  have HV := Lib.hid hV
  clear hV
  go_enter Tryd.func38, Tryd.ntmps38
  go_wp2_with fail
  refine c1.mono ?_
  rintro e w1 ⟨rfl, rfl⟩
  go_wp2
  have hb0 : Below w.heap.size w (w.alloc (.cells V 9)) := (Below.refl _ _).alloc (Nat.le_refl _) _
  have hblk : (w.alloc (.cells V 9)).heap[w.heap.size]? = some (.cells V 9 (0, 0)) := heap_alloc_new w _
  generalize w.alloc (.cells V 9) = W0 at hb0 hblk ⊢
  go_loop [4] (fun i => ∃ k : Nat, k ≤ 29 ∧ i = .int .i64 k ∧ ∀ j, j < k → T (wdk j) ≠ s) (fun i => 29 - (intOf i).toNat)
  case atStart => exact ⟨0, Nat.zero_le _, rfl, fun j hj => absurd hj (Nat.not_lt_zero _)⟩
  case round =>
    obtain ⟨k, hk, rfl, hno⟩ := hrel
    have HNO := Lib.hid hno
    clear hno
    by_cases hlt : k < 29
    · have hcell : W0.cell? ⟨w.heap.size, k, none⟩ = some (.string (T (wdk k))) := by
        rw [cell_of_row W0 _ k _ _ _ hblk, ← HV.out]
        exact wdV_at k hlt
      obtain ⟨X, hX⟩ : ∃ X, T (wdk k) = X := ⟨_, rfl⟩
      rw [hX] at hcell
      have HX := Lib.hid hX
      clear hX
      by_cases he : X = s
      · have e1 : (X.toList == s.toList) = true := by rw [he]; simp
        have HE := Lib.hid he
        clear he
        go_wp2
        go_ret
        exact ⟨ret_b (wrd_hit hlt (HX.out.trans HE.out)), hb0⟩
      · have e1 : (X.toList == s.toList) = false := by
          rw [beq_eq_false_iff_ne]
          intro h
          rw [Lib.toList_data, Lib.toList_data] at h
          exact he (ba_ext h)
        have HE := Lib.hid he
        clear he
        go_wp2
        go_round
        case rel => exact ⟨k + 1, by omega, by go_num, fun j hj => by
          rcases Nat.lt_or_ge j k with h | h
          · exact HNO.out j h
          · rw [show j = k by omega, HX.out]; exact HE.out⟩
        case measure => simp [intOf]; omega
    · go_wp2
      go_ret
      exact ⟨ret_b (wrd_miss fun j hj => HNO.out j (by omega)), hb0⟩
end Go.Proofs.YtagocfifagnpkaaDoor
