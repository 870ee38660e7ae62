/-
  Layer 1, as far as layer 2 stands on it: Class, readable, Check, mayStand, Name: what they tell.
-/
import Derived.Test.YtagocfifagnpkaaDoorKit
namespace Go.Proofs.YtagocfifagnpkaaDoor
open Go.RowKit

set_option maxHeartbeats 1600000 in
set_option maxRecDepth 100000 in
/-- The program's own Class. -/
theorem goodClass (r : Int) (w : World) : Calls Tryd.prog 58 #[.int .i32 r] w fun e w' => e = .returned (.int .i64 (cls r)) ∧ w = w' := by
  obtain ⟨c, hc⟩ : ∃ c, cls r = c := ⟨_, rfl⟩
  obtain ⟨b, hb⟩ : ∃ b, Lib.validRune r = b := ⟨_, rfl⟩
  have hb' : b = true ↔ ((0 ≤ r ∧ r < 55296) ∨ (57343 < r ∧ r ≤ 1114111)) := by rw [← hb]; simp [Lib.validRune]
  have cV : ∀ W, Calls Tryd.prog 66 #[.int .i32 r] W _ := fun W => Tryd.utf8_ValidRune r W
  rw [hb] at cV
  rw [hc]
  have HC := Lib.hid hc
  have HB := Lib.hid hb'
  clear hc hb hb'
  cases b
  all_goals
    go_enter Tryd.func58, Tryd.ntmps58
    go_wp2_with (go_at_call 66; refine (cV _).mono ?_; rintro e w' ⟨rfl, rfl⟩)
    all_goals go_ret
    all_goals
      refine ⟨ret_i64 (HC.out.symm.trans (cls_is r _ ?_)), rfl⟩
      have hB := HB.out
      simp only [beq_iff_eq, beq_eq_false_iff_ne, ne_eq, and_true, Bool.false_eq_true, false_iff, true_iff] at *
      omega

set_option maxHeartbeats 1600000 in
set_option maxRecDepth 100000 in
theorem mayStand_any (r : Int) (b : Bool) (w : World) :
    Calls Tryd.prog 49 #[.int .i32 r, .bool b] w fun e w' => e = .returned (.bool (mst r b)) ∧ w = w' := by
  have cC : ∀ W, Calls Tryd.prog 58 #[.int .i32 r] W _ := fun W => goodClass r W
  obtain ⟨k, hk⟩ : ∃ k, cls r = k := ⟨_, rfl⟩
  rw [hk] at cC
  have HT : Hid (∀ f, (k = 1 ∨ ((k = 2 ∨ r = 39) ∧ f = false)) → mst r f = true) := Lib.hid fun f h => mst_true hk h
  have HF : Hid (∀ f, (k ≠ 1 ∧ (f = true ∨ (k ≠ 2 ∧ r ≠ 39))) → mst r f = false) := Lib.hid fun f h => mst_false hk h
  clear hk
  obtain ⟨c, hc⟩ : ∃ c, mst r b = c := ⟨_, rfl⟩
  rw [hc]
  have HC := Lib.hid hc
  clear hc
  cases b
  all_goals
    go_enter Tryd.func49, Tryd.ntmps49
    go_wp2_with (go_at_call 58; refine (cC _).mono ?_; rintro e w' ⟨rfl, rfl⟩)
    all_goals go_ret
    all_goals
      refine ⟨ret_b (HC.out.symm.trans ?_), rfl⟩
      first
        | exact HT.out _ (by simp only [beq_iff_eq, beq_eq_false_iff_ne, ne_eq, and_true] at *; omega)
        | exact HF.out _ (by simp only [beq_iff_eq, beq_eq_false_iff_ne, ne_eq, true_or, and_true] at *; omega)
        | trace_state

set_option maxHeartbeats 1600000 in
set_option maxRecDepth 100000 in
theorem goodName (s : ByteArray) (w : World) (hs : s.size ≤ 1000000000) :
    Calls Tryd.prog 35 #[.string s] w (NmPost (nm s) w) := by
  obtain ⟨ANS, hans⟩ : ∃ b, nm s = b := ⟨_, rfl⟩
  rw [hans]
  by_cases hsz : 1 ≤ s.size ∧ s.size ≤ 32
  · have HA := Lib.hid (hans.symm.trans (nm_of hsz))
    clear hans
    obtain ⟨h1, h2⟩ := hsz
    have hz2 : ¬ (32 : Int) < (s.size : Int) := by omega
    have hne : ¬ s.toList = [] := by
      intro e
      have h3 := Lib.size_eq s
      rw [← Lib.toList_data, e] at h3
      have h4 : ([] : List UInt8).length = 0 := rfl
      omega
    have hne2 : s.toList.isEmpty = false := by cases h : s.toList with
      | nil => exact absurd h hne
      | cons a t => rfl
    go_enter Tryd.func35, Tryd.ntmps35
    go_wp2
    have hit0 : (w.iter s 0).heap[w.heap.size]? = some (.stringIter s 0) := World.iter_heap w s 0
    have hbi : Below w.heap.size w (w.iter s 0) := (Below.refl _ _).alloc (Nat.le_refl _) _
    generalize w.iter s 0 = wq at hit0 hbi ⊢
    go_loopw [] (fun wr => ∃ (p : Nat), wr.heap[w.heap.size]? = some (.stringIter s p) ∧ Below w.heap.size w wr ∧ p ≤ s.size ∧ nmF s p = nmF s 0) (fun wr => s.size - wr.iterPos w.heap.size)
    case atStart => exact ⟨0, hit0, hbi, Nat.zero_le _, rfl⟩
    case round =>
      obtain ⟨p, hit, hbw, hp, hct⟩ := hrel
      have HC := Lib.hid hct
      clear hct hit0 hbi
      have hpos0 := iterPos_of hit
      by_cases hlt : p < s.size
      · have hnx : ∀ ty, (Instr.next (.pointer (some ⟨w.heap.size, 0, none⟩)) true ty).run Tryd.prog wr = _ := fun ty => Lib.run_next_any_at wr w.heap.size s p ty hit hlt
        have hw1 := dc_pos s p
        have hw2 := dc_le s p hlt
        have hit2 := Lib.iterAt_heap wr w.heap.size s p (p + (dc s p).2) hit
        have hbw2 := Lib.below_iterAt hbw (k := w.heap.size) (Nat.le_refl _) s (p + (dc s p).2)
        have HS := Lib.hid (nm_stop (s := s) hlt)
        have HN := Lib.hid (nm_next (s := s) hlt)
        obtain ⟨r, k, hrk⟩ : ∃ r k, dc s p = (r, k) := ⟨_, _, rfl⟩
        rw [show Utf8.decode s p = (r, k) from hrk] at hnx
        rw [hrk] at hw1 hw2 hit2 hbw2 HS HN
        dsimp only at hw1 hw2 hit2 hbw2 HS HN hnx
        clear hrk
        obtain ⟨W1, hW1⟩ : ∃ W1, W1 = wr.iterAt w.heap.size s (p + k) := ⟨_, rfl⟩
        rw [← hW1] at hnx hit2 hbw2
        have hpos2 := iterPos_of hit2
        have HP0 := Lib.hid hpos0
        have HP2 := Lib.hid hpos2
        have HIT := Lib.hid hit2
        clear hW1 hpos0 hpos2 hit hbw hit2
        obtain ⟨f0, hf0⟩ : ∃ f0, decide (p = 0) = f0 := ⟨_, rfl⟩
        rw [hf0] at HS HN
        have hf : ((p : Int) == 0) = f0 := by
          rw [← hf0, Bool.eq_iff_iff, beq_iff_eq, decide_eq_true_eq]
          omega
        clear hf0
        have cR : ∀ W, Calls Tryd.prog 49 #[.int .i32 r, .bool f0] W _ := fun W => mayStand_any r f0 W
        obtain ⟨b, hb⟩ : ∃ b, mst r f0 = b := ⟨_, rfl⟩
        rw [hb] at cR
        have HB := Lib.hid hb
        clear hb
        cases b
        · go_wp2_with (go_at_call 49; refine (cR _).mono ?_; rintro e w' ⟨rfl, rfl⟩)
          go_ret
          exact ⟨ret_b (by rw [HA.out, ← HC.out]; exact HS.out HB.out), hbw2⟩
        · go_wp2_with (go_at_call 49; refine (cR _).mono ?_; rintro e w' ⟨rfl, rfl⟩)
          go_roundw
          case rel => exact ⟨p + k, HIT.out, hbw2, hw2, by rw [← HN.out HB.out]; exact HC.out⟩
          case measure => rw [HP0.out, HP2.out]; omega
      · have hnx : ∀ ty, (Instr.next (.pointer (some ⟨w.heap.size, 0, none⟩)) true ty).run Tryd.prog wr = _ := fun ty => Lib.run_next_end_at wr w.heap.size s p ty hit hlt
        have HE := Lib.hid (nm_end hlt)
        clear hpos0
        go_wp2
        go_ret
        exact ⟨ret_b (by rw [HA.out, ← HC.out]; exact HE.out), hbw⟩
  · have HA := Lib.hid (hans.symm.trans (nm_size hsz))
    clear hans
    rcases (show s.size = 0 ∨ (1 ≤ s.size ∧ 32 < s.size) by omega) with h0 | ⟨h1, h2⟩
    · have hne : s.toList = [] := by
        rw [Lib.toList_data]
        exact List.eq_nil_of_length_eq_zero (by rw [← Lib.size_eq]; exact h0)
      have hne2 : s.toList.isEmpty = true := by rw [hne]; rfl
      clear h0 hsz
      go_enter Tryd.func35, Tryd.ntmps35
      go_wp2
      go_ret
      exact ⟨ret_b HA.out, Below.refl _ _⟩
    · have hne : ¬ s.toList = [] := by
        intro e
        have h3 := Lib.size_eq s
        rw [← Lib.toList_data, e] at h3
        have h4 : ([] : List UInt8).length = 0 := rfl
        omega
      have hne2 : s.toList.isEmpty = false := by cases h : s.toList with
        | nil => exact absurd h hne
        | cons a t => rfl
      have hz2 : (32 : Int) < (s.size : Int) := by omega
      clear hsz
      go_enter Tryd.func35, Tryd.ntmps35
      go_wp2
      go_ret
      exact ⟨ret_b HA.out, Below.refl _ _⟩
end Go.Proofs.YtagocfifagnpkaaDoor
