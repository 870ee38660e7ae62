/-
  The program's Class, readable, Check, Decode and Count: what they tell.
-/
import Derived.Test.YtdmeeaojbajapaaDoorRefD
namespace Go.Proofs.YtdmeeaojbajapaaDoor
open Go.RowKit

theorem valid_at (s : ByteArray) (w : World) (hs : s.size ≤ 1000000000) (hT : Tabs w) :
    Calls Tryd.prog 27 #[.string s] w fun e w' => e = .returned (.bool (vls s 0)) ∧ Below w.heap.size w w' := by
  have := Tryd.utf8_ValidString s w (by omega) hT
  rw [validD_vls] at this
  exact this

set_option maxHeartbeats 1600000 in
set_option maxRecDepth 100000 in
/-- The program's own Class. -/
theorem goodClass (r : Int) (w : World) : Calls Tryd.prog 19 #[.int .i32 r] w fun e w' => e = .returned (.int .i64 (cls r)) ∧ w = w' := by
  obtain ⟨c, hc⟩ : ∃ c, cls r = c := ⟨_, rfl⟩
  obtain ⟨b, hb⟩ : ∃ b, Lib.validRune r = b := ⟨_, rfl⟩
  have hb' : b = true ↔ ((0 ≤ r ∧ r < 55296) ∨ (57343 < r ∧ r ≤ 1114111)) := by rw [← hb]; simp [Lib.validRune]
  have cV : ∀ W, Calls Tryd.prog 31 #[.int .i32 r] W _ := fun W => Tryd.utf8_ValidRune r W
  rw [hb] at cV
  rw [hc]
  have HC := Lib.hid hc
  have HB := Lib.hid hb'
  clear hc hb hb'
  cases b
  all_goals
    go_enter Tryd.func19, Tryd.ntmps19
    go_wp2_with (go_at_call 31; refine (cV _).mono ?_; rintro e w' ⟨rfl, rfl⟩)
    all_goals go_ret
    all_goals
      refine ⟨ret_i64 (HC.out.symm.trans (cls_is r _ ?_)), rfl⟩
      have hB := HB.out
      simp only [beq_iff_eq, beq_eq_false_iff_ne, ne_eq, and_true, Bool.false_eq_true, false_iff, true_iff] at *
      omega

set_option maxHeartbeats 1600000 in
set_option maxRecDepth 100000 in
theorem readable_any (r : Int) (w : World) : Calls Tryd.prog 30 #[.int .i32 r] w fun e w' => e = .returned (.bool (rdb r)) ∧ w = w' := by
  obtain ⟨c, hc⟩ : ∃ c, rdb r = c := ⟨_, rfl⟩
  have cC : ∀ W, Calls Tryd.prog 19 #[.int .i32 r] W _ := fun W => goodClass r W
  have h3 := cls_three r
  obtain ⟨k, hk⟩ : ∃ k, cls r = k := ⟨_, rfl⟩
  rw [hk] at cC h3
  rw [hc]
  have HC := Lib.hid hc
  have H3 := Lib.hid h3
  clear hc hk h3
  go_enter Tryd.func30, Tryd.ntmps30
  go_wp2_with (go_at_call 19; refine (cC _).mono ?_; rintro e w' ⟨rfl, rfl⟩)
  all_goals go_ret
  all_goals
    refine ⟨ret_b (HC.out.symm.trans (rdb_is r _ ?_)), rfl⟩
    have h3 := H3.out
    simp only [beq_iff_eq, beq_eq_false_iff_ne, ne_eq, Bool.false_eq_true, false_iff, true_iff] at *
    omega

set_option maxHeartbeats 1600000 in
set_option maxRecDepth 100000 in
theorem goodCheck (s : ByteArray) (w : World) (hs : s.size ≤ 1000000000) :
    Calls Tryd.prog 17 #[.string s] w (CkPost s w) := by
  by_cases hbig : 16384 < s.size
  · have hz : (16384 : Int) < (s.size : Int) := by omega
    go_enter Tryd.func17, Tryd.ntmps17
    go_wp2
    go_ret2
    exact ck_long hbig (Below.refl _ _)
  · have hz : ¬ (16384 : Int) < (s.size : Int) := by omega
    go_enter Tryd.func17, Tryd.ntmps17
    go_wp2
    go_loopw [] (fun wr => ∃ p : Nat, wr.heap[w.heap.size]? = some (.stringIter s p) ∧ Below w.heap.size w wr ∧ ck s p = ck s 0) (fun wr => s.size - wr.iterPos w.heap.size)
    case atStart => exact ⟨0, World.iter_heap w s 0, (Below.refl _ _).alloc (Nat.le_refl _) _, rfl⟩
    case round =>
      obtain ⟨p, hit, hbw, hc⟩ := hrel
      have HC := Lib.hid hc
      clear hc
      have hpos0 := iterPos_of hit
      by_cases hlt : p < s.size
      · have hnx : ∀ ty, (Instr.next (.pointer (some ⟨w.heap.size, 0, none⟩)) true ty).run Tryd.prog wr = _ := fun ty => Lib.run_next_any_at wr w.heap.size s p ty hit hlt
        have hw1 := dc_pos s p
        have hit2 := Lib.iterAt_heap wr w.heap.size s p (p + (dc s p).2) hit
        have hbw2 := Lib.below_iterAt hbw (k := w.heap.size) (Nat.le_refl _) s (p + (dc s p).2)
        have HS := Lib.hid (ck_stop (s := s) hlt)
        have HN := Lib.hid (ck_next (s := s) hlt)
        obtain ⟨r, k, hrk⟩ : ∃ r k, dc s p = (r, k) := ⟨_, _, rfl⟩
        rw [show Utf8.decode s p = (r, k) from hrk] at hnx
        rw [hrk] at hw1 hit2 hbw2 HS HN
        dsimp only at hw1 hit2 hbw2 HS HN hnx
        clear hrk
        obtain ⟨W1, hW1⟩ : ∃ W1, W1 = wr.iterAt w.heap.size s (p + k) := ⟨_, rfl⟩
        rw [← hW1] at hnx hit2 hbw2
        have hpos2 := iterPos_of hit2
        have HP0 := Lib.hid hpos0
        have HP2 := Lib.hid hpos2
        clear hW1 hpos0 hpos2 hit hbw
        have cR : ∀ W, Calls Tryd.prog 30 #[.int .i32 r] W _ := fun W => readable_any r W
        obtain ⟨b, hb⟩ : ∃ b, rdb r = b := ⟨_, rfl⟩
        rw [hb] at cR
        have HB := Lib.hid hb
        clear hb
        cases b
        · go_wp2_with (go_at_call 30; refine (cR _).mono ?_; rintro e w' ⟨rfl, rfl⟩)
          go_ret2
          exact ck_ret hbig (by rw [← HC.out]; exact HS.out HB.out) hbw2
        · go_wp2_with (go_at_call 30; refine (cR _).mono ?_; rintro e w' ⟨rfl, rfl⟩)
          go_roundw
          case rel => exact ⟨p + k, hit2, hbw2, by rw [← HN.out HB.out]; exact HC.out⟩
          case measure => rw [HP0.out, HP2.out]; omega
      · have hnx : ∀ ty, (Instr.next (.pointer (some ⟨w.heap.size, 0, none⟩)) true ty).run Tryd.prog wr = _ := fun ty => Lib.run_next_end_at wr w.heap.size s p ty hit hlt
        have HE := Lib.hid (ck_end hlt)
        clear hpos0
        go_wp2
        go_ret2
        exact ck_ret hbig (by rw [← HC.out]; exact HE.out) hbw
end Go.Proofs.YtdmeeaojbajapaaDoor
