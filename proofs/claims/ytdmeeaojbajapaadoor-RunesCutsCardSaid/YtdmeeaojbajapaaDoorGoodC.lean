/-
  The program's Place, Name and Cut: what they tell.
-/
import Derived.Test.YtdmeeaojbajapaaDoorGoodB
namespace Go.Proofs.YtdmeeaojbajapaaDoor
open Go.RowKit

set_option maxHeartbeats 1600000 in
set_option maxRecDepth 100000 in
theorem behind_any (l c : Int) (r : Nat) (w : World) (hl0 : 0 ≤ l) (hl : l ≤ 2000000000) (hc0 : 0 ≤ c) (hc : c ≤ 2000000000) :
    Calls Tryd.prog 33 #[.int .i64 l, .int .i64 c, .int .i32 (r : Int)] w fun e w' => e = .returned (.tuple #[.int .i64 (bhd (l, c) r).1, .int .i64 (bhd (l, c) r).2]) ∧ w = w' := by
  by_cases hr : r = 10
  · rw [bhd_nl hr]
    have e1 : ((r : Int) == 10) = true := by simp [hr]
    clear hr
    go_enter Tryd.func33, Tryd.ntmps33
    go_wp2
    go_ret2
    exact ⟨rfl, rfl⟩
  · rw [bhd_other hr]
    have e1 : ((r : Int) == 10) = false := by simp; omega
    clear hr
    go_enter Tryd.func33, Tryd.ntmps33
    go_wp2
    go_ret2
    exact ⟨rfl, rfl⟩

set_option maxHeartbeats 1600000 in
set_option maxRecDepth 100000 in
theorem mayStand_any (r : Int) (b : Bool) (w : World) :
    Calls Tryd.prog 34 #[.int .i32 r, .bool b] w fun e w' => e = .returned (.bool (mst r b)) ∧ w = w' := by
  have cC : ∀ W, Calls Tryd.prog 19 #[.int .i32 r] W _ := fun W => goodClass r W
  obtain ⟨k, hk⟩ : ∃ k, cls r = k := ⟨_, rfl⟩
  rw [hk] at cC
  have HT : Hid (∀ f, (k = 1 ∨ ((k = 2 ∨ r = 39) ∧ f = false)) → mst r f = true) := Lib.hid fun f h => mst_true hk h
  have HF : Hid (∀ f, (k ≠ 1 ∧ (f = true ∨ (k ≠ 2 ∧ r ≠ 39))) → mst r f = false) := Lib.hid fun f h => mst_false hk h
  clear hk
  obtain ⟨c, hc⟩ : ∃ c, mst r b = c := ⟨_, rfl⟩
  rw [hc]
  have HC := Lib.hid hc
  clear hc
  cases b
  all_goals
    go_enter Tryd.func34, Tryd.ntmps34
    go_wp2_with (go_at_call 19; refine (cC _).mono ?_; rintro e w' ⟨rfl, rfl⟩)
    all_goals go_ret
    all_goals
      refine ⟨ret_b (HC.out.symm.trans ?_), rfl⟩
      first
        | exact HT.out _ (by simp only [beq_iff_eq, beq_eq_false_iff_ne, ne_eq, and_true] at *; omega)
        | exact HF.out _ (by simp only [beq_iff_eq, beq_eq_false_iff_ne, ne_eq, true_or, and_true] at *; omega)
        | trace_state

set_option maxHeartbeats 1600000 in
set_option maxRecDepth 100000 in
theorem goodPlace (s : ByteArray) (at_ : Int) (w : World) (hs : s.size ≤ 1000000000) (hT : Tabs w) :
    Calls Tryd.prog 21 #[.string s, .int .i64 at_] w (PlPost s at_ w) := by
  by_cases hout : at_ < 0 ∨ (s.size : Int) < at_
  · rcases (show at_ < 0 ∨ (0 ≤ at_ ∧ (s.size : Int) < at_) by omega) with h1 | ⟨h0, h1⟩
    all_goals
      have HO := Lib.hid hout
      clear hout
      go_enter Tryd.func21, Tryd.ntmps21
      go_wp2
      go_ret3
      exact pl_out HO.out (Below.refl _ _)
  · have hz0 : 0 ≤ at_ := by omega
    have hz1 : at_ ≤ (s.size : Int) := by omega
    have HO := Lib.hid hout
    clear hout
    have cV := valid_at s w hs hT
    cases hv : vls s 0
    · rw [hv] at cV
      have HV := Lib.hid hv
      clear hv
      go_enter Tryd.func21, Tryd.ntmps21
      go_wp2_with (go_at_call 27; refine cV.mono ?_; rintro e w' ⟨rfl, hb⟩)
      go_ret3
      exact pl_bad HO.out HV.out hb
    · rw [hv] at cV
      have HV := Lib.hid hv
      clear hv
      go_enter Tryd.func21, Tryd.ntmps21
      go_wp2_with (go_at_call 27; refine cV.mono ?_; rintro e w1 ⟨rfl, hb1⟩)
      have hs1 := hb1.size
      obtain ⟨B, hB⟩ : ∃ B, w1.heap.size = B := ⟨_, rfl⟩
      have hit0 : (w1.iter s 0).heap[B]? = some (.stringIter s 0) := by rw [← hB]; exact World.iter_heap w1 s 0
      have hbi : Below w.heap.size w (w1.iter s 0) := hb1.alloc hs1 _
      rw [hB] at hs1 ⊢
      clear hb1 hB cV
      generalize w1.iter s 0 = wq at hit0 hbi ⊢
      go_loopw [4, 5] (fun a b wr => ∃ (p : Nat) (l c : Int), wr.heap[B]? = some (.stringIter s p) ∧ Below w.heap.size w wr ∧ a = .int .i64 l ∧ b = .int .i64 c ∧ p ≤ s.size ∧ 1 ≤ l ∧ l ≤ p + 1 ∧ 1 ≤ c ∧ c ≤ p + 1 ∧ pl s at_ (l, c) p = pl s at_ (1, 1) 0 ∧ vls s p = true) (fun _ _ wr => s.size - wr.iterPos B)
      case atStart => exact ⟨0, 1, 1, hit0, hbi, rfl, rfl, Nat.zero_le _, by omega, by omega, by omega, by omega, rfl, HV.out⟩
      case round =>
        obtain ⟨p, l, c, hit, hbw, rfl, rfl, hp, hl1, hl2, hc1, hc2, hpl, hv⟩ := hrel
        have HP := Lib.hid hpl
        clear hpl hit0 hbi
        have hpos0 := iterPos_of hit
        by_cases hlt : p < s.size
        · obtain ⟨hb', hvn⟩ := vls_head hlt hv
          have hrl := dc_runeLen hb'
          clear hb' hv
          have hnx : ∀ ty, (Instr.next (.pointer (some ⟨B, 0, none⟩)) true ty).run Tryd.prog wr = _ := fun ty => Lib.run_next_any_at wr B s p ty hit hlt
          have hw1 := dc_pos s p
          have hw2 := dc_le s p hlt
          have hit2 := Lib.iterAt_heap wr B s p (p + (dc s p).2) hit
          have hbw2 := Lib.below_iterAt hbw (k := B) hs1 s (p + (dc s p).2)
          have HS := Lib.hid (pl_stop (s := s) (at_ := at_) (st := (l, c)) hlt)
          have HN := Lib.hid (pl_next (s := s) (at_ := at_) (st := (l, c)) hlt)
          obtain ⟨r, k, hrk⟩ : ∃ r k, dc s p = (r, k) := ⟨_, _, rfl⟩
          rw [show Utf8.decode s p = (r, k) from hrk] at hnx
          rw [hrk] at hw1 hw2 hit2 hbw2 HS HN hvn hrl
          dsimp only at hw1 hw2 hit2 hbw2 HS HN hvn hnx hrl
          have HVN := Lib.hid hvn
          clear hrk hvn
          obtain ⟨W1, hW1⟩ : ∃ W1, W1 = wr.iterAt B s (p + k) := ⟨_, rfl⟩
          rw [← hW1] at hnx hit2 hbw2
          have hpos2 := iterPos_of hit2
          have HP0 := Lib.hid hpos0
          have HP2 := Lib.hid hpos2
          have HIT := Lib.hid hit2
          clear hW1 hpos0 hpos2 hit hbw hit2
          have cR : ∀ W, Calls Tryd.prog 32 #[.int .i32 r] W _ := fun W => Tryd.utf8_RuneLen r W
          rw [hrl] at cR
          clear hrl
          obtain ⟨l', c', hlc⟩ : ∃ l' c', bhd (l, c) r = (l', c') := ⟨_, _, rfl⟩
          have hbd : 1 ≤ l' ∧ l' ≤ l + 1 ∧ 1 ≤ c' ∧ c' ≤ c + 1 := by
            unfold bhd at hlc
            split at hlc
            all_goals (injection hlc with h1 h2; dsimp only at h1 h2; omega)
          have cB : ∀ W, Calls Tryd.prog 33 #[.int .i64 l, .int .i64 c, .int .i32 r] W _ := fun W => behind_any l c r W (by omega) (by omega) (by omega) (by omega)
          rw [hlc] at cB HN
          clear hlc
          by_cases hat : at_ < (p : Int) + (k : Int)
          · go_wp2_with (go_at_call 32; refine (cR _).mono ?_; rintro e w' ⟨rfl, rfl⟩)
            go_ret3
            exact pl_ret HO.out HV.out (by rw [← HP.out]; exact HS.out (by omega)) hbw2
          · go_wp2_with (first
              | (go_at_call 32; refine (cR _).mono ?_; rintro e w' ⟨rfl, rfl⟩)
              | (go_at_call 33; refine (cB _).mono ?_; rintro e w' ⟨rfl, rfl⟩))
            go_roundw
            case rel => exact ⟨p + k, l', c', HIT.out, hbw2, rfl, rfl, hw2, by omega, by omega, by omega, by omega, by rw [← HN.out (by omega)]; exact HP.out, HVN.out⟩
            case measure => rw [HP0.out, HP2.out]; omega
        · have hnx : ∀ ty, (Instr.next (.pointer (some ⟨B, 0, none⟩)) true ty).run Tryd.prog wr = _ := fun ty => Lib.run_next_end_at wr B s p ty hit hlt
          have HE := Lib.hid (pl_end (s := s) (at_ := at_) (st := (l, c)) hlt)
          clear hpos0
          go_wp2
          go_ret3
          exact pl_ret HO.out HV.out (by rw [← HP.out]; exact HE.out) hbw
end Go.Proofs.YtdmeeaojbajapaaDoor
