/-
  The lexer's loops along a text: what goesOn, run, comment and between tell.
-/
import Derived.Test.YteennkekpblccaaGreatDoorRun
import Derived.Test.YteennkekpblccaaGreatDoorLexP
namespace Go.Proofs.YteennkekpblccaaGreatDoor
open Go.RowKit

theorem hasPre {s p : ByteArray} {b : Bool} (h : Lib.hasPrefix s.data.toList p.data.toList = b) (w : World) :
    Calls Tryz.prog 50 #[.string s, .string p] w fun e w' => e = .returned (.bool b) ∧ w = w' :=
  (Tryz.strings_HasPrefix s p w).mono fun _ _ k => ⟨by rw [k.1, h], k.2.symm⟩
def NatPost (n : Nat) (W : World) (e : Ending) (w' : World) : Prop := e = .returned (.int .i64 (n : Int)) ∧ Below W.heap.size W w'
theorem nat_ret {n m : Nat} {W w' : World} {z : Int} (h : n = m) (hz : z = (m : Int)) (hb : Below W.heap.size W w') : NatPost n W (.returned (.int .i64 z)) w' := ⟨by rw [h, hz], hb⟩

set_option maxHeartbeats 1600000 in
set_option maxRecDepth 100000 in
theorem goesOn_any (r : Int) (n : Nat) (hr : r = (n : Int)) (w : World) : Calls Tryz.prog 67 #[.int .i32 r] w fun e w' => e = .returned (.bool (inr n)) ∧ w = w' := by
  obtain ⟨c, hc⟩ : ∃ c, inr n = c := ⟨_, rfl⟩
  have cC : ∀ W, Calls Tryz.prog 46 #[.int .i32 r] W _ := fun W => goodClass r W
  obtain ⟨k, hk⟩ : ∃ k, cls r = k := ⟨_, rfl⟩
  have hin : decide (k = 1 ∨ k = 2 ∨ r = 39) = c := by
    rw [← hc, ← hk, hr]
    unfold inr
    rw [decide_eq_decide]
    omega
  rw [hk] at cC
  rw [hc]
  have HC := Lib.hid hin
  clear hc hk hin hr
  go_enter Tryz.func67, Tryz.ntmps67
  go_wp2_with (go_at_call 46; refine (cC _).mono ?_; rintro e w' ⟨rfl, rfl⟩)
  all_goals go_ret
  all_goals
    refine ⟨ret_b (HC.out.symm.trans ?_), rfl⟩
    first
      | (rw [decide_eq_true_iff]; omega)
      | (rw [Bool.eq_iff_iff]; simp only [decide_eq_true_iff, Bool.or_eq_true, beq_iff_eq]; omega)

set_option maxHeartbeats 1600000 in
set_option maxRecDepth 100000 in
theorem isBlank_any (r : Int) (n : Nat) (hr : r = (n : Int)) (w : World) : Calls Tryz.prog 45 #[.int .i32 r] w fun e w' => e = .returned (.bool (blk n)) ∧ w = w' := by
  have cC : ∀ W, Calls Tryz.prog 46 #[.int .i32 r] W _ := fun W => goodClass r W
  obtain ⟨k, hk⟩ : ∃ k, cls r = k := ⟨_, rfl⟩
  have hin : blk n = (k == 3) := by
    rw [← hk, hr]
    rfl
  rw [hk] at cC
  have HC := Lib.hid hin
  clear hk hin hr
  go_enter Tryz.func45, Tryz.ntmps45
  go_wp2_with (go_at_call 46; refine (cC _).mono ?_; rintro e w' ⟨rfl, rfl⟩)
  all_goals go_ret
  all_goals exact ⟨ret_b HC.out, rfl⟩

set_option maxHeartbeats 1600000 in
set_option maxRecDepth 100000 in
theorem isDigit_any (r : Int) (n : Nat) (hr : r = (n : Int)) (w : World) : Calls Tryz.prog 71 #[.int .i32 r] w fun e w' => e = .returned (.bool (dig n)) ∧ w = w' := by
  have cC : ∀ W, Calls Tryz.prog 46 #[.int .i32 r] W _ := fun W => goodClass r W
  obtain ⟨k, hk⟩ : ∃ k, cls r = k := ⟨_, rfl⟩
  have hin : dig n = (k == 2) := by
    rw [← hk, hr]
    rfl
  rw [hk] at cC
  have HC := Lib.hid hin
  clear hk hin hr
  go_enter Tryz.func71, Tryz.ntmps71
  go_wp2_with (go_at_call 46; refine (cC _).mono ?_; rintro e w' ⟨rfl, rfl⟩)
  all_goals go_ret
  all_goals exact ⟨ret_b HC.out, rfl⟩

set_option maxHeartbeats 1600000 in
set_option maxRecDepth 100000 in
theorem run_isBlank (s : ByteArray) (w : World) :
    Calls Tryz.prog 44 #[.string s, .func (.func 45) #[] #[]] w (NatPost (rn blk s 0) w) := by
  obtain ⟨ANS, hans⟩ : ∃ b, rn blk s 0 = b := ⟨_, rfl⟩
  rw [hans]
  have HA := Lib.hid hans
  clear hans
  go_enter Tryz.func44, Tryz.ntmps44
  go_wp2
  have hit0 : (w.iter s 0).heap[w.heap.size]? = some (.stringIter s 0) := World.iter_heap w s 0
  have hbi : Below w.heap.size w (w.iter s 0) := (Below.refl _ _).alloc (Nat.le_refl _) _
  generalize w.iter s 0 = wq at hit0 hbi ⊢
  go_loopw [] (fun wr => ∃ p : Nat, wr.heap[w.heap.size]? = some (.stringIter s p) ∧ Below w.heap.size w wr ∧ p ≤ s.size ∧ rn blk s p = ANS) (fun wr => s.size - wr.iterPos w.heap.size)
  case atStart => exact ⟨0, hit0, hbi, Nat.zero_le _, HA.out⟩
  case round =>
    obtain ⟨p, hit, hbw, hp, hc⟩ := hrel
    have HC := Lib.hid hc
    clear hc hit0 hbi
    have hpos0 := iterPos_of hit
    by_cases hlt : p < s.size
    · have hnx : ∀ ty, (Instr.next (.pointer (some ⟨w.heap.size, 0, none⟩)) true ty).run Tryz.prog wr = _ := fun ty => Lib.run_next_any_at wr w.heap.size s p ty hit hlt
      have hw1 := dc_pos s p
      have hw2 := dc_le s p hlt
      have hit2 := Lib.iterAt_heap wr w.heap.size s p (p + (dc s p).2) hit
      have hbw2 := Lib.below_iterAt hbw (k := w.heap.size) (Nat.le_refl _) s (p + (dc s p).2)
      have HS := Lib.hid (rn_stop (f := blk) (s := s) hlt)
      have HN := Lib.hid (rn_next (f := blk) (s := s) hlt)
      obtain ⟨r, k, hrk⟩ : ∃ r k, dc s p = (r, k) := ⟨_, _, rfl⟩
      rw [show Utf8.decode s p = (r, k) from hrk] at hnx
      rw [hrk] at hw1 hw2 hit2 hbw2 HS HN
      dsimp only at hw1 hw2 hit2 hbw2 HS HN hnx
      clear hrk
      obtain ⟨W1, hW1⟩ : ∃ W1, W1 = wr.iterAt w.heap.size s (p + k) := ⟨_, rfl⟩
      rw [← hW1] at hnx hit2 hbw2
      have hpos2 := iterPos_of hit2
      have HP0 := Lib.hid hpos0
      have HP2 := Lib.hid hpos2
      have HIT := Lib.hid hit2
      clear hW1 hpos0 hpos2 hit hbw hit2
      have cR : ∀ W, Calls Tryz.prog 45 #[.int .i32 r] W _ := fun W => isBlank_any r r rfl W
      obtain ⟨b, hb⟩ : ∃ b, blk r = b := ⟨_, rfl⟩
      rw [hb] at cR
      have HB := Lib.hid hb
      clear hb
      cases b
      · go_wp2_with (go_at_call 45; refine (cR _).mono ?_; rintro e w' ⟨rfl, rfl⟩)
        go_ret
        exact nat_ret (HC.out.symm.trans (HS.out HB.out)) rfl hbw2
      · go_wp2_with (go_at_call 45; refine (cR _).mono ?_; rintro e w' ⟨rfl, rfl⟩)
        go_roundw
        case rel => exact ⟨p + k, HIT.out, hbw2, hw2, by rw [← HN.out HB.out]; exact HC.out⟩
        case measure => rw [HP0.out, HP2.out]; omega
    · have hnx : ∀ ty, (Instr.next (.pointer (some ⟨w.heap.size, 0, none⟩)) true ty).run Tryz.prog wr = _ := fun ty => Lib.run_next_end_at wr w.heap.size s p ty hit hlt
      have HE := Lib.hid (rn_end (f := blk) hlt)
      clear hpos0
      go_wp2
      go_ret
      exact nat_ret (HC.out.symm.trans HE.out) rfl hbw

set_option maxHeartbeats 1600000 in
set_option maxRecDepth 100000 in
theorem run_isDigit (s : ByteArray) (w : World) :
    Calls Tryz.prog 44 #[.string s, .func (.func 71) #[] #[]] w (NatPost (rn dig s 0) w) := by
  obtain ⟨ANS, hans⟩ : ∃ b, rn dig s 0 = b := ⟨_, rfl⟩
  rw [hans]
  have HA := Lib.hid hans
  clear hans
  go_enter Tryz.func44, Tryz.ntmps44
  go_wp2
  have hit0 : (w.iter s 0).heap[w.heap.size]? = some (.stringIter s 0) := World.iter_heap w s 0
  have hbi : Below w.heap.size w (w.iter s 0) := (Below.refl _ _).alloc (Nat.le_refl _) _
  generalize w.iter s 0 = wq at hit0 hbi ⊢
  go_loopw [] (fun wr => ∃ p : Nat, wr.heap[w.heap.size]? = some (.stringIter s p) ∧ Below w.heap.size w wr ∧ p ≤ s.size ∧ rn dig s p = ANS) (fun wr => s.size - wr.iterPos w.heap.size)
  case atStart => exact ⟨0, hit0, hbi, Nat.zero_le _, HA.out⟩
  case round =>
    obtain ⟨p, hit, hbw, hp, hc⟩ := hrel
    have HC := Lib.hid hc
    clear hc hit0 hbi
    have hpos0 := iterPos_of hit
    by_cases hlt : p < s.size
    · have hnx : ∀ ty, (Instr.next (.pointer (some ⟨w.heap.size, 0, none⟩)) true ty).run Tryz.prog wr = _ := fun ty => Lib.run_next_any_at wr w.heap.size s p ty hit hlt
      have hw1 := dc_pos s p
      have hw2 := dc_le s p hlt
      have hit2 := Lib.iterAt_heap wr w.heap.size s p (p + (dc s p).2) hit
      have hbw2 := Lib.below_iterAt hbw (k := w.heap.size) (Nat.le_refl _) s (p + (dc s p).2)
      have HS := Lib.hid (rn_stop (f := dig) (s := s) hlt)
      have HN := Lib.hid (rn_next (f := dig) (s := s) hlt)
      obtain ⟨r, k, hrk⟩ : ∃ r k, dc s p = (r, k) := ⟨_, _, rfl⟩
      rw [show Utf8.decode s p = (r, k) from hrk] at hnx
      rw [hrk] at hw1 hw2 hit2 hbw2 HS HN
      dsimp only at hw1 hw2 hit2 hbw2 HS HN hnx
      clear hrk
      obtain ⟨W1, hW1⟩ : ∃ W1, W1 = wr.iterAt w.heap.size s (p + k) := ⟨_, rfl⟩
      rw [← hW1] at hnx hit2 hbw2
      have hpos2 := iterPos_of hit2
      have HP0 := Lib.hid hpos0
      have HP2 := Lib.hid hpos2
      have HIT := Lib.hid hit2
      clear hW1 hpos0 hpos2 hit hbw hit2
      have cR : ∀ W, Calls Tryz.prog 71 #[.int .i32 r] W _ := fun W => isDigit_any r r rfl W
      obtain ⟨b, hb⟩ : ∃ b, dig r = b := ⟨_, rfl⟩
      rw [hb] at cR
      have HB := Lib.hid hb
      clear hb
      cases b
      · go_wp2_with (go_at_call 71; refine (cR _).mono ?_; rintro e w' ⟨rfl, rfl⟩)
        go_ret
        exact nat_ret (HC.out.symm.trans (HS.out HB.out)) rfl hbw2
      · go_wp2_with (go_at_call 71; refine (cR _).mono ?_; rintro e w' ⟨rfl, rfl⟩)
        go_roundw
        case rel => exact ⟨p + k, HIT.out, hbw2, hw2, by rw [← HN.out HB.out]; exact HC.out⟩
        case measure => rw [HP0.out, HP2.out]; omega
    · have hnx : ∀ ty, (Instr.next (.pointer (some ⟨w.heap.size, 0, none⟩)) true ty).run Tryz.prog wr = _ := fun ty => Lib.run_next_end_at wr w.heap.size s p ty hit hlt
      have HE := Lib.hid (rn_end (f := dig) hlt)
      clear hpos0
      go_wp2
      go_ret
      exact nat_ret (HC.out.symm.trans HE.out) rfl hbw

set_option maxHeartbeats 1600000 in
set_option maxRecDepth 100000 in
theorem run_goesOn (s : ByteArray) (w : World) :
    Calls Tryz.prog 44 #[.string s, .func (.func 67) #[] #[]] w (NatPost (rn inr s 0) w) := by
  obtain ⟨ANS, hans⟩ : ∃ b, rn inr s 0 = b := ⟨_, rfl⟩
  rw [hans]
  have HA := Lib.hid hans
  clear hans
  go_enter Tryz.func44, Tryz.ntmps44
  go_wp2
  have hit0 : (w.iter s 0).heap[w.heap.size]? = some (.stringIter s 0) := World.iter_heap w s 0
  have hbi : Below w.heap.size w (w.iter s 0) := (Below.refl _ _).alloc (Nat.le_refl _) _
  generalize w.iter s 0 = wq at hit0 hbi ⊢
  go_loopw [] (fun wr => ∃ p : Nat, wr.heap[w.heap.size]? = some (.stringIter s p) ∧ Below w.heap.size w wr ∧ p ≤ s.size ∧ rn inr s p = ANS) (fun wr => s.size - wr.iterPos w.heap.size)
  case atStart => exact ⟨0, hit0, hbi, Nat.zero_le _, HA.out⟩
  case round =>
    obtain ⟨p, hit, hbw, hp, hc⟩ := hrel
    have HC := Lib.hid hc
    clear hc hit0 hbi
    have hpos0 := iterPos_of hit
    by_cases hlt : p < s.size
    · have hnx : ∀ ty, (Instr.next (.pointer (some ⟨w.heap.size, 0, none⟩)) true ty).run Tryz.prog wr = _ := fun ty => Lib.run_next_any_at wr w.heap.size s p ty hit hlt
      have hw1 := dc_pos s p
      have hw2 := dc_le s p hlt
      have hit2 := Lib.iterAt_heap wr w.heap.size s p (p + (dc s p).2) hit
      have hbw2 := Lib.below_iterAt hbw (k := w.heap.size) (Nat.le_refl _) s (p + (dc s p).2)
      have HS := Lib.hid (rn_stop (f := inr) (s := s) hlt)
      have HN := Lib.hid (rn_next (f := inr) (s := s) hlt)
      obtain ⟨r, k, hrk⟩ : ∃ r k, dc s p = (r, k) := ⟨_, _, rfl⟩
      rw [show Utf8.decode s p = (r, k) from hrk] at hnx
      rw [hrk] at hw1 hw2 hit2 hbw2 HS HN
      dsimp only at hw1 hw2 hit2 hbw2 HS HN hnx
      clear hrk
      obtain ⟨W1, hW1⟩ : ∃ W1, W1 = wr.iterAt w.heap.size s (p + k) := ⟨_, rfl⟩
      rw [← hW1] at hnx hit2 hbw2
      have hpos2 := iterPos_of hit2
      have HP0 := Lib.hid hpos0
      have HP2 := Lib.hid hpos2
      have HIT := Lib.hid hit2
      clear hW1 hpos0 hpos2 hit hbw hit2
      have cR : ∀ W, Calls Tryz.prog 67 #[.int .i32 r] W _ := fun W => goesOn_any r r rfl W
      obtain ⟨b, hb⟩ : ∃ b, inr r = b := ⟨_, rfl⟩
      rw [hb] at cR
      have HB := Lib.hid hb
      clear hb
      cases b
      · go_wp2_with (go_at_call 67; refine (cR _).mono ?_; rintro e w' ⟨rfl, rfl⟩)
        go_ret
        exact nat_ret (HC.out.symm.trans (HS.out HB.out)) rfl hbw2
      · go_wp2_with (go_at_call 67; refine (cR _).mono ?_; rintro e w' ⟨rfl, rfl⟩)
        go_roundw
        case rel => exact ⟨p + k, HIT.out, hbw2, hw2, by rw [← HN.out HB.out]; exact HC.out⟩
        case measure => rw [HP0.out, HP2.out]; omega
    · have hnx : ∀ ty, (Instr.next (.pointer (some ⟨w.heap.size, 0, none⟩)) true ty).run Tryz.prog wr = _ := fun ty => Lib.run_next_end_at wr w.heap.size s p ty hit hlt
      have HE := Lib.hid (rn_end (f := inr) hlt)
      clear hpos0
      go_wp2
      go_ret
      exact nat_ret (HC.out.symm.trans HE.out) rfl hbw
end Go.Proofs.YteennkekpblccaaGreatDoor
