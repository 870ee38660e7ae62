/-
  The program's Name and Cut: what they tell; the laws' helpers few and works.
-/
import Derived.Test.YtdmeeaojbajapaaDoorGoodC
namespace Go.Proofs.YtdmeeaojbajapaaDoor
open Go.RowKit

theorem extract_all (s : ByteArray) : s.extract 0 s.size = s := by
  apply ByteArray.ext
  apply Array.ext'
  rw [Lib.extract_data]
  rw [Nat.sub_zero, List.drop_zero, Lib.size_eq]
  exact List.take_length

set_option maxHeartbeats 1600000 in
set_option maxRecDepth 100000 in
theorem goodCut (s : ByteArray) (n : Int) (w : World) (hs : s.size ≤ 1000000000) (hT : Tabs w) (hn : -9223372036854775808 ≤ n ∧ n ≤ 9223372036854775807) :
    Calls Tryd.prog 25 #[.string s, .int .i64 n] w fun e w' => e = .returned (.string (ctr s n)) ∧ Below w.heap.size w w' := by
  obtain ⟨ANS, hans⟩ : ∃ b, ctr s n = b := ⟨_, rfl⟩
  rw [hans]
  have cV := valid_at s w hs hT
  cases hv : vls s 0
  · rw [hv] at cV
    have HA := Lib.hid (hans.symm.trans (ctr_false hv))
    clear hans hv
    go_enter Tryd.func25, Tryd.ntmps25
    go_wp2_with (go_at_call 27; refine cV.mono ?_; rintro e w' ⟨rfl, hb⟩)
    go_ret
    exact ⟨ret_s HA.out, hb⟩
  · rw [hv] at cV
    have HA := Lib.hid (hans.symm.trans (ctr_true hv))
    clear hans hv
    go_enter Tryd.func25, Tryd.ntmps25
    go_wp2_with (go_at_call 27; refine cV.mono ?_; rintro e w1 ⟨rfl, hb1⟩)
    have hs1 := hb1.size
    obtain ⟨B, hB⟩ : ∃ B, w1.heap.size = B := ⟨_, rfl⟩
    have hit0 : (w1.iter s 0).heap[B]? = some (.stringIter s 0) := by rw [← hB]; exact World.iter_heap w1 s 0
    have hbi : Below w.heap.size w (w1.iter s 0) := hb1.alloc hs1 _
    rw [hB] at hs1 ⊢
    clear hb1 hB cV
    generalize w1.iter s 0 = wq at hit0 hbi ⊢
    go_loopw [5] (fun v wr => ∃ (p : Nat) (m : Int), wr.heap[B]? = some (.stringIter s p) ∧ Below w.heap.size w wr ∧ v = .int .i64 m ∧ p ≤ s.size ∧ -9223372036854775808 ≤ m ∧ m ≤ 9223372036854775807 ∧ ct s m p = ct s n 0) (fun _ wr => s.size - wr.iterPos B)
    case atStart => exact ⟨0, n, hit0, hbi, rfl, Nat.zero_le _, hn.1, hn.2, rfl⟩
    case round =>
      obtain ⟨p, m, hit, hbw, rfl, hp, hm1, hm2, hct⟩ := hrel
      have HC := Lib.hid hct
      clear hct hit0 hbi
      have hpos0 := iterPos_of hit
      by_cases hlt : p < s.size
      · have hnx : ∀ ty, (Instr.next (.pointer (some ⟨B, 0, none⟩)) true ty).run Tryd.prog wr = _ := fun ty => Lib.run_next_any_at wr B s p ty hit hlt
        have hw1 := dc_pos s p
        have hw2 := dc_le s p hlt
        have hit2 := Lib.iterAt_heap wr B s p (p + (dc s p).2) hit
        have hbw2 := Lib.below_iterAt hbw (k := B) hs1 s (p + (dc s p).2)
        have HS := Lib.hid (ct_stop (s := s) (n := m) hlt)
        have HN := Lib.hid (ct_next (s := s) (n := m) hlt)
        obtain ⟨r, k, hrk⟩ : ∃ r k, dc s p = (r, k) := ⟨_, _, rfl⟩
        rw [show Utf8.decode s p = (r, k) from hrk] at hnx
        rw [hrk] at hw1 hw2 hit2 hbw2 HN
        dsimp only at hw1 hw2 hit2 hbw2 HN hnx
        clear hrk
        obtain ⟨W1, hW1⟩ : ∃ W1, W1 = wr.iterAt B s (p + k) := ⟨_, rfl⟩
        rw [← hW1] at hnx hit2 hbw2
        have hpos2 := iterPos_of hit2
        have HP0 := Lib.hid hpos0
        have HP2 := Lib.hid hpos2
        have HIT := Lib.hid hit2
        clear hW1 hpos0 hpos2 hit hbw hit2
        by_cases hm : m ≤ 0
        · have HE : Hid (ct s n 0 = p) := Lib.hid (by rw [← HC.out]; exact HS.out hm)
          have hp2 : (0 : Int) ≤ (p : Int) ∧ (p : Int) ≤ (s.size : Int) := by omega
          go_wp2
          go_ret
          exact ⟨ret_s (by rw [HA.out, HE.out]), hbw2⟩
        · go_wp2
          go_roundw
          case rel => exact ⟨p + k, m - 1, HIT.out, hbw2, rfl, hw2, by omega, by omega, by rw [← HN.out (by omega)]; exact HC.out⟩
          case measure => rw [HP0.out, HP2.out]; omega
      · have hnx : ∀ ty, (Instr.next (.pointer (some ⟨B, 0, none⟩)) true ty).run Tryd.prog wr = _ := fun ty => Lib.run_next_end_at wr B s p ty hit hlt
        have HE : Hid (ct s n 0 = s.size) := Lib.hid (by rw [← HC.out]; exact ct_end hlt)
        clear hpos0
        go_wp2
        go_ret
        exact ⟨ret_s (by rw [HA.out, HE.out, extract_all]), hbw⟩

set_option maxHeartbeats 1600000 in
set_option maxRecDepth 100000 in
theorem goodName (s : ByteArray) (w : World) (hs : s.size ≤ 1000000000) :
    Calls Tryd.prog 23 #[.string s] w (NmPost (nm s) w) := by
  obtain ⟨ANS, hans⟩ : ∃ b, nm s = b := ⟨_, rfl⟩
  rw [hans]
  by_cases hsz : 1 ≤ s.size ∧ s.size ≤ 32
  · have HA := Lib.hid (hans.symm.trans (nm_of hsz))
    clear hans
    obtain ⟨h1, h2⟩ := hsz
    have hz2 : ¬ (32 : Int) < (s.size : Int) := by omega
    have hne : ¬ s.toList = [] := by
      intro e
      have h3 := Lib.size_eq s
      rw [← Lib.toList_data, e] at h3
      have h4 : ([] : List UInt8).length = 0 := rfl
      omega
    have hne2 : s.toList.isEmpty = false := by cases h : s.toList with
      | nil => exact absurd h hne
      | cons a t => rfl
    go_enter Tryd.func23, Tryd.ntmps23
    go_wp2
    have hit0 : (w.iter s 0).heap[w.heap.size]? = some (.stringIter s 0) := World.iter_heap w s 0
    have hbi : Below w.heap.size w (w.iter s 0) := (Below.refl _ _).alloc (Nat.le_refl _) _
    generalize w.iter s 0 = wq at hit0 hbi ⊢
    go_loopw [] (fun wr => ∃ (p : Nat), wr.heap[w.heap.size]? = some (.stringIter s p) ∧ Below w.heap.size w wr ∧ p ≤ s.size ∧ nmF s p = nmF s 0) (fun wr => s.size - wr.iterPos w.heap.size)
    case atStart => exact ⟨0, hit0, hbi, Nat.zero_le _, rfl⟩
    case round =>
      obtain ⟨p, hit, hbw, hp, hct⟩ := hrel
      have HC := Lib.hid hct
      clear hct hit0 hbi
      have hpos0 := iterPos_of hit
      by_cases hlt : p < s.size
      · have hnx : ∀ ty, (Instr.next (.pointer (some ⟨w.heap.size, 0, none⟩)) true ty).run Tryd.prog wr = _ := fun ty => Lib.run_next_any_at wr w.heap.size s p ty hit hlt
        have hw1 := dc_pos s p
        have hw2 := dc_le s p hlt
        have hit2 := Lib.iterAt_heap wr w.heap.size s p (p + (dc s p).2) hit
        have hbw2 := Lib.below_iterAt hbw (k := w.heap.size) (Nat.le_refl _) s (p + (dc s p).2)
        have HS := Lib.hid (nm_stop (s := s) hlt)
        have HN := Lib.hid (nm_next (s := s) hlt)
        obtain ⟨r, k, hrk⟩ : ∃ r k, dc s p = (r, k) := ⟨_, _, rfl⟩
        rw [show Utf8.decode s p = (r, k) from hrk] at hnx
        rw [hrk] at hw1 hw2 hit2 hbw2 HS HN
        dsimp only at hw1 hw2 hit2 hbw2 HS HN hnx
        clear hrk
        obtain ⟨W1, hW1⟩ : ∃ W1, W1 = wr.iterAt w.heap.size s (p + k) := ⟨_, rfl⟩
        rw [← hW1] at hnx hit2 hbw2
        have hpos2 := iterPos_of hit2
        have HP0 := Lib.hid hpos0
        have HP2 := Lib.hid hpos2
        have HIT := Lib.hid hit2
        clear hW1 hpos0 hpos2 hit hbw hit2
        obtain ⟨f0, hf0⟩ : ∃ f0, decide (p = 0) = f0 := ⟨_, rfl⟩
        rw [hf0] at HS HN
        have hf : ((p : Int) == 0) = f0 := by
          rw [← hf0, Bool.eq_iff_iff, beq_iff_eq, decide_eq_true_eq]
          omega
        clear hf0
        have cR : ∀ W, Calls Tryd.prog 34 #[.int .i32 r, .bool f0] W _ := fun W => mayStand_any r f0 W
        obtain ⟨b, hb⟩ : ∃ b, mst r f0 = b := ⟨_, rfl⟩
        rw [hb] at cR
        have HB := Lib.hid hb
        clear hb
        cases b
        · go_wp2_with (go_at_call 34; refine (cR _).mono ?_; rintro e w' ⟨rfl, rfl⟩)
          go_ret
          exact ⟨ret_b (by rw [HA.out, ← HC.out]; exact HS.out HB.out), hbw2⟩
        · go_wp2_with (go_at_call 34; refine (cR _).mono ?_; rintro e w' ⟨rfl, rfl⟩)
          go_roundw
          case rel => exact ⟨p + k, HIT.out, hbw2, hw2, by rw [← HN.out HB.out]; exact HC.out⟩
          case measure => rw [HP0.out, HP2.out]; omega
      · have hnx : ∀ ty, (Instr.next (.pointer (some ⟨w.heap.size, 0, none⟩)) true ty).run Tryd.prog wr = _ := fun ty => Lib.run_next_end_at wr w.heap.size s p ty hit hlt
        have HE := Lib.hid (nm_end hlt)
        clear hpos0
        go_wp2
        go_ret
        exact ⟨ret_b (by rw [HA.out, ← HC.out]; exact HE.out), hbw⟩
  · have HA := Lib.hid (hans.symm.trans (nm_size hsz))
    clear hans
    rcases (show s.size = 0 ∨ (1 ≤ s.size ∧ 32 < s.size) by omega) with h0 | ⟨h1, h2⟩
    · have hne : s.toList = [] := by
        rw [Lib.toList_data]
        exact List.eq_nil_of_length_eq_zero (by rw [← Lib.size_eq]; exact h0)
      have hne2 : s.toList.isEmpty = true := by rw [hne]; rfl
      clear h0 hsz
      go_enter Tryd.func23, Tryd.ntmps23
      go_wp2
      go_ret
      exact ⟨ret_b HA.out, Below.refl _ _⟩
    · have hne : ¬ s.toList = [] := by
        intro e
        have h3 := Lib.size_eq s
        rw [← Lib.toList_data, e] at h3
        have h4 : ([] : List UInt8).length = 0 := rfl
        omega
      have hne2 : s.toList.isEmpty = false := by cases h : s.toList with
        | nil => exact absurd h hne
        | cons a t => rfl
      have hz2 : (32 : Int) < (s.size : Int) := by omega
      clear hsz
      go_enter Tryd.func23, Tryd.ntmps23
      go_wp2
      go_ret
      exact ⟨ret_b HA.out, Below.refl _ _⟩
end Go.Proofs.YtdmeeaojbajapaaDoor
