/-
  The program's Move: what it tells.
-/
import Derived.Test.YtagocfifagnpkaaDoorNLng
namespace Go.Proofs.YtagocfifagnpkaaDoor
open Go.RowKit

theorem mv_is {s f t : ByteArray} (h : und s f = true) (ht : long t = true) : f.size ≤ s.size ∧ s.size ≤ 128 ∧ t.size ≤ 128 ∧
    mvR s f t = if (t ++ s.extract f.size s.size).size ≤ 128 then (t ++ s.extract f.size s.size, 0) else (⟨#[]⟩, 3) := by
  obtain ⟨h1, h2, h3⟩ := und_is.1 h
  obtain ⟨u, hu, _⟩ := und_text.2 h3
  have hz : f.size ≤ s.size := by rw [Lib.size_eq, Lib.size_eq, hu]; simp
  have e : s.extract f.size s.size = tx (s.data.toList.drop f.size) := by
    apply ba_ext
    rw [Lib.extract_data, tx_list]
    rw [List.take_of_length_le]
    rw [List.length_drop, Lib.size_eq]
    exact Nat.le_refl _
  refine ⟨hz, (long_is.1 h1).1, (long_is.1 ht).1, ?_⟩
  rw [e]
  exact mv_yes h ht (move_text h3)
set_option maxHeartbeats 3200000 in
set_option maxRecDepth 100000 in
theorem move_any (s f t : ByteArray) (w : World) (hs : s.size ≤ 1000000000) (hf : f.size ≤ 1000000000) (ht : t.size ≤ 1000000000) (hL : Nx w) :
    Calls Tryd.prog 25 #[.string s, .string f, .string t] w (SePost (mvR s f t) w) := by
  have c1 := under_any s f w hs hf hL
  have c2 := fun W (hL : Nx W) => long_any t W ht hL
  obtain ⟨a, ha⟩ : ∃ a, und s f = a := ⟨_, rfl⟩
  obtain ⟨b, hb⟩ : ∃ b, long t = b := ⟨_, rfl⟩
  rw [ha] at c1
  rw [hb] at c2
  have C2 := Lib.hid c2
  have HNX := Lib.hid hL
  clear hL c2
  cases a
  · have HU := Lib.hid (mv_no (t := t) (.inl ha))
    clear ha hb
    go_enter Tryd.func25, Tryd.ntmps25
    go_wp2_with fail
    refine c1.mono ?_
    rintro e w1 ⟨rfl, hb1⟩
    go_wp2
    go_ret2
    exact se_ret HU.out hb1
  · cases b
    · have HU := Lib.hid (mv_no (s := s) (f := f) (.inr hb))
      clear ha hb
      go_enter Tryd.func25, Tryd.ntmps25
      go_wp2_with fail
      refine c1.mono ?_
      rintro e w1 ⟨rfl, hb1⟩
      have HB1 := Lib.hid hb1
      clear hb1
      go_wp2_with fail
      refine (C2.out w1 (HNX.out.below HB1.out)).mono ?_
      rintro e w2 ⟨rfl, hb2⟩
      have hb3 := chn HB1.out hb2
      clear hb2
      go_wp2
      go_ret2
      exact se_ret HU.out hb3
    · obtain ⟨k1, k2, k3, k4⟩ := mv_is ha hb
      clear ha hb
      have kz : (f.size : Int) ≤ (s.size : Int) := by omega
      have e1 : (s.extract f.size s.size).size = s.size - f.size := by rw [Lib.size_eq, Lib.extract_data, List.length_take, List.length_drop, ← Lib.size_eq]; omega
      have e2 : (t ++ s.extract f.size s.size).size = t.size + (s.size - f.size) := by rw [app_size, e1]
      by_cases hbig : (t ++ s.extract f.size s.size).size ≤ 128
      · rw [if_pos hbig] at k4
        have HU := Lib.hid k4
        have E1 := Lib.hid e1
        have hz : ¬ (128 : Int) < ((t ++ s.extract f.size s.size).size : Int) := by omega
        have hz2 : ¬ (128 : Int) < (t.size : Int) + ((s.extract f.size s.size).size : Int) := by omega
        clear k4
        go_enter Tryd.func25, Tryd.ntmps25
        go_wp2_with fail
        refine c1.mono ?_
        rintro e w1 ⟨rfl, hb1⟩
        have HB1 := Lib.hid hb1
        clear hb1
        go_wp2_with fail
        refine (C2.out w1 (HNX.out.below HB1.out)).mono ?_
        rintro e w2 ⟨rfl, hb2⟩
        have hb3 := chn HB1.out hb2
        clear hb2
        go_wp2
        go_ret2
        exact se_ret HU.out hb3
      · rw [if_neg hbig] at k4
        have HU := Lib.hid k4
        have hz : (128 : Int) < ((t ++ s.extract f.size s.size).size : Int) := by omega
        have hz2 : (128 : Int) < (t.size : Int) + ((s.extract f.size s.size).size : Int) := by omega
        clear k4
        go_enter Tryd.func25, Tryd.ntmps25
        go_wp2_with fail
        refine c1.mono ?_
        rintro e w1 ⟨rfl, hb1⟩
        have HB1 := Lib.hid hb1
        clear hb1
        go_wp2_with fail
        refine (C2.out w1 (HNX.out.below HB1.out)).mono ?_
        rintro e w2 ⟨rfl, hb2⟩
        have hb3 := chn HB1.out hb2
        clear hb2
        go_wp2
        go_ret2
        exact se_ret HU.out hb3
end Go.Proofs.YtagocfifagnpkaaDoor
