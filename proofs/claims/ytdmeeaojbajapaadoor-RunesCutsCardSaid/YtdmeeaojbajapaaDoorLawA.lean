/-
  The laws' helpers few and works; the walks of RunesDecode, RunesClasses, RunesPlaces, RunesNames.
-/
import Derived.Test.YtdmeeaojbajapaaDoorGoodD
namespace Go.Proofs.YtdmeeaojbajapaaDoor
open Go.RowKit

def fw (s : ByteArray) : ByteArray := s.extract 0 (min s.size 300)
theorem fw_le (s : ByteArray) : (fw s).size ≤ 300 := by
  unfold fw
  rw [Lib.size_eq, Lib.extract_data, List.length_take]
  omega

set_option maxHeartbeats 1600000 in
set_option maxRecDepth 100000 in
theorem few_any (s : ByteArray) (w : World) (hs : s.size ≤ 9223372036854775807) :
    Calls Tryd.prog 10 #[.string s] w fun e w' => e = .returned (.string (fw s)) ∧ w = w' := by
  by_cases h : s.size ≤ 300
  · have HF : Hid (fw s = s) := Lib.hid (by unfold fw; rw [Nat.min_eq_left h, extract_all])
    have hz : (s.size : Int) ≤ 300 := by omega
    have hm : min (s.size : Int) 300 = (s.size : Int) := by omega
    have hm2 : min s.size 300 = s.size := by omega
    go_enter Tryd.func10, Tryd.ntmps10
    go_wp2
    all_goals go_ret
    all_goals exact ⟨ret_s HF.out, rfl⟩
  · have HF : Hid (fw s = s.extract 0 300) := Lib.hid (by unfold fw; rw [Nat.min_eq_right (by omega)])
    have hz : ¬ (s.size : Int) ≤ 300 := by omega
    have hz2 : (300 : Int) ≤ (s.size : Int) := by omega
    have hm : min (s.size : Int) 300 = 300 := by omega
    go_enter Tryd.func10, Tryd.ntmps10
    go_wp2
    all_goals go_ret
    all_goals exact ⟨ret_s HF.out, rfl⟩

theorem works_val : plr ⟨#[97, 10, 195, 169, 98]⟩ 4 = (2, 2, 0) := by kernel_rfl
theorem works_any (w : World) (hT : Tabs w) : Calls Tryd.prog 16 #[] w fun e w' => e = .returned (.bool true) ∧ Below w.heap.size w w' := by
  have cP := goodPlace ⟨#[97, 10, 195, 169, 98]⟩ 4 w (by decide) hT
  unfold PlPost at cP
  rw [works_val] at cP
  go_enter Tryd.func16, Tryd.ntmps16
  go_wp2_with (go_at_call 21; refine cP.mono ?_; rintro e w' ⟨rfl, hb⟩)
  go_ret
  exact ⟨rfl, hb⟩

def Yes (W : World) (e : Ending) (w' : World) : Prop := e = .returned (.bool true) ∧ Below W.heap.size W w'

theorem same_self {B B' : Nat} {v v' : Value} {l : List Nat} (w : World) (h : Sl w B v l) (h' : Sl w B' v' l) (hl : l.length ≤ 1000000000) :
    Calls Tryd.prog 13 #[v, v'] w (Yes w) :=
  (same_any w h h' hl).mono fun _ _ k => by
    have := same_below k
    exact ⟨by rw [this.1]; simp, this.2⟩

set_option maxHeartbeats 1600000 in
set_option maxRecDepth 100000 in
theorem lawDecode (s : ByteArray) (w : World) (hs : s.size ≤ 9223372036854775807) (hT : Tabs w) : Calls Tryd.prog 3 #[.string s] w (Yes w) := by
  have cF := few_any s w hs
  have ht := fw_le s
  generalize fw s = t at cF ht
  clear hs
  have hlen := rl_len t
  have hz : t.size ≤ 1000000000 := by omega
  go_enter Tryd.func3, Tryd.ntmps3
  go_wp2_with fail
  refine cF.mono ?_
  rintro e w' ⟨rfl, rfl⟩
  go_wp2_with fail
  refine (goodDecode t w hz hT).mono ?_
  rintro e w1 ⟨v1, rfl, hs1, hb1⟩
  have hT1 := hT.below hb1
  go_wp2_with fail
  refine (refDecode t w1 hz).mono ?_
  rintro e w2 ⟨v2, rfl, hs2, hb2⟩
  have hT2 := hT1.below hb2
  have hs1' := hs1.below hb2
  go_wp2_with fail
  refine (same_self w2 hs1' hs2 (by omega)).mono ?_
  rintro e w3 ⟨rfl, hb3⟩
  have hT3 := hT2.below hb3
  go_wp2_with fail
  refine (goodCount t w3 hz hT3).mono ?_
  rintro e w4 ⟨rfl, hb4⟩
  have hT4 := hT3.below hb4
  go_wp2_with fail
  refine (refCount t w4 hz).mono ?_
  rintro e w5 ⟨rfl, hb5⟩
  have hT5 := hT4.below hb5
  go_wp2_with fail
  refine (works_any w5 hT5).mono ?_
  rintro e w6 ⟨rfl, hb6⟩
  have hfin := chn (chn (chn (chn (chn hb1 hb2) hb3) hb4) hb5) hb6
  go_wp2
  go_ret
  exact ⟨rfl, hfin⟩

set_option maxHeartbeats 1600000 in
set_option maxRecDepth 100000 in
theorem lawPlaces (s : ByteArray) (n : Int) (w : World) (hs : s.size ≤ 9223372036854775807) (hT : Tabs w) : Calls Tryd.prog 5 #[.string s, .int .i64 n] w (Yes w) := by
  have cF := few_any s w hs
  have ht := fw_le s
  generalize fw s = t at cF ht
  clear hs
  have hz : t.size ≤ 1000000000 := by omega
  have c1 := goodPlace t n w hz hT
  have c2 : ∀ W, Calls Tryd.prog 22 #[.string t, .int .i64 n] W _ := fun W => refPlace t n W hz
  unfold PlPost at c1 c2
  obtain ⟨x, y, z, hx⟩ : ∃ x y z, plr t n = (x, y, z) := ⟨_, _, _, rfl⟩
  simp only [hx] at c1 c2
  clear hx
  go_enter Tryd.func5, Tryd.ntmps5
  go_wp2_with fail
  refine cF.mono ?_
  rintro e w' ⟨rfl, rfl⟩
  go_wp2_with fail
  refine c1.mono ?_
  rintro e w1 ⟨rfl, hb1⟩
  have hT1 := hT.below hb1
  go_wp2_with fail
  refine (c2 w1).mono ?_
  rintro e w2 ⟨rfl, hb2⟩
  have hT2 := hT1.below hb2
  go_wp2_with fail
  refine (works_any w2 hT2).mono ?_
  rintro e w3 ⟨rfl, hb3⟩
  have hfin := chn (chn hb1 hb2) hb3
  go_wp2
  go_ret
  exact ⟨rfl, hfin⟩

set_option maxHeartbeats 1600000 in
set_option maxRecDepth 100000 in
theorem lawNames (s : ByteArray) (n : Int) (w : World) (hs : s.size ≤ 9223372036854775807) (hn : -9223372036854775808 ≤ n ∧ n ≤ 9223372036854775807) (hT : Tabs w) :
    Calls Tryd.prog 6 #[.string s, .int .i64 n] w (Yes w) := by
  have cF := few_any s w hs
  have ht := fw_le s
  generalize fw s = t at cF ht
  clear hs
  have hz : t.size ≤ 1000000000 := by omega
  have c1 := goodName t w hz
  have c2 : ∀ W, Calls Tryd.prog 24 #[.string t] W _ := fun W => refName t W hz
  have c3 : ∀ W, Tabs W → Calls Tryd.prog 25 #[.string t, .int .i64 n] W _ := fun W hT => goodCut t n W hz hT hn
  have c4 : ∀ W, Calls Tryd.prog 26 #[.string t, .int .i64 n] W _ := fun W => refCut t n W hz
  generalize nm t = b at c1 c2
  generalize ctr t n = u at c3 c4
  have C3 := Lib.hid c3
  clear c3 hn
  go_enter Tryd.func6, Tryd.ntmps6
  go_wp2_with fail
  refine cF.mono ?_
  rintro e w' ⟨rfl, rfl⟩
  go_wp2_with fail
  refine c1.mono ?_
  rintro e w1 ⟨rfl, hb1⟩
  have hT1 := hT.below hb1
  go_wp2_with fail
  refine (c2 w1).mono ?_
  rintro e w2 ⟨rfl, hb2⟩
  have hT2 := hT1.below hb2
  go_wp2_with fail
  refine (C3.out w2 hT2).mono ?_
  rintro e w3 ⟨rfl, hb3⟩
  have hT3 := hT2.below hb3
  go_wp2_with fail
  refine (c4 w3).mono ?_
  rintro e w4 ⟨rfl, hb4⟩
  have hT4 := hT3.below hb4
  go_wp2_with fail
  refine (works_any w4 hT4).mono ?_
  rintro e w5 ⟨rfl, hb5⟩
  have hfin := chn (chn (chn (chn hb1 hb2) hb3) hb4) hb5
  go_wp2
  go_ret
  exact ⟨rfl, hfin⟩

def fwL (s : ByteArray) : ByteArray := s.extract 0 (min s.size 20000)
theorem fwL_le (s : ByteArray) : (fwL s).size ≤ 20000 := by
  unfold fwL
  rw [Lib.size_eq, Lib.extract_data, List.length_take]
  omega

set_option maxHeartbeats 1600000 in
set_option maxRecDepth 100000 in
theorem lawClasses_go (r : Int) (s t : ByteArray) (w : World) (h : (s.size ≤ 20000 ∧ t = s) ∨ (20000 < s.size ∧ t = s.extract 0 20000)) (ht : t.size ≤ 20000) (hT : Tabs w) :
    Calls Tryd.prog 4 #[.int .i32 r, .string s] w (Yes w) := by
  have hz : t.size ≤ 1000000000 := by omega
  have c1 := goodCheck t w hz
  have c2 : ∀ W, Calls Tryd.prog 18 #[.string t] W _ := fun W => refCheck t W hz
  unfold CkPost at c1 c2
  obtain ⟨x, y, hx⟩ : ∃ x y, (if 16384 < t.size then ((0 : Int), (3 : Int)) else ck t 0) = (x, y) := ⟨_, _, rfl⟩
  simp only [hx] at c1 c2
  clear hx
  have c3 : ∀ W, Calls Tryd.prog 19 #[.int .i32 r] W _ := fun W => goodClass r W
  have c4 : ∀ W, Calls Tryd.prog 20 #[.int .i32 r] W _ := fun W => refClass r W
  generalize cls r = k at c3 c4
  rcases h with ⟨h1, rfl⟩ | ⟨h1, h2⟩
  · have hz : (t.size : Int) ≤ 20000 := by omega
    have hm : min (t.size : Int) 20000 = (t.size : Int) := by omega
    have hm2 : min t.size 20000 = t.size := by omega
    go_enter Tryd.func4, Tryd.ntmps4
    go_wp2_with fail
    refine c1.mono ?_
    rintro e w1 ⟨rfl, hb1⟩
    have hT1 := hT.below hb1
    go_wp2_with fail
    refine (c2 w1).mono ?_
    rintro e w2 ⟨rfl, hb2⟩
    have hT2 := hT1.below hb2
    go_wp2_with fail
    refine (c3 w2).mono ?_
    rintro e w3 ⟨rfl, rfl⟩
    go_wp2_with fail
    refine (c4 w2).mono ?_
    rintro e w3 ⟨rfl, rfl⟩
    go_wp2_with fail
    refine (works_any w2 hT2).mono ?_
    rintro e w4 ⟨rfl, hb4⟩
    have hfin := chn (chn hb1 hb2) hb4
    go_wp2
    go_ret
    exact ⟨rfl, hfin⟩
  · have hz : ¬ (s.size : Int) ≤ 20000 := by omega
    have hz2 : (20000 : Int) ≤ (s.size : Int) := by omega
    have hm : min (s.size : Int) 20000 = 20000 := by omega
    rw [h2] at c1 c2
    go_enter Tryd.func4, Tryd.ntmps4
    go_wp2_with fail
    refine c1.mono ?_
    rintro e w1 ⟨rfl, hb1⟩
    have hT1 := hT.below hb1
    go_wp2_with fail
    refine (c2 w1).mono ?_
    rintro e w2 ⟨rfl, hb2⟩
    have hT2 := hT1.below hb2
    go_wp2_with fail
    refine (c3 w2).mono ?_
    rintro e w3 ⟨rfl, rfl⟩
    go_wp2_with fail
    refine (c4 w2).mono ?_
    rintro e w3 ⟨rfl, rfl⟩
    go_wp2_with fail
    refine (works_any w2 hT2).mono ?_
    rintro e w4 ⟨rfl, hb4⟩
    have hfin := chn (chn hb1 hb2) hb4
    go_wp2
    go_ret
    exact ⟨rfl, hfin⟩
theorem lawClasses (r : Int) (s : ByteArray) (w : World) (hT : Tabs w) : Calls Tryd.prog 4 #[.int .i32 r, .string s] w (Yes w) := by
  have hle := fwL_le s
  refine lawClasses_go r s (fwL s) w ?_ hle hT
  by_cases h : s.size ≤ 20000
  · exact .inl ⟨h, by unfold fwL; rw [Nat.min_eq_left h, extract_all]⟩
  · exact .inr ⟨by omega, by unfold fwL; rw [Nat.min_eq_right (by omega)]⟩
end Go.Proofs.YtdmeeaojbajapaaDoor
