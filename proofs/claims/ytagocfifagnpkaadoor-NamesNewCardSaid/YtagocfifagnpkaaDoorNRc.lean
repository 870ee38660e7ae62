/-
  The document's Check, pieces, Long, Split, Head and Rest: what they tell.
-/
import Derived.Test.YtagocfifagnpkaaDoorNLng
import Derived.Test.YtagocfifagnpkaaDoorNRefN
import Derived.Test.YtagocfifagnpkaaDoorNRefW
namespace Go.Proofs.YtagocfifagnpkaaDoor
open Go.RowKit

set_option maxHeartbeats 1600000 in
set_option maxRecDepth 100000 in
theorem refCk (s : ByteArray) (w : World) (hs : s.size ≤ 1000000000) : Calls Tryd.prog 14 #[.string s] w (NmPost (nck s) w) := by
  have cN := fun W => refName s W hs
  have cW := fun W => refWord s W
  obtain ⟨a, ha⟩ : ∃ a, nm s = a := ⟨_, rfl⟩
  obtain ⟨b, hb⟩ : ∃ b, wrd s = b := ⟨_, rfl⟩
  have HA := Lib.hid (nck_of ha hb)
  rw [ha] at cN
  rw [hb] at cW
  clear ha hb
  cases a
  · go_enter Tryd.func14, Tryd.ntmps14
    go_wp2_with fail
    refine (cN _).mono ?_
    rintro e w1 ⟨rfl, hb1⟩
    go_wp2
    go_ret
    exact nm_ret HA.out hb1
  · go_enter Tryd.func14, Tryd.ntmps14
    go_wp2_with fail
    refine (cN _).mono ?_
    rintro e w1 ⟨rfl, hb1⟩
    have HB1 := Lib.hid hb1
    clear hb1
    go_wp2_with fail
    refine (cW _).mono ?_
    rintro e w2 ⟨rfl, hb2⟩
    have hb3 := chn HB1.out hb2
    clear hb2
    go_wp2
    go_ret
    exact nm_ret (by rw [HA.out]; rfl) hb3

/-! ### pieces, place by place -/
/-- What stands from a place on. -/
def frm (s : ByteArray) (i : Nat) : List UInt8 := s.data.toList.drop i
/-- The pieces that are done, and the text from a place on, make the text's pieces; up to here there is no dot. -/
def PcRel (s : ByteArray) (out : List ByteArray) (a i : Nat) : Prop :=
  a ≤ i ∧ i ≤ s.size ∧ pc s = out ++ (pcl (frm s a)).map tx ∧ (46 : UInt8) ∉ (frm s a).take (i - a)
theorem pc_start (s : ByteArray) : PcRel s [] 0 0 := ⟨Nat.le_refl _, Nat.zero_le _, by simp [frm, pc], by simp⟩
theorem frm_at (s : ByteArray) (a i : Nat) (h1 : a ≤ i) (h2 : i < s.size) : frm s a = (frm s a).take (i - a) ++ s[i] :: frm s (i + 1) := by
  unfold frm
  have e : s[i] = s.data.toList[i]'(by rw [← Lib.size_eq]; exact h2) := by simp; rfl
  have h3 : i < s.data.toList.length := by rw [← Lib.size_eq]; exact h2
  rw [e]
  conv => lhs; rw [← List.take_append_drop (i - a) (s.data.toList.drop a)]
  rw [List.drop_drop, show a + (i - a) = i by omega, List.drop_eq_getElem_cons h3]
theorem ext_at (s : ByteArray) (a i : Nat) (_ : i ≤ s.size) : s.extract a i = tx ((frm s a).take (i - a)) := by
  apply ba_ext
  rw [Lib.extract_data, tx_list]
  rfl
theorem pc_dot {s : ByteArray} {out : List ByteArray} {a i : Nat} (h : PcRel s out a i) (hi : i < s.size) (hd : s[i] = 46) : PcRel s (out ++ [s.extract a i]) (i + 1) (i + 1) := by
  obtain ⟨h1, h2, h3, h4⟩ := h
  refine ⟨Nat.le_refl _, hi, ?_, by simp⟩
  rw [h3, ext_at s a i h2, List.append_assoc]
  congr 1
  have e := frm_at s a i h1 hi
  rw [hd] at e
  conv => lhs; rw [e, pcl_at h4]
  rfl
theorem pc_step {s : ByteArray} {out : List ByteArray} {a i : Nat} (h : PcRel s out a i) (hi : i < s.size) (hd : s[i] ≠ 46) : PcRel s out a (i + 1) := by
  obtain ⟨h1, h2, h3, h4⟩ := h
  refine ⟨by omega, hi, h3, ?_⟩
  have e := frm_at s a i h1 hi
  rw [e]
  rw [List.take_append, List.mem_append]
  have hl : ((frm s a).take (i - a)).length = i - a := by
    unfold frm
    rw [List.length_take, List.length_drop, ← Lib.size_eq]
    omega
  rintro (hm | hm)
  · exact h4 (List.mem_of_mem_take hm)
  · rw [hl, show i + 1 - a - (i - a) = 1 by omega, List.take_succ_cons, List.take_zero, List.mem_singleton] at hm
    exact hd hm.symm
theorem pc_end {s : ByteArray} {out : List ByteArray} {a : Nat} (h : PcRel s out a s.size) : pc s = out ++ [s.extract a s.size] := by
  obtain ⟨h1, h2, h3, h4⟩ := h
  rw [h3, ext_at s a s.size (Nat.le_refl _)]
  congr 1
  have : (frm s a).take (s.size - a) = frm s a := by
    apply List.take_of_length_le
    unfold frm
    rw [List.length_drop, ← Lib.size_eq]
    exact Nat.le_refl _
  rw [this] at h4 ⊢
  rw [pcl_none h4]
  rfl
def PiRel (s : ByteArray) (W : World) (v a i : Value) (wr : World) : Prop :=
  ∃ (out : List ByteArray) (x k : Nat), a = .int .i64 x ∧ i = .int .i64 k ∧ out.length ≤ k ∧ PcRel s out x k ∧ wr.ownsRow W.heap.size 9 1 v out.length (sv out) ∧ Below W.heap.size W wr
set_option maxHeartbeats 3200000 in
set_option maxRecDepth 100000 in
theorem pieces_any (s : ByteArray) (w : World) (hs : s.size ≤ 1000000) : Calls Tryd.prog 39 #[.string s] w (SsPost (pc s) w) := by
  obtain ⟨i0, hi, hz0, hz1, hz2⟩ := info_parts infoStr
  go_enter Tryd.func39, Tryd.ntmps39
  go_wp2
  go_loopw [3, 4, 5] (fun v a i wr => PiRel s w v a i wr) (fun _ _ i _ => s.size - (intOf i).toNat)
  case atStart => exact ⟨[], 0, 0, rfl, rfl, Nat.le_refl _, pc_start s, World.ownsRow_nil _ _ _ _, Below.refl _ _⟩
  case round =>
    obtain ⟨out, x, k, rfl, rfl, hok, hpc, hown, hbel⟩ := hrel
    have hxk := hpc.1
    have hks := hpc.2.1
    have hbs := hbel.size
    have HPC := Lib.hid hpc
    have HOWN := Lib.hid hown
    have HBEL := Lib.hid hbel
    clear hpc hown hbel
    by_cases hlt : k < s.size
    · by_cases hd : s[k] = 46
      · have hde : ((s[k].toNat : Int) == 46) = true := by rw [hd]; rfl
        have HD := Lib.hid hd
        clear hd
        go_wp2_with (at_builtin; (refine wpList_append_own _ rfl _ _ 22 rfl w.heap.size 9 i0 (.string ⟨#[]⟩) 1 16 Tryd.underlying22 hi hz0 hz1 hz2 rfl (by decide) _ _ _ rfl (HOWN.out.alloc _) ⟨wr.heap.size, 0, none⟩ 1 1 [.string (s.extract x k)] rfl rfl (cell_one_new _ _ _) (fun x hx => by simp at hx; subst hx; rfl) (by unfold maxLen; omega) (by omega) (by simp; omega) ?_); intro v' w4 hown4 hgrow4 _)
        have hbel := (HBEL.out.alloc hbs _).grown hgrow4 (by simp; omega) (fun g hg => (HOWN.out.lt g hg).1)
        have HBEL4 := Lib.hid hbel
        have HOWN4 := Lib.hid hown4
        clear hown4 hgrow4 hbel
        go_roundw
        case rel => exact ⟨out ++ [s.extract x k], k + 1, k + 1, by go_num, by go_num, by simp; omega, pc_dot HPC.out hlt HD.out, by simpa [sv] using HOWN4.out, HBEL4.out⟩
        case measure => simp [intOf]; omega
      · have hde : ((s[k].toNat : Int) == 46) = false := by
          rw [beq_eq_false_iff_ne]
          intro e
          apply hd
          apply UInt8.toNat.inj
          show s[k].toNat = 46
          omega
        have HD := Lib.hid hd
        clear hd
        go_wp2
        go_roundw
        case rel => exact ⟨out, x, k + 1, rfl, by go_num, by omega, pc_step HPC.out hlt HD.out, HOWN.out, HBEL.out⟩
        case measure => simp [intOf]; omega
    · have hks2 : k = s.size := by omega
      subst hks2
      go_wp2_with (at_builtin; (refine wpList_append_own _ rfl _ _ 22 rfl w.heap.size 9 i0 (.string ⟨#[]⟩) 1 16 Tryd.underlying22 hi hz0 hz1 hz2 rfl (by decide) _ _ _ rfl (HOWN.out.alloc _) ⟨wr.heap.size, 0, none⟩ 1 1 [.string (s.extract x s.size)] rfl rfl (cell_one_new _ _ _) (fun x hx => by simp at hx; subst hx; rfl) (by unfold maxLen; omega) (by omega) (by simp; omega) ?_); intro v' w4 hown4 hgrow4 _)
      have hbel := (HBEL.out.alloc hbs _).grown hgrow4 (by simp; omega) (fun g hg => (HOWN.out.lt g hg).1)
      have HBEL4 := Lib.hid hbel
      have HOWN4 := Lib.hid hown4
      clear hown4 hgrow4 hbel
      go_ret
      exact ss_own (pc_end HPC.out) (by simpa [sv] using HOWN4.out) HBEL4.out
end Go.Proofs.YtagocfifagnpkaaDoor
