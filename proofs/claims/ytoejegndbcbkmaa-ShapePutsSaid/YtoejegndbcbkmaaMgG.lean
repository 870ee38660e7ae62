/-
  The document's Check, pieces, Long, Split, Head and Rest: what they tell.
-/
import Derived.Test.YtoejegndbcbkmaaMgE
import Derived.Test.YtoejegndbcbkmaaMgF
namespace Go.Proofs.Ytoejegndbcbkmaa.B
open Go.RowKit

set_option maxHeartbeats 1600000 in
set_option maxRecDepth 100000 in
theorem refCk (s : ByteArray) (w : World) (hs : s.size ≤ 1000000000) : Calls Try.prog 64 #[.string s] w (NmPost (nck s) w) := by
  have cN := fun W => refName s W hs
  have cW := fun W => refWord s W
  obtain ⟨a, ha⟩ : ∃ a, nm s = a := ⟨_, rfl⟩
  obtain ⟨b, hb⟩ : ∃ b, wrd s = b := ⟨_, rfl⟩
  have HA := Lib.hid (nck_of ha hb)
  rw [ha] at cN
  rw [hb] at cW
  clear ha hb
  cases a
  · go_enter Try.func64, Try.ntmps64
    go_wp2_with fail
    refine (cN _).mono ?_
    rintro e w1 ⟨rfl, hb1⟩
    go_wp2
    go_ret
    exact nm_ret HA.out hb1
  · go_enter Try.func64, Try.ntmps64
    go_wp2_with fail
    refine (cN _).mono ?_
    rintro e w1 ⟨rfl, hb1⟩
    have HB1 := Lib.hid hb1
    clear hb1
    go_wp2_with fail
    refine (cW _).mono ?_
    rintro e w2 ⟨rfl, hb2⟩
    have hb3 := chn HB1.out hb2
    clear hb2
    go_wp2
    go_ret
    exact nm_ret (by rw [HA.out]; rfl) hb3

/-! ### pieces, place by place -/
/-- What stands from a place on. -/
def frm (s : ByteArray) (i : Nat) : List UInt8 := s.data.toList.drop i
/-- The pieces that are done, and the text from a place on, make the text's pieces; up to here there is no dot. -/
def PcRel (s : ByteArray) (out : List ByteArray) (a i : Nat) : Prop :=
  a ≤ i ∧ i ≤ s.size ∧ pc s = out ++ (pcl (frm s a)).map tx ∧ (46 : UInt8) ∉ (frm s a).take (i - a)
theorem pc_start (s : ByteArray) : PcRel s [] 0 0 := ⟨Nat.le_refl _, Nat.zero_le _, by simp [frm, pc], by simp⟩
theorem frm_at (s : ByteArray) (a i : Nat) (h1 : a ≤ i) (h2 : i < s.size) : frm s a = (frm s a).take (i - a) ++ s[i] :: frm s (i + 1) := by
  unfold frm
  have e : s[i] = s.data.toList[i]'(by rw [← Lib.size_eq]; exact h2) := by simp; rfl
  have h3 : i < s.data.toList.length := by rw [← Lib.size_eq]; exact h2
  rw [e]
  conv => lhs; rw [← List.take_append_drop (i - a) (s.data.toList.drop a)]
  rw [List.drop_drop, show a + (i - a) = i by omega, List.drop_eq_getElem_cons h3]
theorem ext_at (s : ByteArray) (a i : Nat) (_ : i ≤ s.size) : s.extract a i = tx ((frm s a).take (i - a)) := by
  apply ba_ext
  rw [Lib.extract_data, tx_list]
  rfl
theorem pc_dot {s : ByteArray} {out : List ByteArray} {a i : Nat} (h : PcRel s out a i) (hi : i < s.size) (hd : s[i] = 46) : PcRel s (out ++ [s.extract a i]) (i + 1) (i + 1) := by
  obtain ⟨h1, h2, h3, h4⟩ := h
  refine ⟨Nat.le_refl _, hi, ?_, by simp⟩
  rw [h3, ext_at s a i h2, List.append_assoc]
  congr 1
  have e := frm_at s a i h1 hi
  rw [hd] at e
  conv => lhs; rw [e, pcl_at h4]
  rfl
theorem pc_step {s : ByteArray} {out : List ByteArray} {a i : Nat} (h : PcRel s out a i) (hi : i < s.size) (hd : s[i] ≠ 46) : PcRel s out a (i + 1) := by
  obtain ⟨h1, h2, h3, h4⟩ := h
  refine ⟨by omega, hi, h3, ?_⟩
  have e := frm_at s a i h1 hi
  rw [e]
  rw [List.take_append, List.mem_append]
  have hl : ((frm s a).take (i - a)).length = i - a := by
    unfold frm
    rw [List.length_take, List.length_drop, ← Lib.size_eq]
    omega
  rintro (hm | hm)
  · exact h4 (List.mem_of_mem_take hm)
  · rw [hl, show i + 1 - a - (i - a) = 1 by omega, List.take_succ_cons, List.take_zero, List.mem_singleton] at hm
    exact hd hm.symm
theorem pc_end {s : ByteArray} {out : List ByteArray} {a : Nat} (h : PcRel s out a s.size) : pc s = out ++ [s.extract a s.size] := by
  obtain ⟨h1, h2, h3, h4⟩ := h
  rw [h3, ext_at s a s.size (Nat.le_refl _)]
  congr 1
  have : (frm s a).take (s.size - a) = frm s a := by
    apply List.take_of_length_le
    unfold frm
    rw [List.length_drop, ← Lib.size_eq]
    exact Nat.le_refl _
  rw [this] at h4 ⊢
  rw [pcl_none h4]
  rfl
def PiRel (s : ByteArray) (W : World) (v a i : Value) (wr : World) : Prop :=
  ∃ (out : List ByteArray) (x k : Nat), a = .int .i64 x ∧ i = .int .i64 k ∧ out.length ≤ k ∧ PcRel s out x k ∧ wr.ownsRow W.heap.size 9 1 v out.length (sv out) ∧ Below W.heap.size W wr
set_option maxHeartbeats 3200000 in
set_option maxRecDepth 100000 in
theorem pieces_any (s : ByteArray) (w : World) (hs : s.size ≤ 1000000) : Calls Try.prog 80 #[.string s] w (SsPost (pc s) w) := by
  obtain ⟨i0, hi, hz0, hz1, hz2⟩ := info_parts infoStr
  go_enter Try.func80, Try.ntmps80
  go_wp2
  go_loopw [3, 4, 5] (fun v a i wr => PiRel s w v a i wr) (fun _ _ i _ => s.size - (intOf i).toNat)
  case atStart => exact ⟨[], 0, 0, rfl, rfl, Nat.le_refl _, pc_start s, World.ownsRow_nil _ _ _ _, Below.refl _ _⟩
  case round =>
    obtain ⟨out, x, k, rfl, rfl, hok, hpc, hown, hbel⟩ := hrel
    have hxk := hpc.1
    have hks := hpc.2.1
    have hbs := hbel.size
    have HPC := Lib.hid hpc
    have HOWN := Lib.hid hown
    have HBEL := Lib.hid hbel
    clear hpc hown hbel
    by_cases hlt : k < s.size
    · by_cases hd : s[k] = 46
      · have hde : ((s[k].toNat : Int) == 46) = true := by rw [hd]; rfl
        have HD := Lib.hid hd
        clear hd
        go_wp2_with (at_builtin; (refine wpList_append_own _ rfl _ _ 95 rfl w.heap.size 9 i0 (.string ⟨#[]⟩) 1 16 Try.underlying95 hi hz0 hz1 hz2 rfl (by decide) _ _ _ rfl (HOWN.out.alloc _) ⟨wr.heap.size, 0, none⟩ 1 1 [.string (s.extract x k)] rfl rfl (cell_one_new _ _ _) (fun x hx => by simp at hx; subst hx; rfl) (by unfold maxLen; omega) (by omega) (by simp; omega) ?_); intro v' w4 hown4 hgrow4 _)
        have hbel := (HBEL.out.alloc hbs _).grown hgrow4 (by simp; omega) (fun g hg => (HOWN.out.lt g hg).1)
        have HBEL4 := Lib.hid hbel
        have HOWN4 := Lib.hid hown4
        clear hown4 hgrow4 hbel
        go_roundw
        case rel => exact ⟨out ++ [s.extract x k], k + 1, k + 1, by go_num, by go_num, by simp; omega, pc_dot HPC.out hlt HD.out, by simpa [sv] using HOWN4.out, HBEL4.out⟩
        case measure => simp [intOf]; omega
      · have hde : ((s[k].toNat : Int) == 46) = false := by
          rw [beq_eq_false_iff_ne]
          intro e
          apply hd
          apply UInt8.toNat.inj
          show s[k].toNat = 46
          omega
        have HD := Lib.hid hd
        clear hd
        go_wp2
        go_roundw
        case rel => exact ⟨out, x, k + 1, rfl, by go_num, by omega, pc_step HPC.out hlt HD.out, HOWN.out, HBEL.out⟩
        case measure => simp [intOf]; omega
    · have hks2 : k = s.size := by omega
      subst hks2
      go_wp2_with (at_builtin; (refine wpList_append_own _ rfl _ _ 95 rfl w.heap.size 9 i0 (.string ⟨#[]⟩) 1 16 Try.underlying95 hi hz0 hz1 hz2 rfl (by decide) _ _ _ rfl (HOWN.out.alloc _) ⟨wr.heap.size, 0, none⟩ 1 1 [.string (s.extract x s.size)] rfl rfl (cell_one_new _ _ _) (fun x hx => by simp at hx; subst hx; rfl) (by unfold maxLen; omega) (by omega) (by simp; omega) ?_); intro v' w4 hown4 hgrow4 _)
      have hbel := (HBEL.out.alloc hbs _).grown hgrow4 (by simp; omega) (fun g hg => (HOWN.out.lt g hg).1)
      have HBEL4 := Lib.hid hbel
      have HOWN4 := Lib.hid hown4
      clear hown4 hgrow4 hbel
      go_ret
      exact ss_own (pc_end HPC.out) (by simpa [sv] using HOWN4.out) HBEL4.out
end Go.Proofs.Ytoejegndbcbkmaa.B
/-
  The document's Long, Split, Head, Rest, SameTexts, Has: what they tell.
-/
namespace Go.Proofs.Ytoejegndbcbkmaa.B
open Go.RowKit

set_option maxHeartbeats 3200000 in
set_option maxRecDepth 100000 in
theorem refLong (s : ByteArray) (w : World) (hs : s.size ≤ 1000000000) : Calls Try.prog 65 #[.string s] w (NmPost (long s) w) := by
  by_cases hbig : s.size ≤ 128
  · have hz : ¬ (128 : Int) < (s.size : Int) := by omega
    have cP := pieces_any s w (by omega)
    have hlen := pc_len s
    have hpz := pc_sz s
    have hlg : ∀ b, (pc s).all nck = b → long s = b := fun b h => by unfold long; rw [decide_eq_true hbig, h]; rfl
    obtain ⟨l, hl⟩ : ∃ l, pc s = l := ⟨_, rfl⟩
    rw [hl] at cP hlen hpz hlg
    have HLG := Lib.hid hlg
    have HPZ := Lib.hid hpz
    clear hl hlg hpz
    go_enter Try.func65, Try.ntmps65
    go_wp2_with fail
    refine cP.mono ?_
    rintro e w1 ⟨v, rfl, hv, hb1⟩
    obtain ⟨b, o, c, rfl, hlc, hblt, hcl⟩ := hv.form (by omega)
    have HCL := Lib.hid hcl
    have HB1 := Lib.hid hb1
    have hs1 := hb1.size
    clear hv hcl hb1
    go_wp2
    obtain ⟨n, hn⟩ : ∃ n, l.length = n := ⟨_, rfl⟩
    rw [hn] at hlen hlc ⊢
    have HN := Lib.hid hn
    clear hn
    go_loopw [4] (fun i wr => ∃ k : Nat, k ≤ n ∧ i = .int .i64 k ∧ Below w1.heap.size w1 wr ∧ (∀ (j : Nat) y, j < k → l[j]? = some y → nck y = true)) (fun i _ => n - (intOf i).toNat)
    case atStart => exact ⟨0, Nat.zero_le _, rfl, Below.refl _ _, fun j y hj => absurd hj (Nat.not_lt_zero _)⟩
    case round =>
      obtain ⟨k, hk, rfl, hbw, hall⟩ := hrel
      have HALL := Lib.hid hall
      clear hall
      by_cases hlt : k < n
      · obtain ⟨y, hy⟩ : ∃ y, l[k]? = some y := ⟨_, List.getElem?_eq_getElem (by rw [HN.out]; exact hlt)⟩
        have hcell := (hbw.cell (p := ⟨b, o + k, none⟩) hblt).trans (HCL.out k y hy)
        have hyz := HPZ.out y (List.mem_of_getElem? hy)
        have cK := fun W => refCk y W (by omega)
        have HY := Lib.hid hy
        have HBW := Lib.hid hbw
        have hbs := hbw.size
        obtain ⟨a, ha⟩ : ∃ a, nck y = a := ⟨_, rfl⟩
        rw [ha] at cK
        have HA := Lib.hid ha
        clear hy hyz ha hbw
        cases a
        · go_wp2_with fail
          refine (cK _).mono ?_
          rintro e w2 ⟨rfl, hb2⟩
          have hfin := HB1.out.trans ((HBW.out.trans (hb2.mono hbs)).mono hs1)
          clear hb2
          go_wp2
          go_ret
          exact nm_ret (HLG.out _ (all_not HY.out HA.out)) hfin
        · go_wp2_with fail
          refine (cK _).mono ?_
          rintro e w2 ⟨rfl, hb2⟩
          have hbw2 := HBW.out.trans (hb2.mono hbs)
          clear hb2
          go_wp2
          go_roundw
          case rel => exact ⟨k + 1, by omega, by go_num, hbw2, upto_next HALL.out HY.out HA.out⟩
          case measure => simp [intOf]; omega
      · have hkn : k = n := by omega
        subst hkn
        have hfin := HB1.out.trans (hbw.mono hs1)
        clear hbw
        go_wp2
        go_ret
        exact nm_ret (HLG.out _ (all_upto fun j y hj hy => HALL.out j y (by rw [← HN.out]; exact hj) hy)) hfin
  · have hz : (128 : Int) < (s.size : Int) := by omega
    go_enter Try.func65, Try.ntmps65
    go_wp2
    go_ret
    exact nm_ret (by unfold long; rw [decide_eq_false hbig]; rfl) (Below.refl _ _)
theorem hd_nil {s : ByteArray} (h : splt s = []) : hd s = ⟨#[]⟩ := by unfold hd; rw [h]; rfl
theorem hd_at {s x : ByteArray} (h : (splt s)[0]? = some x) : hd s = x := by
  unfold hd
  cases hl : splt s with
  | nil => rw [hl] at h; simp at h
  | cons a b => rw [hl] at h; simpa using h
theorem rst_few {s : ByteArray} (h : (splt s).length < 2) : rst s = ⟨#[]⟩ := by unfold rst; rw [if_pos h]
theorem rst_at {s x : ByteArray} (h : 2 ≤ (splt s).length) (hx : (splt s)[0]? = some x) : x.size + 1 ≤ s.size ∧ s.size ≤ 128 ∧ rst s = s.extract (x.size + 1) s.size := by
  cases hl : long s
  · rw [splt_not hl] at h; simp at h
  · rw [splt_long hl] at h hx
    cases hp : pc s with
    | nil => rw [hp] at h; simp at h
    | cons a r =>
      cases r with
      | nil => rw [hp] at h; simp at h
      | cons y t =>
        rw [hp] at hx
        obtain rfl : a = x := by simpa using hx
        obtain ⟨_, k2, k3⟩ := long_more hl hp
        have hz : s.size = a.size + 1 + (jb (y :: t)).size := by
          conv => lhs; rw [k3]
          rw [app_size, app_size, tx_size]
          rfl
        refine ⟨by omega, (long_is.1 hl).1, ?_⟩
        rw [k2]
        apply ba_ext
        rw [Lib.extract_data]
        have e : s.data.toList = (a ++ tx [46]).data.toList ++ (jb (y :: t)).data.toList := by
          conv => lhs; rw [k3]
          exact app_list _ _
        rw [e]
        have e2 : a.size + 1 = (a ++ tx [46]).data.toList.length := by rw [← Lib.size_eq, app_size, tx_size]; rfl
        rw [e2, List.drop_left, List.take_of_length_le]
        rw [← Lib.size_eq, ← e2]
        omega
end Go.Proofs.Ytoejegndbcbkmaa.B
