/-
  The document's Long, Split, Head, Rest, SameTexts, Has: what they tell.
-/
import Derived.Test.YtagocfifagnpkaaDoorNRc
namespace Go.Proofs.YtagocfifagnpkaaDoor
open Go.RowKit

set_option maxHeartbeats 3200000 in
set_option maxRecDepth 100000 in
theorem refLong (s : ByteArray) (w : World) (hs : s.size ≤ 1000000000) : Calls Tryd.prog 16 #[.string s] w (NmPost (long s) w) := by
  by_cases hbig : s.size ≤ 128
  · have hz : ¬ (128 : Int) < (s.size : Int) := by omega
    have cP := pieces_any s w (by omega)
    have hlen := pc_len s
    have hpz := pc_sz s
    have hlg : ∀ b, (pc s).all nck = b → long s = b := fun b h => by unfold long; rw [decide_eq_true hbig, h]; rfl
    obtain ⟨l, hl⟩ : ∃ l, pc s = l := ⟨_, rfl⟩
    rw [hl] at cP hlen hpz hlg
    have HLG := Lib.hid hlg
    have HPZ := Lib.hid hpz
    clear hl hlg hpz
    go_enter Tryd.func16, Tryd.ntmps16
    go_wp2_with fail
    refine cP.mono ?_
    rintro e w1 ⟨v, rfl, hv, hb1⟩
    obtain ⟨b, o, c, rfl, hlc, hblt, hcl⟩ := hv.form (by omega)
    have HCL := Lib.hid hcl
    have HB1 := Lib.hid hb1
    have hs1 := hb1.size
    clear hv hcl hb1
    go_wp2
    obtain ⟨n, hn⟩ : ∃ n, l.length = n := ⟨_, rfl⟩
    rw [hn] at hlen hlc ⊢
    have HN := Lib.hid hn
    clear hn
    go_loopw [4] (fun i wr => ∃ k : Nat, k ≤ n ∧ i = .int .i64 k ∧ Below w1.heap.size w1 wr ∧ (∀ (j : Nat) y, j < k → l[j]? = some y → nck y = true)) (fun i _ => n - (intOf i).toNat)
    case atStart => exact ⟨0, Nat.zero_le _, rfl, Below.refl _ _, fun j y hj => absurd hj (Nat.not_lt_zero _)⟩
    case round =>
      obtain ⟨k, hk, rfl, hbw, hall⟩ := hrel
      have HALL := Lib.hid hall
      clear hall
      by_cases hlt : k < n
      · obtain ⟨y, hy⟩ : ∃ y, l[k]? = some y := ⟨_, List.getElem?_eq_getElem (by rw [HN.out]; exact hlt)⟩
        have hcell := (hbw.cell (p := ⟨b, o + k, none⟩) hblt).trans (HCL.out k y hy)
        have hyz := HPZ.out y (List.mem_of_getElem? hy)
        have cK := fun W => refCk y W (by omega)
        have HY := Lib.hid hy
        have HBW := Lib.hid hbw
        have hbs := hbw.size
        obtain ⟨a, ha⟩ : ∃ a, nck y = a := ⟨_, rfl⟩
        rw [ha] at cK
        have HA := Lib.hid ha
        clear hy hyz ha hbw
        cases a
        · go_wp2_with fail
          refine (cK _).mono ?_
          rintro e w2 ⟨rfl, hb2⟩
          have hfin := HB1.out.trans ((HBW.out.trans (hb2.mono hbs)).mono hs1)
          clear hb2
          go_wp2
          go_ret
          exact nm_ret (HLG.out _ (all_not HY.out HA.out)) hfin
        · go_wp2_with fail
          refine (cK _).mono ?_
          rintro e w2 ⟨rfl, hb2⟩
          have hbw2 := HBW.out.trans (hb2.mono hbs)
          clear hb2
          go_wp2
          go_roundw
          case rel => exact ⟨k + 1, by omega, by go_num, hbw2, upto_next HALL.out HY.out HA.out⟩
          case measure => simp [intOf]; omega
      · have hkn : k = n := by omega
        subst hkn
        have hfin := HB1.out.trans (hbw.mono hs1)
        clear hbw
        go_wp2
        go_ret
        exact nm_ret (HLG.out _ (all_upto fun j y hj hy => HALL.out j y (by rw [← HN.out]; exact hj) hy)) hfin
  · have hz : (128 : Int) < (s.size : Int) := by omega
    go_enter Tryd.func16, Tryd.ntmps16
    go_wp2
    go_ret
    exact nm_ret (by unfold long; rw [decide_eq_false hbig]; rfl) (Below.refl _ _)
set_option maxHeartbeats 1600000 in
set_option maxRecDepth 100000 in
theorem refSplit (s : ByteArray) (w : World) (hs : s.size ≤ 1000000000) : Calls Tryd.prog 19 #[.string s] w (SsPost (splt s) w) := by
  have cL := refLong s w hs
  have hy := splt_long (s := s)
  have hn := splt_not (s := s)
  have hz := fun h => (long_is (s := s).1 h).1
  obtain ⟨a, ha⟩ : ∃ a, long s = a := ⟨_, rfl⟩
  rw [ha] at cL hy hn hz
  clear ha
  cases a
  · have HU := Lib.hid (hn rfl)
    clear hy hn hz
    go_enter Tryd.func19, Tryd.ntmps19
    go_wp2_with fail
    refine cL.mono ?_
    rintro e w1 ⟨rfl, hb1⟩
    go_wp2
    go_ret
    exact ss_nil HU.out hb1
  · have hz := hz rfl
    have cP := fun W => pieces_any s W (by omega)
    rw [hy rfl]
    obtain ⟨l, hl⟩ : ∃ l, pc s = l := ⟨_, rfl⟩
    rw [hl] at cP ⊢
    clear hy hn hl
    go_enter Tryd.func19, Tryd.ntmps19
    go_wp2_with fail
    refine cL.mono ?_
    rintro e w1 ⟨rfl, hb1⟩
    have HB1 := Lib.hid hb1
    clear hb1
    go_wp2_with fail
    refine (cP _).mono ?_
    rintro e w2 ⟨v, rfl, hv, hb2⟩
    have HV := Lib.hid hv
    have hb3 := chn HB1.out hb2
    clear hv hb2
    go_wp2
    go_ret
    exact ⟨v, rfl, HV.out, hb3⟩

theorem hd_nil {s : ByteArray} (h : splt s = []) : hd s = ⟨#[]⟩ := by unfold hd; rw [h]; rfl
theorem hd_at {s x : ByteArray} (h : (splt s)[0]? = some x) : hd s = x := by
  unfold hd
  cases hl : splt s with
  | nil => rw [hl] at h; simp at h
  | cons a b => rw [hl] at h; simpa using h
set_option maxHeartbeats 1600000 in
set_option maxRecDepth 100000 in
theorem refHead (s : ByteArray) (w : World) (hs : s.size ≤ 1000000000) : Calls Tryd.prog 21 #[.string s] w (TxPost (hd s) w) := by
  have cS := refSplit s w hs
  have h0 := hd_nil (s := s)
  have h1 := fun x => hd_at (s := s) (x := x)
  have hcn := splt_count s
  obtain ⟨l, hl⟩ : ∃ l, splt s = l := ⟨_, rfl⟩
  rw [hl] at cS h0 h1 hcn
  have H0 := Lib.hid h0
  have H1 := Lib.hid h1
  clear hl h0 h1
  by_cases hn : 0 < l.length
  · have hz : ((l.length : Int) == 0) = false := by rw [beq_eq_false_iff_ne]; omega
    have hz' : (0 : Int) < (l.length : Int) := by omega
    go_enter Tryd.func21, Tryd.ntmps21
    go_wp2_with fail
    refine cS.mono ?_
    rintro e w1 ⟨v, rfl, hv, hb1⟩
    obtain ⟨b, o, c, rfl, hlc, hblt, hcl⟩ := hv.form hn
    obtain ⟨x, hx⟩ : ∃ x, l[0]? = some x := ⟨_, List.getElem?_eq_getElem hn⟩
    have hcell := hcl 0 x hx
    rw [Nat.add_zero] at hcell
    have HX := Lib.hid hx
    clear hv hcl hx
    go_wp2
    go_ret
    exact tx_ret (H1.out _ HX.out) hb1
  · have hz : ((l.length : Int) == 0) = true := by rw [beq_iff_eq]; omega
    go_enter Tryd.func21, Tryd.ntmps21
    go_wp2_with fail
    refine cS.mono ?_
    rintro e w1 ⟨v, rfl, ⟨A, c, rfl, hlc, hcl⟩, hb1⟩
    clear hcl
    go_wp2
    go_ret
    exact tx_ret (H0.out (List.eq_nil_of_length_eq_zero (by omega))) hb1
theorem rst_few {s : ByteArray} (h : (splt s).length < 2) : rst s = ⟨#[]⟩ := by unfold rst; rw [if_pos h]
theorem rst_at {s x : ByteArray} (h : 2 ≤ (splt s).length) (hx : (splt s)[0]? = some x) : x.size + 1 ≤ s.size ∧ s.size ≤ 128 ∧ rst s = s.extract (x.size + 1) s.size := by
  cases hl : long s
  · rw [splt_not hl] at h; simp at h
  · rw [splt_long hl] at h hx
    cases hp : pc s with
    | nil => rw [hp] at h; simp at h
    | cons a r =>
      cases r with
      | nil => rw [hp] at h; simp at h
      | cons y t =>
        rw [hp] at hx
        obtain rfl : a = x := by simpa using hx
        obtain ⟨_, k2, k3⟩ := long_more hl hp
        have hz : s.size = a.size + 1 + (jb (y :: t)).size := by
          conv => lhs; rw [k3]
          rw [app_size, app_size, tx_size]
          rfl
        refine ⟨by omega, (long_is.1 hl).1, ?_⟩
        rw [k2]
        apply ba_ext
        rw [Lib.extract_data]
        have e : s.data.toList = (a ++ tx [46]).data.toList ++ (jb (y :: t)).data.toList := by
          conv => lhs; rw [k3]
          exact app_list _ _
        rw [e]
        have e2 : a.size + 1 = (a ++ tx [46]).data.toList.length := by rw [← Lib.size_eq, app_size, tx_size]; rfl
        rw [e2, List.drop_left, List.take_of_length_le]
        rw [← Lib.size_eq, ← e2]
        omega
set_option maxHeartbeats 1600000 in
set_option maxRecDepth 100000 in
theorem refRest (s : ByteArray) (w : World) (hs : s.size ≤ 1000000000) : Calls Tryd.prog 23 #[.string s] w (TxPost (rst s) w) := by
  have cS := refSplit s w hs
  have h0 := rst_few (s := s)
  have h1 := fun x => rst_at (s := s) (x := x)
  have hcn := splt_count s
  obtain ⟨l, hl⟩ : ∃ l, splt s = l := ⟨_, rfl⟩
  rw [hl] at cS h0 h1 hcn
  have H0 := Lib.hid h0
  have H1 := Lib.hid h1
  clear hl h0 h1
  by_cases hn : 2 ≤ l.length
  · have hz : ¬ (l.length : Int) < 2 := by omega
    have hz' : (0 : Int) < (l.length : Int) := by omega
    obtain ⟨x, hx⟩ : ∃ x, l[0]? = some x := ⟨_, List.getElem?_eq_getElem (by omega)⟩
    obtain ⟨k1, k2, k3⟩ := H1.out x hn hx
    have K3 := Lib.hid k3
    clear k3
    go_enter Tryd.func23, Tryd.ntmps23
    go_wp2_with fail
    refine cS.mono ?_
    rintro e w1 ⟨v, rfl, hv, hb1⟩
    obtain ⟨b, o, c, rfl, hlc, hblt, hcl⟩ := hv.form (by omega)
    have hcell := hcl 0 x hx
    rw [Nat.add_zero] at hcell
    clear hv hcl hx
    go_wp2
    go_ret
    exact tx_ret K3.out hb1
  · have hz : (l.length : Int) < 2 := by omega
    go_enter Tryd.func23, Tryd.ntmps23
    go_wp2_with fail
    refine cS.mono ?_
    rintro e w1 ⟨v, rfl, ⟨A, c, rfl, hlc, hcl⟩, hb1⟩
    clear hcl
    go_wp2
    go_ret
    exact tx_ret (H0.out (by omega)) hb1
end Go.Proofs.YtagocfifagnpkaaDoor
