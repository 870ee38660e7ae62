/-
  The walks of RunesBack, RunesCuts, RunesLines.
-/
import Derived.Test.YtdmeeaojbajapaaDoorLawA
import Derived.Test.YtdmeeaojbajapaaDoorUtfC
namespace Go.Proofs.YtdmeeaojbajapaaDoor
open Go.RowKit

theorem exNil (s : ByteArray) : s.extract 0 0 = ⟨#[]⟩ := by
  apply ByteArray.ext
  apply Array.ext'
  rw [Lib.extract_data]
  simp

/-! ### RunesBack -/
set_option maxHeartbeats 1600000 in
set_option maxRecDepth 100000 in
theorem lawBack (s : ByteArray) (w : World) (hs : s.size ≤ 9223372036854775807) (hT : Tabs w) : Calls Tryd.prog 7 #[.string s] w (Yes w) := by
  have cF := few_any s w hs
  have ht := fw_le s
  generalize fw s = t at cF ht
  clear hs
  have hz : t.size ≤ 1000000000 := by omega
  have cD := goodDecode t w hz hT
  have cC : ∀ W, Tabs W → Calls Tryd.prog 14 #[.string t] W _ := fun W h => goodCount t W hz h
  unfold DecPost at cD
  cases hv : vls t 0
  · rw [er_false hv, rl_false hv] at cD
    clear cC hv
    go_enter Tryd.func7, Tryd.ntmps7
    go_wp2_with fail
    refine cF.mono ?_
    rintro e w' ⟨rfl, rfl⟩
    go_wp2_with fail
    refine cD.mono ?_
    rintro e w1 ⟨v1, rfl, ⟨A, c, rfl, hc⟩, hb1⟩
    have hT1 := hT.below hb1
    clear hc
    go_wp2_with fail
    refine (works_any w1 hT1).mono ?_
    rintro e w2 ⟨rfl, hb2⟩
    have hfin := chn hb1 hb2
    go_wp2
    go_ret
    exact ⟨rfl, hfin⟩
  · rw [er_true hv, rl_true hv] at cD
    rw [rl_true hv] at cC
    have HV := Lib.hid hv
    clear hv
    have hlen := rns_len_le t 0
    obtain ⟨l, hl⟩ : ∃ l, rns t 0 = l := ⟨_, rfl⟩
    rw [hl] at cD cC hlen
    have HLL := Lib.hid hl
    have CC := Lib.hid cC
    clear hl cC
    go_enter Tryd.func7, Tryd.ntmps7
    go_wp2_with fail
    refine cF.mono ?_
    rintro e w' ⟨rfl, rfl⟩
    go_wp2_with fail
    refine cD.mono ?_
    rintro e w1 ⟨v1, rfl, ⟨A, c, rfl, hc⟩, hb1⟩
    have hT1 := hT.below hb1
    have HC := Lib.hid hc
    clear hc cD cF
    go_wp2
    go_loop [5, 29] (fun a i => ∃ k p : Nat, i = .int .i64 k ∧ a = .string (t.extract 0 p) ∧ p ≤ t.size ∧ k ≤ l.length ∧ rns t p = l.drop k ∧ vls t p = true) (fun _ i => l.length - (intOf i).toNat)
    case atStart => exact ⟨0, 0, rfl, by rw [exNil], Nat.zero_le _, Nat.zero_le _, by rw [HLL.out]; rfl, HV.out⟩
    case round =>
      obtain ⟨k, p, rfl, rfl, hp, hk, hr, hv⟩ := hrel
      have HR := Lib.hid hr
      have HVP := Lib.hid hv
      clear hr hv
      by_cases hlt : k < l.length
      · have hplt : p < t.size := by
          rcases Nat.lt_or_ge p t.size with h | h
          · exact h
          · have h2 := HR.out
            rw [rns_end (by omega)] at h2
            have h3 := congrArg List.length h2
            rw [List.length_drop, List.length_nil] at h3
            omega
        obtain ⟨hb, hv'⟩ := vls_head hplt HVP.out
        have hst := rns_step hplt
        have hen := ext_enc hplt hb
        have hes := enc_size hplt hb
        have hw1 := dc_pos t p
        have hw2 := dc_le t p hplt
        obtain ⟨r, n, hrn⟩ : ∃ r n, dc t p = (r, n) := ⟨_, _, rfl⟩
        rw [hrn] at hst hen hes hw1 hw2 hv'
        dsimp only at hst hen hes hw1 hw2 hv'
        have hx : l[k]? = some r := by
          have h2 := HR.out
          rw [hst] at h2
          have h3 := congrArg (fun z => z[0]?) h2
          simpa using h3.symm
        have hd : rns t (p + n) = l.drop (k + 1) := by
          have h2 := HR.out
          rw [hst] at h2
          have h3 := congrArg (List.drop 1) h2
          simpa using h3
        obtain ⟨a1, rfl, _, hc1⟩ := HC.out k r hx
        have hus := ext_size t 0 p
        generalize t.extract 0 p = U at hen hus
        obtain ⟨E, hE⟩ : ∃ E, Utf8.encode (r : Int) = E := ⟨_, rfl⟩
        rw [hE] at hen hes
        have hsum : U.size + E.size ≤ 9223372036854775807 := by omega
        have HEN := Lib.hid hen
        have HD := Lib.hid hd
        have HV2 := Lib.hid hv'
        clear hrn hst hen hx hd hv' hb hus hes
        have hlz : (k : Int) < (l.length : Int) := by omega
        go_wp2
        go_round
        case rel => exact ⟨k + 1, p + n, by go_num, by rw [HEN.out], hw2, hlt, HD.out, HV2.out⟩
        case measure => simp [intOf]; omega
      · have hpe : ¬ p < t.size := by
          intro h
          have h2 := HR.out
          rw [rns_step h, List.drop_eq_nil_of_le (by omega)] at h2
          cases h2
        obtain rfl : p = t.size := by omega
        rw [exAll]
        have hlz : ¬ (k : Int) < (l.length : Int) := by omega
        have HT1 := Lib.hid hT1
        go_wp2_with fail
        refine (CC.out _ HT1.out).mono ?_
        rintro e w2 ⟨rfl, hb2⟩
        have hT2 := hT1.below hb2
        go_wp2_with fail
        refine (works_any w2 hT2).mono ?_
        rintro e w3 ⟨rfl, hb3⟩
        have hfin := chn (chn hb1 hb2) hb3
        go_wp2
        go_ret
        exact ⟨rfl, hfin⟩

/-! ### RunesLines -/
theorem valid_of {t : ByteArray} (h : vls t 0 = true) (q : Nat) (hq : q ≤ t.size) : plr t q = ((pl t q (1, 1) 0).1, (pl t q (1, 1) 0).2, 0) := by
  unfold plr
  rw [if_neg (by omega), if_pos h]
/-- How many of the first k bytes end a line. -/
def nls (t : ByteArray) : Nat → Nat
  | 0 => 0
  | k + 1 => nls t k + if bt t k = 10 then 1 else 0
theorem nls_le (t : ByteArray) : ∀ k, nls t k ≤ k
  | 0 => Nat.le_refl _
  | k + 1 => by
    have := nls_le t k
    simp only [nls]
    split <;> omega
/-- The place of byte q: its line is one more than there are ends of lines ahead of it; its column is from 1 on. -/
theorem pl_line {t : ByteArray} (h : vls t 0 = true) : ∀ q, q ≤ t.size → (pl t (q : Nat) (1, 1) 0).1 = (nls t q : Int) + 1 ∧ 1 ≤ (pl t (q : Nat) (1, 1) 0).2 ∧ (pl t (q : Nat) (1, 1) 0).2 ≤ (q : Int) + 1
  | 0, _ => by
    by_cases h0 : 0 < t.size
    · have hw := dc_pos t 0
      rw [pl_stop h0 (by omega)]
      simp [nls]
    · rw [pl_end h0]
      simp [nls]
  | q + 1, hq => by
    have ih := pl_line h q (by omega)
    have hs := pl_succ t 0 h (1, 1) q (Nat.zero_le _) (by omega)
    simp only [nls]
    rcases hs with ⟨h1, h2⟩ | ⟨h1, h2 | h2⟩
    · rw [h2, if_pos h1]
      dsimp only
      omega
    · rw [h2, if_neg h1]
      omega
    · rw [h2, if_neg h1]
      dsimp only
      omega

set_option maxHeartbeats 3200000 in
set_option maxRecDepth 100000 in
theorem lawLines (s : ByteArray) (w : World) (hs : s.size ≤ 9223372036854775807) (hT : Tabs w) : Calls Tryd.prog 9 #[.string s] w (Yes w) := by
  have cF := few_any s w hs
  have ht := fw_le s
  generalize fw s = t at cF ht
  clear hs
  have hz : t.size ≤ 1000000000 := by omega
  have cD := goodDecode t w hz hT
  unfold DecPost at cD
  cases hv : vls t 0
  · rw [er_false hv] at cD
    clear hv
    go_enter Tryd.func9, Tryd.ntmps9
    go_wp2_with fail
    refine cF.mono ?_
    rintro e w' ⟨rfl, rfl⟩
    go_wp2_with fail
    refine cD.mono ?_
    rintro e w1 ⟨v1, rfl, _, hb1⟩
    have hT1 := hT.below hb1
    go_wp2_with fail
    refine (works_any w1 hT1).mono ?_
    rintro e w2 ⟨rfl, hb2⟩
    have hfin := chn hb1 hb2
    go_wp2
    go_ret
    exact ⟨rfl, hfin⟩
  · rw [er_true hv] at cD
    have HV := Lib.hid hv
    clear hv
    go_enter Tryd.func9, Tryd.ntmps9
    go_wp2_with fail
    refine cF.mono ?_
    rintro e w' ⟨rfl, rfl⟩
    go_wp2_with fail
    refine cD.mono ?_
    rintro e w1 ⟨v1, rfl, _, hb1⟩
    have hT1 := hT.below hb1
    clear cD cF
    go_wp2
    go_loopw [5, 6, 7, 8] (fun a b c i wr => ∃ (q : Nat) (l m : Int), i = .int .i64 q ∧ a = .int .i64 l ∧ b = .int .i64 m ∧ c = .int .i64 (nls t (min q t.size)) ∧ q ≤ t.size + 1 ∧ Tabs wr ∧ Below w.heap.size w wr ∧ 1 ≤ l ∧ 1 ≤ m ∧ m ≤ q + 1 ∧
      ((q = 0 ∧ l = 1 ∧ m = 1) ∨ (0 < q ∧ (l, m) = pl t ((q - 1 : Nat) : Int) (1, 1) 0))) (fun _ _ _ i _ => t.size + 1 - (intOf i).toNat)
    case atStart => exact ⟨0, 1, 1, rfl, rfl, rfl, rfl, Nat.zero_le _, hT1, hb1, by omega, by omega, by omega, .inl ⟨rfl, rfl, rfl⟩⟩
    case round =>
      obtain ⟨q, l, m, rfl, rfl, rfl, rfl, hq, hTr, hbw, hl1, hm1, hm2, hlm⟩ := hrel
      by_cases hq1 : q ≤ t.size
      · rw [Nat.min_eq_left hq1]
        have cP := goodPlace t q wr hz hTr
        unfold PlPost at cP
        rw [valid_of HV.out q hq1] at cP
        have hpl := pl_line HV.out q hq1
        have hstep : ((pl t (q : Nat) (1, 1) 0).1 = l ∧ m ≤ (pl t (q : Nat) (1, 1) 0).2) ∨ ((pl t (q : Nat) (1, 1) 0).1 = l + 1 ∧ (pl t (q : Nat) (1, 1) 0).2 = 1) := by
          rcases hlm with ⟨rfl, rfl, rfl⟩ | ⟨h0, h1⟩
          · left
            have e0 : nls t 0 = 0 := rfl
            rw [e0] at hpl
            omega
          · have hs := pl_succ t 0 HV.out (1, 1) (q - 1) (Nat.zero_le _) (by omega)
            rw [show q - 1 + 1 = q by omega, ← h1] at hs
            rcases hs with ⟨_, h2⟩ | ⟨_, h2 | h2⟩
            · rw [h2]; exact .inr ⟨rfl, rfl⟩
            · rw [h2]; exact .inl ⟨rfl, Int.le_refl _⟩
            · rw [h2]; exact .inl ⟨rfl, by dsimp only; omega⟩
        obtain ⟨a, b, hab⟩ : ∃ a b, pl t (q : Nat) (1, 1) 0 = (a, b) := ⟨_, _, rfl⟩
        rw [hab] at cP hpl hstep
        dsimp only at cP hpl hstep
        have HAB := Lib.hid hab
        have hnl := nls_le t q
        obtain ⟨N, hN⟩ : ∃ N, nls t q = N := ⟨_, rfl⟩
        rw [hN] at hpl hnl ⊢
        have HN := Lib.hid hN
        obtain ⟨ha1, hb0, hb1'⟩ := hpl
        have ha2 : 1 ≤ a ∧ a ≤ q + 1 := by omega
        clear hab hN hlm ha1 hq
        have hqz : (q : Int) ≤ (t.size : Int) := by omega
        rcases hstep with ⟨rfl, hmb⟩ | ⟨h1, rfl⟩
        · have hbm : ¬ b < m := by omega
          by_cases hlt : q < t.size
          · have hg := bt_get t q hlt
            have hlz : (q : Int) < (t.size : Int) := by omega
            by_cases h10 : bt t q = 10
            · have hx1 : ((t[q].toNat : Int) == 10) = true := by rw [hg]; simp [h10]
              have HNL : Hid (nls t (min (q + 1) t.size) = N + 1) := Lib.hid (by rw [Nat.min_eq_left (by omega)]; simp only [nls]; rw [HN.out, if_pos h10])
              clear hg h10
              go_wp2_with (go_at_call 21; refine cP.mono ?_; rintro e w2 ⟨rfl, hb2⟩)
              have hT2 := hTr.below hb2
              have hbw2 := hbw.trans (hb2.mono hbw.size)
              go_roundw
              case rel => exact ⟨q + 1, _, _, by go_num, rfl, rfl, by rw [HNL.out]; go_num, by omega, hT2, hbw2, by omega, by omega, by omega, .inr ⟨by omega, by rw [Nat.add_sub_cancel]; exact HAB.out.symm⟩⟩
              case measure => simp [intOf]; omega
            · have hx1 : ((t[q].toNat : Int) == 10) = false := by rw [hg]; simp; omega
              have HNL : Hid (nls t (min (q + 1) t.size) = N) := Lib.hid (by rw [Nat.min_eq_left (by omega)]; simp only [nls]; rw [HN.out, if_neg h10]; rfl)
              clear hg h10
              go_wp2_with (go_at_call 21; refine cP.mono ?_; rintro e w2 ⟨rfl, hb2⟩)
              have hT2 := hTr.below hb2
              have hbw2 := hbw.trans (hb2.mono hbw.size)
              go_roundw
              case rel => exact ⟨q + 1, _, _, by go_num, rfl, rfl, by rw [HNL.out], by omega, hT2, hbw2, by omega, by omega, by omega, .inr ⟨by omega, by rw [Nat.add_sub_cancel]; exact HAB.out.symm⟩⟩
              case measure => simp [intOf]; omega
          · have hlz : ¬ (q : Int) < (t.size : Int) := by omega
            have HNL : Hid (nls t (min (q + 1) t.size) = N) := Lib.hid (by rw [show min (q + 1) t.size = q by omega]; exact HN.out)
            go_wp2_with (go_at_call 21; refine cP.mono ?_; rintro e w2 ⟨rfl, hb2⟩)
            have hT2 := hTr.below hb2
            have hbw2 := hbw.trans (hb2.mono hbw.size)
            go_roundw
            case rel => exact ⟨q + 1, _, _, by go_num, rfl, rfl, by rw [HNL.out], by omega, hT2, hbw2, by omega, by omega, by omega, .inr ⟨by omega, by rw [Nat.add_sub_cancel]; exact HAB.out.symm⟩⟩
            case measure => simp [intOf]; omega
        · have hal : ¬ a < l := by omega
          have hal2 : (a == l) = false := by simp; omega
          have hal3 : l < a := by omega
          clear h1
          by_cases hlt : q < t.size
          · have hg := bt_get t q hlt
            have hlz : (q : Int) < (t.size : Int) := by omega
            by_cases h10 : bt t q = 10
            · have hx1 : ((t[q].toNat : Int) == 10) = true := by rw [hg]; simp [h10]
              have HNL : Hid (nls t (min (q + 1) t.size) = N + 1) := Lib.hid (by rw [Nat.min_eq_left (by omega)]; simp only [nls]; rw [HN.out, if_pos h10])
              clear hg h10
              go_wp2_with (go_at_call 21; refine cP.mono ?_; rintro e w2 ⟨rfl, hb2⟩)
              have hT2 := hTr.below hb2
              have hbw2 := hbw.trans (hb2.mono hbw.size)
              go_roundw
              case rel => exact ⟨q + 1, _, _, by go_num, rfl, rfl, by rw [HNL.out]; go_num, by omega, hT2, hbw2, by omega, by omega, by omega, .inr ⟨by omega, by rw [Nat.add_sub_cancel]; exact HAB.out.symm⟩⟩
              case measure => simp [intOf]; omega
            · have hx1 : ((t[q].toNat : Int) == 10) = false := by rw [hg]; simp; omega
              have HNL : Hid (nls t (min (q + 1) t.size) = N) := Lib.hid (by rw [Nat.min_eq_left (by omega)]; simp only [nls]; rw [HN.out, if_neg h10]; rfl)
              clear hg h10
              go_wp2_with (go_at_call 21; refine cP.mono ?_; rintro e w2 ⟨rfl, hb2⟩)
              have hT2 := hTr.below hb2
              have hbw2 := hbw.trans (hb2.mono hbw.size)
              go_roundw
              case rel => exact ⟨q + 1, _, _, by go_num, rfl, rfl, by rw [HNL.out], by omega, hT2, hbw2, by omega, by omega, by omega, .inr ⟨by omega, by rw [Nat.add_sub_cancel]; exact HAB.out.symm⟩⟩
              case measure => simp [intOf]; omega
          · have hlz : ¬ (q : Int) < (t.size : Int) := by omega
            have HNL : Hid (nls t (min (q + 1) t.size) = N) := Lib.hid (by rw [show min (q + 1) t.size = q by omega]; exact HN.out)
            go_wp2_with (go_at_call 21; refine cP.mono ?_; rintro e w2 ⟨rfl, hb2⟩)
            have hT2 := hTr.below hb2
            have hbw2 := hbw.trans (hb2.mono hbw.size)
            go_roundw
            case rel => exact ⟨q + 1, _, _, by go_num, rfl, rfl, by rw [HNL.out], by omega, hT2, hbw2, by omega, by omega, by omega, .inr ⟨by omega, by rw [Nat.add_sub_cancel]; exact HAB.out.symm⟩⟩
            case measure => simp [intOf]; omega
      · obtain rfl : q = t.size + 1 := by omega
        rw [Nat.min_eq_right (by omega)]
        have hpl := pl_line HV.out t.size (Nat.le_refl _)
        have hl2 : l = (nls t t.size : Int) + 1 := by
          rcases hlm with ⟨h, _⟩ | ⟨_, h⟩
          · omega
          · rw [Nat.add_sub_cancel] at h
            rw [← h] at hpl
            exact hpl.1
        have hnl := nls_le t t.size
        subst hl2
        generalize nls t t.size = N at hnl hpl ⊢
        have hqz : ¬ ((t.size : Int) + 1 ≤ (t.size : Int)) := by omega
        have hqz2 : ¬ (((t.size + 1 : Nat) : Int) ≤ (t.size : Int)) := by omega
        have HTR := Lib.hid hTr
        clear hlm hpl hq hq1
        go_wp2_with fail
        refine (works_any _ HTR.out).mono ?_
        rintro e w2 ⟨rfl, hb2⟩
        have hfin := hbw.trans (hb2.mono hbw.size)
        go_wp2
        go_ret
        exact ⟨rfl, hfin⟩
end Go.Proofs.YtdmeeaojbajapaaDoor
