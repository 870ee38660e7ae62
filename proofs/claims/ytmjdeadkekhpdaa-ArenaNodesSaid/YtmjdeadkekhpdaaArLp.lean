/-
  The law ArenaPuts.
-/
import Derived.Test.YtmjdeadkekhpdaaArLt
import Derived.Test.YtmjdeadkekhpdaaAop
namespace Go.Proofs.Ytmjdeadkekhpdaa
open Go.ChangeShapes Go.WideShapes Go.Deep Go.RowKit

theorem at_szO (o : Option Tr) (l : List Int) : szO (atO o l) ≤ szO o := by
  cases o with
  | none => exact Nat.le_refl _
  | some t =>
    show szO (atT t l) ≤ szT t
    cases h : atT t l with
    | none => exact Nat.zero_le _
    | some u => exact at_sz l t u h
theorem put_szO (o : Option Tr) (l : List Int) (s : Option Tr) : szO (putO o l s) ≤ szO o + szO s := by
  cases o with
  | none => exact Nat.zero_le _
  | some t =>
    unfold putO
    simp only
    cases h : atT t l with
    | none => exact Nat.zero_le _
    | some u =>
      cases s with
      | none => exact Nat.zero_le _
      | some s =>
        have := with_sz l t s u h
        show szT (withT t l s) ≤ szT t + szT s
        omega
theorem Sp.take {w : World} {B n c k : Nat} {A : Option Addr} {l : List Int} (h : Sp w B (.slice A n c) l) (hk : k ≤ n) : Sp w B (.slice A k c) (l.take k) := by
  obtain ⟨A', c', hv, hlc, hj⟩ := h
  injection hv with h1 h2 h3
  subst h1 h2 h3
  have hl : (l.take k).length = k := by rw [List.length_take]; omega
  refine ⟨A, c, by rw [hl], by omega, fun j u hu => ?_⟩
  have hjk : j < k := by
    rcases Nat.lt_or_ge j k with h | h
    · exact h
    · rw [List.getElem?_eq_none (by omega)] at hu; cases hu
  rw [List.getElem?_take_of_lt hjk] at hu
  exact hj j u hu
theorem paths_le (kind : Int) (o : Option Tr) : (pathsO kind o).length ≤ szO o ∧ ∀ p ∈ pathsO kind o, p.length ≤ szO o := by
  cases o with
  | none => exact ⟨Nat.le_refl _, fun p hp => by cases hp⟩
  | some t => exact pathsT_num kind t
set_option maxHeartbeats 12800000 in
set_option maxRecDepth 100000 in
/-- The law behind its path's cut. -/
theorem lawPuts (cs ds : List Cel) (l : List Int) (w : World) (cv pv dv : Value) (hcl : Cls w w.heap.size cv cs) (hsp : Sp w w.heap.size pv l) (hdl : Cls w w.heap.size dv ds) (hfit : ∀ c ∈ cs, fitC c) (hfit2 : ∀ c ∈ ds, fitC c) :
    Calls Try.prog 5 #[.agg #[cv], pv, .agg #[dv]] w (SbPost true w) := by
  obtain ⟨H, hH⟩ : ∃ H, w.heap.size = H := ⟨_, rfl⟩
  obtain ⟨CA, cc, hcv, -, -⟩ := id hcl
  obtain ⟨DA, dc, hdv, -, -⟩ := id hdl
  obtain ⟨PA, pc, rfl, hpc, -⟩ := id hsp
  have u0 : Up w ((w.alloc (.cells #[cv] 24)).alloc (.cells #[dv] 24)) := ((Up.refl w).alloc _).alloc _
  obtain ⟨W0, hW0⟩ : ∃ W0, (w.alloc (.cells #[cv] 24)).alloc (.cells #[dv] 24) = W0 := ⟨_, rfl⟩
  have kc : W0.cell? ⟨H, 0, none⟩ = some cv := by
    rw [← hW0, ← hH]
    exact cell_of_row _ w.heap.size 0 _ _ _ (block_alloc _ (heap_alloc_new w (.cells #[cv] 24)))
  have kd : W0.cell? ⟨H + 1, 0, none⟩ = some dv := by
    rw [← hW0, ← hH]
    have h := heap_alloc_new (w.alloc (.cells #[cv] 24)) (.cells #[dv] 24)
    rw [show (w.alloc (.cells #[cv] 24)).heap.size = w.heap.size + 1 by simp] at h
    exact cell_of_row _ (w.heap.size + 1) 0 _ _ _ h
  rw [hW0] at u0
  obtain ⟨N, hN⟩ : ∃ N, l.length = N := ⟨_, rfl⟩
  rw [hN] at hsp hpc ⊢
  obtain ⟨K, hK⟩ : ∃ K, min N 30 = K := ⟨_, rfl⟩
  have hKN : K ≤ N := by omega
  have hK30 : K ≤ 30 := by omega
  have hkk : (if (30 : Int) < (N : Int) then (30 : Int) else (N : Int)) = (K : Int) := by split <;> omega
  have hk0 : (0 : Int) ≤ (K : Int) := by omega
  have hkn : (K : Int) ≤ (N : Int) := by omega
  have hkc : (K : Int) ≤ (pc : Int) := by omega
  have hsp2 := (hsp.up u0).take hKN
  obtain ⟨L, hL⟩ : ∃ L, l.take K = L := ⟨_, rfl⟩
  have hLK : L.length = K := by rw [← hL, List.length_take]; omega
  rw [hL] at hsp2
  have hcl0 := hcl.upp u0
  have hdl0 := hdl.upp u0
  obtain ⟨o, z, ho, hs, -⟩ := op_few cs
  obtain ⟨s, y, ho2, hs2, -⟩ := op_few ds
  have HW0 := Lib.hid hW0
  have U0 := Lib.hid u0
  have HCL := Lib.hid hcl0
  have HDL := Lib.hid hdl0
  have HF := Lib.hid hfit
  have HF2 := Lib.hid hfit2
  have HO := Lib.hid ho
  have HO2 := Lib.hid ho2
  have HS := Lib.hid hs
  have HS2 := Lib.hid hs2
  have HSP := Lib.hid hsp2
  have HLK := Lib.hid hLK
  clear hcl hdl hsp u0 hW0 hcl0 hdl0 hfit hfit2 ho ho2 hs hs2 hsp2 hK hN hL hLK hpc
  subst hcv hdv
  go_enter Try.func5, Try.ntmps5
  go_wp2_with fail
  rw [HW0.out]
  refine (uFew cs HCL.out HF.out (Up.refl _)).mono ?_
  rintro e w1 ⟨v1, rfl, h1, u1⟩
  have kc1 := u1.cell kc
  have kd1 := u1.cell kd
  have H1 := Lib.hid h1
  have U1 := Lib.hid u1
  clear h1 u1 kc kd
  go_wp2_with fail
  refine (rOpen (fewL cs) H1.out (few_kids cs) (few_le cs) (Up.refl _)).mono ?_
  rw [HO.out]
  rintro e w2 ⟨n, rfl, h2, u2⟩
  have kc2 := u2.cell kc1
  have kd2 := u2.cell kd1
  have HN2 := Lib.hid h2
  have U2 := Lib.hid (U1.out.trans u2)
  clear h2 u2 kc1 kd1
  go_wp2_with fail
  refine (uFew cs (HCL.out.upp U2.out) HF.out (Up.refl _)).mono ?_
  rintro e w3 ⟨v3, rfl, h3, u3⟩
  have kd3 := u3.cell kd2
  have H3 := Lib.hid h3
  have HN3 := Lib.hid (HN2.out.up u3)
  have U3 := Lib.hid (U2.out.trans u3)
  clear h3 u3 kc2 kd2
  go_wp2_with fail
  refine (rOpen (fewL cs) H3.out (few_kids cs) (few_le cs) (Up.refl _)).mono ?_
  rw [HO.out]
  rintro e w4 ⟨was, rfl, h4, u4⟩
  have kd4 := u4.cell kd3
  have HN4 := Lib.hid (HN3.out.up u4)
  have HW4 := Lib.hid h4
  have U4 := Lib.hid (U3.out.trans u4)
  clear h4 u4 kd3
  go_wp2_with fail
  refine (uFew ds (HDL.out.upp U4.out) HF2.out (Up.refl _)).mono ?_
  rintro e w5 ⟨v5, rfl, h5, u5⟩
  have H5 := Lib.hid h5
  have HN5 := Lib.hid (HN4.out.up u5)
  have HW5 := Lib.hid (HW4.out.up u5)
  have U5 := Lib.hid (U4.out.trans u5)
  clear h5 u5 kd4
  go_wp2_with fail
  refine (rOpen (fewL ds) H5.out (few_kids ds) (few_le ds) (Up.refl _)).mono ?_
  rw [HO2.out]
  rintro e w6 ⟨sv, rfl, h6, u6⟩
  have HN6 := Lib.hid (HN5.out.up u6)
  have HW6 := Lib.hid (HW5.out.up u6)
  have HS6 := Lib.hid h6
  have U6 := Lib.hid (U5.out.trans u6)
  have HP6 := Lib.hid (HSP.out.up U6.out)
  clear h6 u6
  go_wp2_with fail
  have hLl : Hid (L.length ≤ 30) := Lib.hid (by have := HLK.out; omega)
  refine (uAt o L HN6.out HP6.out (by have := hLl.out; omega) (Up.refl _)).mono ?_
  rintro e w7 ⟨av, rfl, h7, u7⟩
  have HA7 := Lib.hid h7
  have HN7 := Lib.hid (HN6.out.up u7)
  have HP7 := Lib.hid (HP6.out.up u7)
  have HW7 := Lib.hid (HW6.out.up u7)
  have HS7 := Lib.hid (HS6.out.up u7)
  have U7 := Lib.hid (U6.out.trans u7)
  clear h7 u7
  go_wp2_with fail
  refine (rAt o L HN7.out HP7.out (by have := hLl.out; omega) (by have := HS.out; omega) (Up.refl _)).mono ?_
  rintro e w8 ⟨bv, rfl, h8, u8⟩
  have HB8 := Lib.hid h8
  have HA8 := Lib.hid (HA7.out.up u8)
  have HN8 := Lib.hid (HN7.out.up u8)
  have HP8 := Lib.hid (HP7.out.up u8)
  have HW8 := Lib.hid (HW7.out.up u8)
  have HS8 := Lib.hid (HS7.out.up u8)
  have U8 := Lib.hid (U7.out.trans u8)
  clear h8 u8
  go_wp2_with fail
  refine (uPut o L s HN8.out HS8.out HP8.out (by have := hLl.out; omega) (by have := HS.out; omega) (Up.refl _)).mono ?_
  rintro e w9 ⟨p, rfl, h9, u9⟩
  have HP9 := Lib.hid h9
  have HB9 := Lib.hid (HB8.out.up u9)
  have HA9 := Lib.hid (HA8.out.up u9)
  have HN9 := Lib.hid (HN8.out.up u9)
  have HL9 := Lib.hid (HP8.out.up u9)
  have HW9 := Lib.hid (HW8.out.up u9)
  have HS9 := Lib.hid (HS8.out.up u9)
  have U9 := Lib.hid (U8.out.trans u9)
  clear h9 u9
  go_wp2_with fail
  refine (rPut o L s HN9.out HS9.out HL9.out (by have := hLl.out; omega) (by have := HS.out; omega) (Up.refl _)).mono ?_
  rintro e w10 ⟨q, rfl, h10, u10⟩
  have HQ := Lib.hid h10
  have HPP := Lib.hid (HP9.out.up u10)
  have HBB := Lib.hid (HB9.out.up u10)
  have HAA := Lib.hid (HA9.out.up u10)
  have HNN := Lib.hid (HN9.out.up u10)
  have HLL := Lib.hid (HL9.out.up u10)
  have HWW := Lib.hid (HW9.out.up u10)
  have U10 := Lib.hid (U0.out.trans (U9.out.trans u10))
  have u11 := Up.refl w10
  have hszA := at_szO o L
  have hszP := put_szO o L s
  have HZA := Lib.hid hszA
  have HZP := Lib.hid hszP
  clear h10 u10 hszA hszP
  by_cases hK0 : K = 0
  · subst hK0
    go_wp2_with fail
    refine (rSame (atO o L) (atO o L) HAA.out HBB.out (by have := HS.out; have := HZA.out; omega) true (by simp) (Up.refl _)).mono ?_
    rintro e w11 ⟨rfl, u11⟩
    go_wp2_with fail
    refine (rSame (putO o L s) (putO o L s) HPP.out HQ.out (by have := HS.out; have := HS2.out; have := HZP.out; omega) true (by simp) u11).mono ?_
    rintro e w12 ⟨rfl, u12⟩
    go_wp2_with fail
    refine (rSame o o HNN.out HWW.out (by have := HS.out; omega) true (by simp) u12).mono ?_
    rintro e w13 ⟨rfl, u13⟩
    go_wp2_with fail
    refine (uPaths o _ HNN.out (by have := HS.out; omega) u13).mono ?_
    rintro e w14 ⟨l1, rfl, h14, u14⟩
    go_wp2_with fail
    refine (rPaths o _ (HNN.out.up u14) (by have := HS.out; omega) (Up.refl _)).mono ?_
    rintro e w15 ⟨l2, rfl, h15, u15⟩
    go_wp2_with fail
    refine (rSamePaths _ (h14.up u15) h15 (by have := (paths_le (-1) o).1; have := HS.out; omega) (fun p hp => by have := (paths_le (-1) o).2 p hp; have := HS.out; omega) (Up.refl _)).mono ?_
    rintro e w16 ⟨rfl, u16⟩
    go_wp2_with fail
    refine (uWorks (Up.refl _)).mono ?_
    rintro e w17 ⟨rfl, u17⟩
    go_wp2_with fail
    go_ret
    exact ⟨rfl, (U10.out.trans u14).trans (u15.trans (u16.trans u17))⟩
  · have hKp : (0 : Int) < (K : Int) := by omega
    obtain ⟨x, hx⟩ : ∃ x, L[0]? = some x := ⟨L[0]'(by have := HLK.out; omega), List.getElem?_eq_getElem _⟩
    obtain ⟨PA', pc', hv, -, hj⟩ := HLL.out
    injection hv with hv1 hv2 hv3
    subst hv1
    obtain ⟨pb, po, rfl, -, hcell⟩ := hj 0 x hx
    rw [Nat.add_zero] at hcell
    have HX := Lib.hid hx
    clear hj hx hv2 hv3 hK0
    go_wp2_with fail
    refine (rSame (atO o L) (atO o L) HAA.out HBB.out (by have := HS.out; have := HZA.out; omega) true (by simp) (Up.refl _)).mono ?_
    rintro e w11 ⟨rfl, u11⟩
    go_wp2_with fail
    refine (rSame (putO o L s) (putO o L s) HPP.out HQ.out (by have := HS.out; have := HS2.out; have := HZP.out; omega) true (by simp) u11).mono ?_
    rintro e w12 ⟨rfl, u12⟩
    go_wp2_with fail
    refine (rSame o o HNN.out HWW.out (by have := HS.out; omega) true (by simp) u12).mono ?_
    rintro e w13 ⟨rfl, u13⟩
    go_wp2_with fail
    refine (uPaths o _ HNN.out (by have := HS.out; omega) u13).mono ?_
    rintro e w14 ⟨l1, rfl, h14, u14⟩
    go_wp2_with fail
    refine (rPaths o _ (HNN.out.up u14) (by have := HS.out; omega) (Up.refl _)).mono ?_
    rintro e w15 ⟨l2, rfl, h15, u15⟩
    go_wp2_with fail
    refine (rSamePaths _ (h14.up u15) h15 (by have := (paths_le x o).1; have := HS.out; omega) (fun p hp => by have := (paths_le x o).2 p hp; have := HS.out; omega) (Up.refl _)).mono ?_
    rintro e w16 ⟨rfl, u16⟩
    go_wp2_with fail
    refine (uWorks (Up.refl _)).mono ?_
    rintro e w17 ⟨rfl, u17⟩
    go_wp2_with fail
    go_ret
    exact ⟨rfl, (U10.out.trans u14).trans (u15.trans (u16.trans u17))⟩
/-- A slice of numbers as it is handed in. -/
theorem open_numsT {H : Type} {enc : TypeId × Value → H} {W : World} {base : Nat} {v : Value} {d : DataW H} {p : List MemPlace} (hv : Value.okWide Try.prog W .any base 45 v) (h : DataW.Trod enc Try.prog W 0 (fun _ => true) true 45 v d p) :
    ∃ l : List Int, Sp W W.heap.size v l ∧ l.length ≤ maxLen := by
  obtain ⟨a0, len0, cap0, rfl⟩ := okWide_slice Try.underlying45 hv
  obtain ⟨fuel, hf⟩ := h
  have hcs : (Value.slice a0 len0 cap0).cells.toList = [.slice a0 len0 cap0] := rfl
  rw [hcs] at hf
  exact open_nums hf
end Go.Proofs.Ytmjdeadkekhpdaa
