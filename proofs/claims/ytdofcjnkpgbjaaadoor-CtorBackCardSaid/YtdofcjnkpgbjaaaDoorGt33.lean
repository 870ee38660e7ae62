/-
  Layer 10: the outright laws.
-/
import Derived.Test.YtdofcjnkpgbjaaaDoorGt32
namespace Go.Proofs.YtdofcjnkpgbjaaaDoor
open Go.RowKit

theorem rem50 (a : Int) : ∃ k : Int, (wrap64 (a.tmod 50 + 50)).tmod 50 = k ∧ 0 ≤ k ∧ k < 50 := by
  have h1 := Int.tmod_lt_of_pos a (show (0 : Int) < 50 by decide)
  have h2 := Int.lt_tmod_of_pos a (show (0 : Int) < 50 by decide)
  obtain ⟨x, hx⟩ : ∃ x, a.tmod 50 = x := ⟨_, rfl⟩
  rw [hx] at h1 h2 ⊢
  have e1 : wrap64 (x + 50) = x + 50 := by unfold wrap64; omega
  rw [e1]
  exact ⟨_, rfl, Int.tmod_nonneg 50 (show 0 ≤ x + 50 by omega), Int.tmod_lt_of_pos (x + 50) (show (0 : Int) < 50 by decide)⟩
theorem rem5 (a : Int) : ∃ k : Int, (wrap64 (a.tmod 5 + 5)).tmod 5 = k ∧ 0 ≤ k ∧ k < 5 := by
  have h1 := Int.tmod_lt_of_pos a (show (0 : Int) < 5 by decide)
  have h2 := Int.lt_tmod_of_pos a (show (0 : Int) < 5 by decide)
  obtain ⟨x, hx⟩ : ∃ x, a.tmod 5 = x := ⟨_, rfl⟩
  rw [hx] at h1 h2 ⊢
  have e1 : wrap64 (x + 5) = x + 5 := by unfold wrap64; omega
  rw [e1]
  exact ⟨_, rfl, Int.tmod_nonneg 5 (show 0 ≤ x + 5 by omega), Int.tmod_lt_of_pos (x + 5) (show (0 : Int) < 5 by decide)⟩

set_option maxHeartbeats 12800000 in
set_option maxRecDepth 100000 in
theorem lawBack10 (ct : CtAll) (b c : Int) (cs0 : List Cel) (w : World) (hpw : Pw w) (cv0 : Value) (hcl0 : Cls w w.heap.size cv0 cs0) (hfit0 : ∀ c ∈ cs0, fitD c) :
    Calls Tryd.prog 6 #[.agg #[cv0], .int .i64 b, .int .i64 c] w (BoP true w) := by
  obtain ⟨H, hH⟩ : ∃ H, w.heap.size = H := ⟨_, rfl⟩
  obtain ⟨CA0, cc0, hcv0, -, -⟩ := id hcl0
  have u0 : Up w (w.alloc (.cells #[cv0] 24)) := (Up.refl w).alloc _
  obtain ⟨W0, hW0⟩ : ∃ W0, w.alloc (.cells #[cv0] 24) = W0 := ⟨_, rfl⟩
  have hx0 : W0.heap[H]? = some (.cells #[cv0] 24 (0, 0)) := by rw [← hW0, ← hH]; exact heap_alloc_new w _
  rw [hW0] at u0
  have hcl := hcl0.upp u0
  have kc : W0.cell? ⟨H, 0, none⟩ = some cv0 := cell_of_row _ H 0 _ _ _ hx0
  have hsz := kept_sz cs0
  have HW0 := Lib.hid hW0
  have HH := Lib.hid hH
  have U0 := Lib.hid u0
  have HCL := Lib.hid hcl
  have HF := Lib.hid hfit0
  have HSZ := Lib.hid hsz
  obtain ⟨B, hB, hb1, hb2⟩ := rem50 b
  obtain ⟨M, hM, hm1, hm2⟩ := rem50 c
  have CT := Lib.hid ct
  have HPW := Lib.hid hpw
  clear hcl0 u0 hW0 hcl hfit0 hx0 ct hpw hsz
  subst hcv0
  go_enter Tryd.func6, Tryd.ntmps6
  go_wp2_with fail
  rw [HW0.out]
  refine (uFew10 cs0 HCL.out HF.out (Up.refl _)).mono ?_
  rintro e w1 ⟨v, rfl, h1, u1⟩
  have hz := HSZ.out
  obtain ⟨o, ho⟩ : ∃ o, kept cs0 = o := ⟨_, rfl⟩
  rw [ho] at h1 hz
  have hz6 : szO o ≤ 65536 := by omega
  have U1 := Lib.hid u1
  have HP := Lib.hid (fun W (u : Up w1 W) (b c : Int) => (CT.out.shift W o v b c (h1.up u) hz6).mono fun _ _ k => k.has)
  have HC := Lib.hid (fun W (u : Up w1 W) => CT.out.check W o v (h1.up u) hz6)
  have HV := Lib.hid h1
  have HZ := Lib.hid hz
  clear h1 u1 kc hz hz6 ho HSZ
  go_wp2_with fail
  refine (HP.out w1 (Up.refl _) B 0).mono ?_
  rintro e w2 ⟨v2, he, h2, u2⟩
  have hzs := shR_sz B 0 o
  obtain ⟨⟨m, z⟩, hR⟩ : ∃ R, shR B 0 o = R := ⟨_, rfl⟩
  rw [hR] at he h2 hzs
  dsimp only at he h2 hzs
  subst he
  have hzm : szO m ≤ 60 := by have : szO m ≤ szO o := hzs; have := HZ.out; omega
  clear hzs
  by_cases hz0 : z = 0
  · subst hz0
    obtain ⟨t, t', rfl, rfl, hck, -, hmv⟩ := shR_ok hR
    have UB := Lib.hid (U0.out.trans (U1.out.trans u2))
    have hnb : wrap64 (-B) = -B := by unfold wrap64; omega
    have hBM : wrap64 (B + M) = B + M := by unfold wrap64; omega
    have hzm6 : szO (some t') ≤ 65536 := by omega
    have MP := Lib.hid (fun W (u : Up w2 W) (b c : Int) => (CT.out.shift W (some t') v2 b c (h2.up u) hzm6).mono fun _ _ k => k.has)
    have H2 := Lib.hid h2
    have U2 := Lib.hid u2
    have BK := Lib.hid (sh_back hb1 hck hmv)
    have ZR := Lib.hid (sh_zero hck)
    have AD := Lib.hid (sh_add (b := M) hb1 hck hmv)
    have HZM := Lib.hid hzm
    clear h2 u2 hzm6 hzm hmv hR hck
    go_wp2_with fail
    refine (MP.out w2 (Up.refl _) (-B) 0).mono ?_
    rintro e w3 ⟨v3, he, h3, u3⟩
    rw [BK.out] at he h3
    dsimp only at he h3
    subst he
    have H3 := Lib.hid h3
    have U3 := Lib.hid u3
    clear h3 u3
    go_wp2_with fail
    refine (HP.out w3 (U2.out.trans U3.out) 0 0).mono ?_
    rintro e w4 ⟨v4, he, h4, u4⟩
    rw [ZR.out] at he h4
    dsimp only at he h4
    subst he
    have H4 := Lib.hid h4
    have U4 := Lib.hid u4
    clear h4 u4
    go_wp2_with fail
    refine (MP.out w4 (U3.out.trans U4.out) M 0).mono ?_
    rintro e w5 ⟨v5, he, h5, u5⟩
    rw [AD.out] at he h5
    have H5 := Lib.hid h5
    have U5 := Lib.hid u5
    clear h5 u5
    have hzs := shR_sz (B + M) 0 (some t)
    obtain ⟨⟨p, y⟩, hR⟩ : ∃ R, shR (B + M) 0 (some t) = R := ⟨_, rfl⟩
    have H5 := H5.out
    rw [hR] at he H5 hzs
    dsimp only at he H5 hzs
    subst he
    have h5 := Lib.hid H5
    have HZP := Lib.hid (show szO p ≤ 60 by have := HZ.out; omega)
    have HR := Lib.hid hR
    clear H5 hzs hR
    go_wp2_with fail
    refine (HP.out w5 (U2.out.trans (U3.out.trans (U4.out.trans U5.out))) (B + M) 0).mono ?_
    rintro e w6 ⟨v6, he, h6, u6⟩
    rw [HR.out] at he h6
    dsimp only at he h6
    subst he
    have c1 := uSame (some t) (some t) (H3.out.up (U4.out.trans (U5.out.trans u6))) (HV.out.up (U2.out.trans (U3.out.trans (U4.out.trans (U5.out.trans u6))))) (by have := HZ.out; omega) true ⟨fun _ => rfl, fun _ => rfl⟩ (Up.refl w6)
    have c2 := Lib.hid (fun W (u : Up w6 W) => uSame (some t) (some t) (H4.out.up (U5.out.trans (u6.trans u))) (HV.out.up (U2.out.trans (U3.out.trans (U4.out.trans (U5.out.trans (u6.trans u)))))) (by have := HZ.out; omega) true ⟨fun _ => rfl, fun _ => rfl⟩ (Up.refl W))
    have c3 := Lib.hid (fun W (u : Up w6 W) => uSame p p (h5.out.up (u6.trans u)) (h6.up u) (by have := HZP.out; omega) true ⟨fun _ => rfl, fun _ => rfl⟩ (Up.refl W))
    have U6 := Lib.hid (UB.out.trans (U3.out.trans (U4.out.trans (U5.out.trans u6))))
    clear h6 u6
    go_wp2_with fail
    refine c1.mono ?_
    rintro e w7 ⟨rfl, u7⟩
    have U7 := Lib.hid u7
    clear u7 c1
    go_wp2_with fail
    refine (c2.out w7 U7.out).mono ?_
    rintro e w8 ⟨rfl, u8⟩
    have U8 := Lib.hid (U7.out.trans u8)
    clear u8
    go_wp2_with fail
    refine (c3.out w8 U8.out).mono ?_
    rintro e w9 ⟨rfl, u9⟩
    have U9 := Lib.hid (U8.out.trans u9)
    clear u9
    go_wp2_with fail
    refine (works10 CT.out HPW.out (U6.out.trans U9.out)).mono ?_
    rintro e w10 ⟨rfl, u10⟩
    go_wp2_with fail
    go_ret
    exact bopU rfl u10
  · obtain ⟨rfl, hc⟩ := shR_bad hR hz0
    have hv2 : v2 = .pointer none := h2
    subst hv2
    have UB := Lib.hid (U0.out.trans (U1.out.trans u2))
    have U2 := Lib.hid u2
    clear h2 u2 hzm hR
    by_cases hk : ckE o = 0
    · have hz2 : z = 2 := hc.resolve_left fun h => h hk
      subst hz2
      go_wp2_with fail
      refine (HC.out w2 U2.out).mono ?_
      rintro e w3 ⟨he, u3⟩
      rw [hk] at he
      subst he
      go_wp2_with fail
      refine (works10 CT.out HPW.out (UB.out.trans u3)).mono ?_
      rintro e w10 ⟨rfl, u10⟩
      go_wp2_with fail
      go_ret
      exact bopU rfl u10
    · go_wp2_with fail
      refine (HC.out w2 U2.out).mono ?_
      rintro e w3 ⟨he, u3⟩
      subst he
      go_wp2_with fail
      refine (works10 CT.out HPW.out (UB.out.trans u3)).mono ?_
      rintro e w10 ⟨rfl, u10⟩
      go_wp2_with fail
      go_ret
      exact bopU rfl u10
end Go.Proofs.YtdofcjnkpgbjaaaDoor
namespace Go.Proofs.YtdofcjnkpgbjaaaDoor
open Go.RowKit

set_option maxHeartbeats 12800000 in
set_option maxRecDepth 100000 in
theorem lawGone10 (ct : CtAll) (i0 : Int) (cs0 : List Cel) (cs1 : List Cel) (w : World) (hpw : Pw w) (cv0 : Value) (hcl0 : Cls w w.heap.size cv0 cs0) (hfit0 : ∀ c ∈ cs0, fitD c) (cv1 : Value) (hcl1 : Cls w w.heap.size cv1 cs1) (hfit1 : ∀ c ∈ cs1, fitD c) :
    Calls Tryd.prog 7 #[.agg #[cv0], .agg #[cv1], .int .i64 i0] w (BoP true w) := by
  obtain ⟨H, hH⟩ : ∃ H, w.heap.size = H := ⟨_, rfl⟩
  obtain ⟨CA0, cc0, hcv0, -, -⟩ := id hcl0
  obtain ⟨CA1, cc1, hcv1, -, -⟩ := id hcl1
  obtain ⟨W0, hW0⟩ : ∃ W0, w.alloc (.cells #[cv0] 24) = W0 := ⟨_, rfl⟩
  obtain ⟨W9, hW9⟩ : ∃ W9, W0.alloc (.cells #[cv1] 24) = W9 := ⟨_, rfl⟩
  have a0 : Up w W0 := by rw [← hW0]; exact (Up.refl w).alloc _
  have a9 : Up W0 W9 := by rw [← hW9]; exact (Up.refl W0).alloc _
  have hx0 : W0.heap[H]? = some (.cells #[cv0] 24 (0, 0)) := by rw [← hW0, ← hH]; exact heap_alloc_new w _
  have hz0 : W0.heap.size = H + 1 := by rw [← hW0, ← hH]; simp
  have hx9 : W9.heap[H + 1]? = some (.cells #[cv1] 24 (0, 0)) := by rw [← hW9, ← hz0]; exact heap_alloc_new W0 _
  have u0 : Up w W9 := a0.trans a9
  have hcl := hcl0.upp u0
  have hclb := hcl1.upp u0
  have kc : W9.cell? ⟨H, 0, none⟩ = some cv0 := a9.cell (cell_of_row _ H 0 _ _ _ hx0)
  have kd : W9.cell? ⟨H + 1, 0, none⟩ = some cv1 := cell_of_row _ (H + 1) 0 _ _ _ hx9
  have HSZ := Lib.hid (kept_sz cs0)
  have HSZ1 := Lib.hid (kept_sz cs1)
  have HW0 := Lib.hid hW0
  have HW9 := Lib.hid hW9
  have U0 := Lib.hid u0
  have HCL := Lib.hid hcl
  have HCL1 := Lib.hid hclb
  have HF := Lib.hid hfit0
  have HF1 := Lib.hid hfit1
  obtain ⟨i, hi, hi1, hi2⟩ := rem5 i0
  have CT := Lib.hid ct
  have HPW := Lib.hid hpw
  clear hcl0 hcl1 u0 hW0 hW9 hcl hclb hfit0 hfit1 hx0 hx9 ct hpw a0 a9 hz0
  subst hcv0 hcv1
  go_enter Tryd.func7, Tryd.ntmps7
  go_wp2_with fail
  rw [HW0.out, HW9.out]
  have C0 := Lib.hid (fun W (u : Up W9 W) => uFew10 cs0 HCL.out HF.out u)
  have C1 := Lib.hid (fun W (u : Up W9 W) => uFew10 cs1 HCL1.out HF1.out u)
  obtain ⟨V0, hV0⟩ : ∃ V, Value.slice CA0 cs0.length cc0 = V := ⟨_, rfl⟩
  obtain ⟨V1, hV1⟩ : ∃ V, Value.slice CA1 cs1.length cc1 = V := ⟨_, rfl⟩
  rw [hV0] at C0 kc ⊢
  rw [hV1] at C1 kd ⊢
  clear HCL HCL1 HF HF1
  go_region_held3 (fun w' => w'.cell? ⟨H, 0, none⟩ = some V0 ∧ w'.cell? ⟨H + 1, 0, none⟩ = some V1) (first | go_keep | (refine ⟨?_, ?_⟩ <;> assumption)) (first
    | (go_at_call 9; (with_reducible show Calls _ _ #[Value.agg #[V0]] _ _); refine Calls.mono (C0.out _ (by first | assumption | exact Up.refl _ | exact (Up.refl _).drewN 1)) ?_; rintro e1 w1 ⟨v, rfl, h1, u1⟩; have n0 : w1.cell? ⟨H, 0, none⟩ = some V0 := u1.cell kc; have n1 : w1.cell? ⟨H + 1, 0, none⟩ = some V1 := u1.cell kd; have uu1 : Up W9 w1 := ((Up.refl W9).drewN 1).trans u1)
    | (go_at_call 9; (with_reducible show Calls _ _ #[Value.agg #[V1]] _ _); refine Calls.mono (C1.out _ (by first | assumption | exact Up.refl _ | exact (Up.refl _).drewN 1)) ?_; rintro e2 w2 ⟨v2, rfl, h2, u2⟩; have m0 : w2.cell? ⟨H, 0, none⟩ = some V0 := u2.cell n0; have m1 : w2.cell? ⟨H + 1, 0, none⟩ = some V1 := u2.cell n1))
  have H12 := Lib.hid (h1.up u2)
  have H2 := Lib.hid h2
  have U2 := Lib.hid (uu1.trans u2)
  have kc2 := m0
  have kd2 := m1
  rename_i hh
  clear hh n0 m0 m1 h1 h2 u2 uu1 kc kd u1
  try clear n1
  obtain ⟨o, ho⟩ : ∃ o, kept cs0 = o := ⟨_, rfl⟩
  obtain ⟨p, hp⟩ : ∃ o, kept cs1 = o := ⟨_, rfl⟩
  rw [ho] at H12 HSZ
  rw [hp] at H2 HSZ1
  have hz6 : szO o ≤ 65536 := by have := HSZ.out; omega
  have hz7 : szO p ≤ 65536 := by have := HSZ1.out; omega
  have CA := Lib.hid (fun W (u : Up w2 W) => CT.out.check W o v (H12.out.up u) hz6)
  have CB := Lib.hid (fun W (u : Up w2 W) => CT.out.check W p v2 (H2.out.up u) hz7)
  have HP := Lib.hid (fun W (u : Up w2 W) (b c : Int) => (CT.out.shift W o v b c (H12.out.up u) hz6).mono fun _ _ k => k.has)
  have UB := Lib.hid (U0.out.trans U2.out)
  clear C0 C1 ho hp kc2 kd2 hz6
  go_wp2_with fail
  by_cases hk : ckE o = 0
  · refine (CA.out w2 (Up.refl _)).mono ?_
    rintro e w3 ⟨he, u3⟩
    rw [hk] at he
    subst he
    have U3 := Lib.hid u3
    clear u3
    go_wp2_with fail
    refine (CB.out w3 U3.out).mono ?_
    rintro e w4 ⟨he, u4⟩
    have U4 := Lib.hid (U3.out.trans u4)
    clear u4
    by_cases hk2 : ckE p = 0
    · rw [hk2] at he
      subst he
      go_wp2_with fail
      refine (HP.out w4 U4.out 1 i).mono ?_
      rintro e w5 ⟨v5, he, h5, u5⟩
      have hzs := shR_sz 1 i o
      obtain ⟨⟨m, z⟩, hR⟩ : ∃ R, shR 1 i o = R := ⟨_, rfl⟩
      rw [hR] at he h5 hzs
      dsimp only at he h5 hzs
      subst he
      have U5 := Lib.hid (U4.out.trans u5)
      by_cases hz0 : z = 0
      · subst hz0
        obtain ⟨t, t', rfl, rfl, hck, -, hmv⟩ := shR_ok hR
        obtain ⟨s, rfl, hs1, hs2⟩ := ckE_ok hk2
        have hg := oc_gone hck hmv s
        have hzt : szT t ≤ 60 := HSZ.out
        have hoc : ocR (some t') i = false := oc_false hg.1
        have hsb : sbR i (some t') (some s) = (some t, 0) := sb_of (mvT_ck hck hmv) hk2 hi1 hg.2 (by omega)
        have hz5 : szO (some t') ≤ 65536 := by have := HSZ.out; omega
        have OC := Lib.hid (CT.out.occurs w5 (some t') v5 i h5 hz5)
        have SB := Lib.hid (fun W (u : Up w5 W) => (CT.out.subst W (some t') (some s) v5 v2 i (h5.up u) hz5 (H2.out.up (U5.out.trans u)) hz7).mono fun _ _ k => k.has)
        have HSB := Lib.hid hsb
        have HOC := Lib.hid hoc
        clear hR h5 u5 hzs hck hmv hg hs1 hs2 hk hk2 hsb hoc hz5 CA CB HP
        go_wp2_with fail
        refine OC.out.mono ?_
        rintro e w6 ⟨he, u6⟩
        rw [HOC.out] at he
        subst he
        have U6 := Lib.hid u6
        clear u6
        go_wp2_with fail
        refine (SB.out w6 U6.out).mono ?_
        rintro e w7 ⟨v7, he, h7, u7⟩
        rw [HSB.out] at he h7
        dsimp only at he h7
        subst he
        have U7 := Lib.hid (U5.out.trans (U6.out.trans u7))
        have c1 := uSame (some t) (some t) h7 (H12.out.up U7.out) (by have := HSZ.out; omega) true ⟨fun _ => rfl, fun _ => rfl⟩ (Up.refl w7)
        clear h7 u7
        go_wp2_with fail
        refine c1.mono ?_
        rintro e w8 ⟨rfl, u8⟩
        have U8 := Lib.hid (U7.out.trans u8)
        clear u8 c1
        go_wp2_with fail
        refine (works10 CT.out HPW.out (UB.out.trans U8.out)).mono ?_
        rintro e w9 ⟨rfl, u9⟩
        go_wp2_with fail
        go_ret
        exact bopU rfl u9
      · clear hR h5 u5 hzs
        go_wp2_with fail
        refine (works10 CT.out HPW.out (UB.out.trans U5.out)).mono ?_
        rintro e w9 ⟨rfl, u9⟩
        go_wp2_with fail
        go_ret
        exact bopU rfl u9
    · subst he
      go_wp2_with fail
      refine (works10 CT.out HPW.out (UB.out.trans U4.out)).mono ?_
      rintro e w9 ⟨rfl, u9⟩
      go_wp2_with fail
      go_ret
      exact bopU rfl u9
  · refine (CA.out w2 (Up.refl _)).mono ?_
    rintro e w3 ⟨he, u3⟩
    subst he
    go_wp2_with fail
    refine (works10 CT.out HPW.out (UB.out.trans u3)).mono ?_
    rintro e w9 ⟨rfl, u9⟩
    go_wp2_with fail
    go_ret
    exact bopU rfl u9
end Go.Proofs.YtdofcjnkpgbjaaaDoor
namespace Go.Proofs.YtdofcjnkpgbjaaaDoor
open Go.RowKit

theorem ck_var0 : ckE (some (varT 0)) = 0 := by kernel_rfl
set_option maxHeartbeats 12800000 in
set_option maxRecDepth 100000 in
theorem lawVariable10 (ct : CtAll) (cs0 : List Cel) (w : World) (hpw : Pw w) (cv0 : Value) (hcl0 : Cls w w.heap.size cv0 cs0) (hfit0 : ∀ c ∈ cs0, fitD c) :
    Calls Tryd.prog 8 #[.agg #[cv0]] w (BoP true w) := by
  obtain ⟨H, hH⟩ : ∃ H, w.heap.size = H := ⟨_, rfl⟩
  obtain ⟨CA0, cc0, hcv0, -, -⟩ := id hcl0
  have u0 : Up w (w.alloc (.cells #[cv0] 24)) := (Up.refl w).alloc _
  obtain ⟨W0, hW0⟩ : ∃ W0, w.alloc (.cells #[cv0] 24) = W0 := ⟨_, rfl⟩
  have hx0 : W0.heap[H]? = some (.cells #[cv0] 24 (0, 0)) := by rw [← hW0, ← hH]; exact heap_alloc_new w _
  rw [hW0] at u0
  have hcl := hcl0.upp u0
  have kc : W0.cell? ⟨H, 0, none⟩ = some cv0 := cell_of_row _ H 0 _ _ _ hx0
  have hsz := kept_sz cs0
  have HW0 := Lib.hid hW0
  have HH := Lib.hid hH
  have U0 := Lib.hid u0
  have HCL := Lib.hid hcl
  have HF := Lib.hid hfit0
  have HSZ := Lib.hid hsz
  have CT := Lib.hid ct
  have HPW := Lib.hid hpw
  clear hcl0 u0 hW0 hcl hfit0 hx0 ct hpw hsz
  subst hcv0
  go_enter Tryd.func8, Tryd.ntmps8
  go_wp2_with fail
  rw [HW0.out]
  refine (uFew10 cs0 HCL.out HF.out (Up.refl _)).mono ?_
  rintro e w1 ⟨v, rfl, h1, u1⟩
  have hz := HSZ.out
  obtain ⟨o, ho⟩ : ∃ o, kept cs0 = o := ⟨_, rfl⟩
  rw [ho] at h1 hz
  have hz6 : szO o ≤ 65536 := by omega
  have U1 := Lib.hid u1
  have UB := Lib.hid (U0.out.trans u1)
  have HP := Lib.hid (fun W (u : Up w1 W) (b c : Int) => (CT.out.shift W o v b c (h1.up u) hz6).mono fun _ _ k => k.has)
  have HC := Lib.hid (fun W (u : Up w1 W) => CT.out.check W o v (h1.up u) hz6)
  have HR := Lib.hid (fun W (u : Up w1 W) => CT.out.free W o v (h1.up u) hz6)
  have HO := Lib.hid (fun W (u : Up w1 W) (i : Int) => CT.out.occurs W o v i (h1.up u) hz6)
  have HV := Lib.hid h1
  have HZ := Lib.hid hz
  clear h1 u1 kc hz hz6 ho HSZ
  go_wp2_with fail
  by_cases hk : ckE o = 0
  · obtain ⟨t, rfl, ht1, ht2⟩ := ckE_ok hk
    have hf : frR (some t) = fvT 0 t := fr_val hk
    have hf0 := fvT_pos 0 t
    have hfn := fr_not (t := t)
    have hfy := fr_yes (t := t) hk
    obtain ⟨F, hF⟩ : ∃ F, fvT 0 t = F := ⟨_, rfl⟩
    rw [hF] at hf hf0 hfn hfy
    have hfl : F ≤ 65537 := by rw [← hF]; exact fvT_le (co_tvok ht2)
    have hw : wrap64 (F - 1) = F - 1 := by unfold wrap64; omega
    refine (HC.out w1 (Up.refl _)).mono ?_
    rintro e w2 ⟨he, u2⟩
    rw [hk] at he
    subst he
    have U2 := Lib.hid u2
    clear u2
    go_wp2_with fail
    refine (HR.out w2 U2.out).mono ?_
    rintro e w3 ⟨he, u3⟩
    rw [hf] at he
    subst he
    have U3 := Lib.hid (U2.out.trans u3)
    clear u3
    go_wp2_with fail
    refine (HO.out w3 U3.out F).mono ?_
    rintro e w4 ⟨he, u4⟩
    rw [hfn] at he
    subst he
    have U4 := Lib.hid (U3.out.trans u4)
    clear u4
    by_cases hp : 0 < F
    · go_wp2_with fail
      refine (HO.out w4 U4.out (F - 1)).mono ?_
      rintro e w5 ⟨he, u5⟩
      rw [hfy hp] at he
      subst he
      have U5 := Lib.hid (U4.out.trans u5)
      clear u5
      go_wp2_with fail
      refine (HP.out w5 U5.out 1 1).mono ?_
      rintro e w6 ⟨v6, he, h6, u6⟩
      have hzs := shR_sz 1 1 (some t)
      obtain ⟨⟨m, z⟩, hR⟩ : ∃ R, shR 1 1 (some t) = R := ⟨_, rfl⟩
      rw [hR] at he h6 hzs
      dsimp only at he h6 hzs
      subst he
      have U6 := Lib.hid (U5.out.trans u6)
      by_cases hz0 : z = 0
      · subst hz0
        obtain ⟨t0, t', e1, rfl, hck, -, hmv⟩ := shR_ok hR
        injection e1 with e1
        subst e1
        have hzt : szT t ≤ 60 := HZ.out
        have hdp : dpT t ≤ 50000 := by have := Fr.dp_le t.2; unfold dpT; unfold szT at hzt; omega
        have hsb : sbR 0 (some t') (some (varT 0)) = (some t, 0) := sb_of (mvT_ck hck hmv) ck_var0 (Int.le_refl _) (oc_var hck hdp hmv) (by omega)
        have hz6 : szO (some t') ≤ 65536 := by have := HZ.out; omega
        have h7 := leaf_hasN (W := w6) (w := w6) (x := ⟨110, 0, ⟨#[]⟩, ⟨#[]⟩⟩) (Nat.le_refl _)
        simp only at h7
        obtain ⟨W7, hW7⟩ : ∃ W7, w6.alloc (.cells #[.int .i64 110, .int .i64 0, .string ⟨#[]⟩, .string ⟨#[]⟩, .slice none 0 0] 46) = W7 := ⟨_, rfl⟩
        have u7 : Up w6 W7 := by rw [← hW7]; exact (Up.refl _).alloc _
        rw [hW7] at h7
        have SB := Lib.hid ((CT.out.subst W7 (some t') (some (varT 0)) v6 (.pointer (some ⟨w6.heap.size, 0, none⟩)) 0 (h6.up u7) hz6 h7.has (by decide)).mono fun _ _ k => k.has)
        have HSB := Lib.hid hsb
        have HW7 := Lib.hid hW7
        have U7 := Lib.hid (U6.out.trans u7)
        clear hR h6 u6 hzs hck hmv hsb hz6 h7 u7 hW7 hzt hdp
        go_wp2_with fail
        rw [HW7.out]
        refine SB.out.mono ?_
        rintro e w8 ⟨v8, he, h8, u8⟩
        rw [HSB.out] at he h8
        dsimp only at he h8
        subst he
        have U8 := Lib.hid (U7.out.trans u8)
        have c1 := uSame (some t) (some t) h8 (HV.out.up U8.out) (by have := HZ.out; omega) true ⟨fun _ => rfl, fun _ => rfl⟩ (Up.refl w8)
        clear h8 u8
        go_wp2_with fail
        refine c1.mono ?_
        rintro e w10 ⟨rfl, u10⟩
        have U10 := Lib.hid (U8.out.trans u10)
        clear u10 c1
        go_wp2_with fail
        refine (works10 CT.out HPW.out (UB.out.trans U10.out)).mono ?_
        rintro e w9 ⟨rfl, u9⟩
        go_wp2_with fail
        go_ret
        exact bopU rfl u9
      · clear hR h6 u6 hzs
        go_wp2_with fail
        refine (works10 CT.out HPW.out (UB.out.trans U6.out)).mono ?_
        rintro e w9 ⟨rfl, u9⟩
        go_wp2_with fail
        go_ret
        exact bopU rfl u9
    · obtain rfl : F = 0 := by omega
      go_wp2_with fail
      refine (HP.out w4 U4.out 1 1).mono ?_
      rintro e w6 ⟨v6, he, h6, u6⟩
      have hzs := shR_sz 1 1 (some t)
      obtain ⟨⟨m, z⟩, hR⟩ : ∃ R, shR 1 1 (some t) = R := ⟨_, rfl⟩
      rw [hR] at he h6 hzs
      dsimp only at he h6 hzs
      subst he
      have U6 := Lib.hid (U4.out.trans u6)
      by_cases hz0 : z = 0
      · subst hz0
        obtain ⟨t0, t', e1, rfl, hck, -, hmv⟩ := shR_ok hR
        injection e1 with e1
        subst e1
        have hzt : szT t ≤ 60 := HZ.out
        have hdp : dpT t ≤ 50000 := by have := Fr.dp_le t.2; unfold dpT; unfold szT at hzt; omega
        have hsb : sbR 0 (some t') (some (varT 0)) = (some t, 0) := sb_of (mvT_ck hck hmv) ck_var0 (Int.le_refl _) (oc_var hck hdp hmv) (by omega)
        have hz6 : szO (some t') ≤ 65536 := by have := HZ.out; omega
        have h7 := leaf_hasN (W := w6) (w := w6) (x := ⟨110, 0, ⟨#[]⟩, ⟨#[]⟩⟩) (Nat.le_refl _)
        simp only at h7
        obtain ⟨W7, hW7⟩ : ∃ W7, w6.alloc (.cells #[.int .i64 110, .int .i64 0, .string ⟨#[]⟩, .string ⟨#[]⟩, .slice none 0 0] 46) = W7 := ⟨_, rfl⟩
        have u7 : Up w6 W7 := by rw [← hW7]; exact (Up.refl _).alloc _
        rw [hW7] at h7
        have SB := Lib.hid ((CT.out.subst W7 (some t') (some (varT 0)) v6 (.pointer (some ⟨w6.heap.size, 0, none⟩)) 0 (h6.up u7) hz6 h7.has (by decide)).mono fun _ _ k => k.has)
        have HSB := Lib.hid hsb
        have HW7 := Lib.hid hW7
        have U7 := Lib.hid (U6.out.trans u7)
        clear hR h6 u6 hzs hck hmv hsb hz6 h7 u7 hW7 hzt hdp
        go_wp2_with fail
        rw [HW7.out]
        refine SB.out.mono ?_
        rintro e w8 ⟨v8, he, h8, u8⟩
        rw [HSB.out] at he h8
        dsimp only at he h8
        subst he
        have U8 := Lib.hid (U7.out.trans u8)
        have c1 := uSame (some t) (some t) h8 (HV.out.up U8.out) (by have := HZ.out; omega) true ⟨fun _ => rfl, fun _ => rfl⟩ (Up.refl w8)
        clear h8 u8
        go_wp2_with fail
        refine c1.mono ?_
        rintro e w10 ⟨rfl, u10⟩
        have U10 := Lib.hid (U8.out.trans u10)
        clear u10 c1
        go_wp2_with fail
        refine (works10 CT.out HPW.out (UB.out.trans U10.out)).mono ?_
        rintro e w9 ⟨rfl, u9⟩
        go_wp2_with fail
        go_ret
        exact bopU rfl u9
      · clear hR h6 u6 hzs
        go_wp2_with fail
        refine (works10 CT.out HPW.out (UB.out.trans U6.out)).mono ?_
        rintro e w9 ⟨rfl, u9⟩
        go_wp2_with fail
        go_ret
        exact bopU rfl u9
  · refine (HC.out w1 (Up.refl _)).mono ?_
    rintro e w2 ⟨he, u2⟩
    subst he
    have U2 := Lib.hid u2
    clear u2
    go_wp2_with fail
    refine (HR.out w2 U2.out).mono ?_
    rintro e w3 ⟨he, u3⟩
    rw [fr_none hk] at he
    subst he
    have U3 := Lib.hid (U2.out.trans u3)
    clear u3
    go_wp2_with fail
    refine (works10 CT.out HPW.out (UB.out.trans U3.out)).mono ?_
    rintro e w9 ⟨rfl, u9⟩
    go_wp2_with fail
    go_ret
    exact bopU rfl u9
end Go.Proofs.YtdofcjnkpgbjaaaDoor
