/-
  Layer 11: the outright laws (written by gnl.py).
-/
import Derived.Test.YtofgniceilbpaaaDoorGt24
namespace Go.Proofs.YtofgniceilbpaaaDoor
open Go.RowKit

set_option maxHeartbeats 12800000 in
set_option maxRecDepth 100000 in
theorem lawEnds11 (w : World) (ct : CtS w) (nm : NmAll) (nt : NmTwo) (cs0 : List Cel) (cv0 : Value) (hcl0 : Cls w w.heap.size cv0 cs0) (hfit0 : ∀ c ∈ cs0, fitD c) :
    Calls Tryd.prog 5 #[.agg #[cv0]] w (BoP true w) := by
  obtain ⟨H, hH⟩ : ∃ H, w.heap.size = H := ⟨_, rfl⟩
  obtain ⟨CA0, cc0, hcv0, -, -⟩ := id hcl0
  have u0 : Up w (w.alloc (.cells #[cv0] 24)) := (Up.refl w).alloc _
  obtain ⟨W0, hW0⟩ : ∃ W0, w.alloc (.cells #[cv0] 24) = W0 := ⟨_, rfl⟩
  have hx0 : W0.heap[H]? = some (.cells #[cv0] 24 (0, 0)) := by rw [← hW0, ← hH]; exact heap_alloc_new w _
  rw [hW0] at u0
  have hcl := hcl0.upp u0
  have kc : W0.cell? ⟨H, 0, none⟩ = some cv0 := cell_of_row _ H 0 _ _ _ hx0
  have HW0 := Lib.hid hW0
  have U0 := Lib.hid u0
  have HCL := Lib.hid hcl
  have HF := Lib.hid hfit0
  have HSZ := Lib.hid (kept_sz cs0)
  have CT := Lib.hid ct
  have NM := Lib.hid nm
  have NT := Lib.hid nt
  clear hcl0 u0 hW0 hcl hfit0 hx0 ct nm nt
  subst hcv0
  go_enter Tryd.func5, Tryd.ntmps5
  go_wp2_with fail
  rw [HW0.out]
  go_wp2_with fail
  refine (uFew10 cs0 HCL.out HF.out (Up.refl _)).mono ?_
  rintro e w1 ⟨v, rfl, h1, u1⟩
  obtain ⟨o, ho⟩ : ∃ o, kept cs0 = o := ⟨_, rfl⟩
  have hz := HSZ.out
  rw [ho] at h1 hz
  have HV := Lib.hid h1
  have U1 := Lib.hid (U0.out.trans u1)
  have HZ := Lib.hid hz
  have cN := NT.out.normal w1 o v h1 (by omega)
  clear HCL HF HSZ HW0 kc h1 u1 hz ho
  rcases nmR_form o with ⟨x, hx, hxs⟩ | ⟨e9, he9, hx⟩
  · rw [hx] at cN
    have hxz := nf_sz hxs
    have hnx : nmR (some x) = (some x, 0) := nm_done hxs
    have heq : EqR o (some x) true 0 := .inr ⟨x, hx, .inr ⟨x, hnx, rfl, ⟨fun _ => rfl, fun _ => rfl⟩⟩⟩
    have HEQ := Lib.hid heq
    have HX := Lib.hid hnx
    have HXS := Lib.hid hxs
    have HXZ := Lib.hid hxz
    clear hx hxs hxz hnx heq
    go_wp2_with fail
    refine (cN).mono ?_
    rintro e w2 ⟨v2, rfl, h2, u2⟩
    have h2 : HasT w2 v2 (some x) := h2
    have H2 := Lib.hid h2
    have U2 := Lib.hid (U1.out.trans u2)
    have HV2 := Lib.hid (HV.out.up u2)
    have cS := NM.out.step w2 (some x) v2 h2 HXZ.out
    rw [HXS.out] at cS
    clear h2 u2 cN
    go_wp2_with fail
    refine (cS).mono ?_
    rintro e w3 ⟨v3, rfl, -, u3⟩
    have H3 := Lib.hid (H2.out.up u3)
    have HV3 := Lib.hid (HV2.out.up u3)
    have U3 := Lib.hid (U2.out.trans u3)
    have cN := NT.out.normal w3 (some x) v2 H3.out HXZ.out
    rw [HX.out] at cN
    clear u3 cS
    go_wp2_with fail
    refine (cN).mono ?_
    rintro e w4 ⟨v4, rfl, h4, u4⟩
    have h4 : HasT w4 v4 (some x) := h4
    have H24 := Lib.hid (H3.out.up u4)
    have HV4 := Lib.hid (HV3.out.up u4)
    have H4 := Lib.hid h4
    have U4 := Lib.hid (U3.out.trans u4)
    have cE := NT.out.equal w4 o (some x) v v2 HV4.out (by have := HZ.out; omega) H24.out HXZ.out
    clear u4 h4 cN
    go_wp2_with fail
    refine (cE).mono ?_
    rintro e w5 ⟨b5, z5, rfl, e5, u5⟩
    obtain ⟨hb, hzz⟩ := e5.uniq HEQ.out
    subst hb hzz
    have cM := uSame (some x) (some x) (H4.out.up u5) (H24.out.up u5) HXZ.out true ⟨fun _ => rfl, fun _ => rfl⟩ (Up.refl w5)
    have U5 := Lib.hid (U4.out.trans u5)
    clear u5 e5 cE
    go_wp2_with fail
    refine (cM).mono ?_
    rintro e w6 ⟨rfl, u6⟩
    have U6 := Lib.hid (U5.out.trans u6)
    clear u6 cM
    go_wp2_with fail
    refine (works11 CT.out NM.out U6.out).mono ?_
    rintro e w99 ⟨rfl, u99⟩
    go_wp2_with fail
    go_ret
    exact bopU rfl u99
  · rw [hx] at cN
    have h9 : (e9 != 0) = true := by rw [bne_iff_ne]; exact he9
    clear hx
    go_wp2_with fail
    refine (cN).mono ?_
    rintro e w2 ⟨v2, rfl, h2, u2⟩
    have h2 : v2 = .pointer none := h2
    subst h2
    have U2 := Lib.hid (U1.out.trans u2)
    clear u2 cN
    go_wp2_with fail
    refine (works11 CT.out NM.out U2.out).mono ?_
    rintro e w99 ⟨rfl, u99⟩
    go_wp2_with fail
    go_ret
    exact bopU rfl u99
set_option maxHeartbeats 12800000 in
set_option maxRecDepth 100000 in
theorem lawBeta11 (w : World) (ct : CtS w) (nm : NmAll) (cs0 cs1 : List Cel) (cv0 : Value) (hcl0 : Cls w w.heap.size cv0 cs0) (hfit0 : ∀ c ∈ cs0, fitD c) (cv1 : Value) (hcl1 : Cls w w.heap.size cv1 cs1) (hfit1 : ∀ c ∈ cs1, fitD c) :
    Calls Tryd.prog 6 #[.agg #[cv0], .agg #[cv1]] w (BoP true w) := by
  obtain ⟨H, hH⟩ : ∃ H, w.heap.size = H := ⟨_, rfl⟩
  obtain ⟨CA0, cc0, hcv0, -, -⟩ := id hcl0
  obtain ⟨CA1, cc1, hcv1, -, -⟩ := id hcl1
  obtain ⟨W0, hW0⟩ : ∃ W0, w.alloc (.cells #[cv0] 24) = W0 := ⟨_, rfl⟩
  obtain ⟨W9, hW9⟩ : ∃ W9, W0.alloc (.cells #[cv1] 24) = W9 := ⟨_, rfl⟩
  have a0 : Up w W0 := by rw [← hW0]; exact (Up.refl w).alloc _
  have a9 : Up W0 W9 := by rw [← hW9]; exact (Up.refl W0).alloc _
  have hx0 : W0.heap[H]? = some (.cells #[cv0] 24 (0, 0)) := by rw [← hW0, ← hH]; exact heap_alloc_new w _
  have hz0 : W0.heap.size = H + 1 := by rw [← hW0, ← hH]; simp
  have hx9 : W9.heap[H + 1]? = some (.cells #[cv1] 24 (0, 0)) := by rw [← hW9, ← hz0]; exact heap_alloc_new W0 _
  have u0 : Up w W9 := a0.trans a9
  have hcl := hcl0.upp u0
  have hclb := hcl1.upp u0
  have kc : W9.cell? ⟨H, 0, none⟩ = some cv0 := a9.cell (cell_of_row _ H 0 _ _ _ hx0)
  have kd : W9.cell? ⟨H + 1, 0, none⟩ = some cv1 := cell_of_row _ (H + 1) 0 _ _ _ hx9
  have HSZ := Lib.hid (kept_sz cs0)
  have HSZ1 := Lib.hid (kept_sz cs1)
  have HW0 := Lib.hid hW0
  have HW9 := Lib.hid hW9
  have HH := Lib.hid hH
  have U0 := Lib.hid u0
  have HCL := Lib.hid hcl
  have HCL1 := Lib.hid hclb
  have HF := Lib.hid hfit0
  have HF1 := Lib.hid hfit1
  have CT := Lib.hid ct
  have NM := Lib.hid nm
  clear hcl0 hcl1 u0 hW0 hW9 hcl hclb hfit0 hfit1 hx0 hx9 ct nm a0 a9 hz0
  subst hcv0 hcv1
  go_enter Tryd.func6, Tryd.ntmps6
  go_wp2_with fail
  rw [HW0.out, HW9.out]
  have C0 := Lib.hid (fun W (u : Up W9 W) => uFew10 cs0 HCL.out HF.out u)
  have C1 := Lib.hid (fun W (u : Up W9 W) => uFew10 cs1 HCL1.out HF1.out u)
  obtain ⟨V0, hV0⟩ : ∃ V, Value.slice CA0 cs0.length cc0 = V := ⟨_, rfl⟩
  obtain ⟨V1, hV1⟩ : ∃ V, Value.slice CA1 cs1.length cc1 = V := ⟨_, rfl⟩
  rw [hV0] at C0 kc ⊢
  rw [hV1] at C1 kd ⊢
  clear HCL HCL1 HF HF1
  go_region_held3 (fun w' => w'.cell? ⟨H, 0, none⟩ = some V0 ∧ w'.cell? ⟨H + 1, 0, none⟩ = some V1) (first | go_keep | (refine ⟨?_, ?_⟩ <;> assumption)) (first
    | (go_at_call 8; (with_reducible show Calls _ _ #[Value.agg #[V0]] _ _); refine Calls.mono (C0.out _ (by first | assumption | exact Up.refl _ | exact (Up.refl _).drewN 1)) ?_; rintro e1 w1 ⟨v, rfl, h1, u1⟩; have n0 : w1.cell? ⟨H, 0, none⟩ = some V0 := u1.cell kc; have n1 : w1.cell? ⟨H + 1, 0, none⟩ = some V1 := u1.cell kd; have uu1 : Up W9 w1 := ((Up.refl W9).drewN 1).trans u1)
    | (go_at_call 8; (with_reducible show Calls _ _ #[Value.agg #[V1]] _ _); refine Calls.mono (C1.out _ (by first | assumption | exact Up.refl _ | exact (Up.refl _).drewN 1)) ?_; rintro e2 w2 ⟨v2, rfl, h2, u2⟩; have m0 : w2.cell? ⟨H, 0, none⟩ = some V0 := u2.cell n0; have m1 : w2.cell? ⟨H + 1, 0, none⟩ = some V1 := u2.cell n1))
  have h12 := h1.up u2
  obtain ⟨o, ho⟩ : ∃ o, kept cs0 = o := ⟨_, rfl⟩
  obtain ⟨p, hp⟩ : ∃ o, kept cs1 = o := ⟨_, rfl⟩
  have hz := HSZ.out
  have hz1 := HSZ1.out
  rw [ho] at h12 hz
  rw [hp] at h2 hz1
  have HV := Lib.hid h12
  have HV2 := Lib.hid h2
  have U2 := Lib.hid (U0.out.trans (uu1.trans u2))
  have HZ := Lib.hid hz
  have HZ1 := Lib.hid hz1
  rename_i hh
  clear hh n0 m0 m1 h1 h2 h12 u2 uu1 kc kd u1 hz hz1 ho hp HSZ HSZ1 C0 C1 HW0 HW9 HH hV0 hV1
  try clear n1
  have hz := HZ.out
  have hz1 := HZ1.out
  have HC := Lib.hid (fun W (u : Up w2 W) => CT.out.check W o v (HV.out.up u) (by omega))
  have HC1 := Lib.hid (fun W (u : Up w2 W) => CT.out.check W p v2 (HV2.out.up u) (by omega))
  clear hz hz1
  by_cases hk : ckE o = 0
  · by_cases hk1 : ckE p = 0
    · obtain ⟨t, rfl, -⟩ := ckE_ok hk
      obtain ⟨u, rfl, -⟩ := ckE_ok hk1
      have hz : szT t ≤ 60 := HZ.out
      have hz1 : szT u ≤ 60 := HZ1.out
      obtain ⟨qv, pv, rfl⟩ := InT.ptr (t := t) HV.out
      obtain ⟨qv2, pv2, rfl⟩ := InT.ptr (t := u) HV2.out
      have hst := btT_st hk hk1 (by omega)
      have hbz : szO (some (btT t u)) ≤ 65536 := by show szT (btT t u) ≤ 65536; unfold szT at hz hz1 ⊢; unfold btT; simp only [Fr.sz]; omega
      have HB := Lib.hid (fun W vv (h : HasT W vv (some (btT t u))) => NM.out.step W _ vv h hbz)
      have HS := Lib.hid (fun W (q : Up w2 W) => CT.out.subst W (some t) (some u) _ _ 0 (HV.out.up q) (by show szT t ≤ _; omega) (HV2.out.up q) (by show szT u ≤ _; omega))
      have hfm := sb_form (i := 0) (o := some t) (p := some u)
      have hcz : ∀ m, (sbR 0 (some t) (some u)).1 = some m → szT m ≤ 65536 := fun m h => sb_szm (e := (sbR 0 (some t) (some u)).2) (Prod.ext h rfl)
      obtain ⟨⟨m, z⟩, hR⟩ : ∃ R, sbR 0 (some t) (some u) = R := ⟨_, rfl⟩
      rw [hR] at hst hfm hcz HS
      have HCK := Lib.hid hk
      have HCK1 := Lib.hid hk1
      clear hz hz1 hbz hR hk hk1
      have both : (∃ s, m = some s ∧ z = 0 ∧ szT s ≤ 65536) ∨ (m = none ∧ z ≠ 0) := by
        rcases hfm with ⟨h1, s, h2⟩ | ⟨h1, h2⟩
        · exact .inl ⟨s, h2, h1, hcz s h2⟩
        · exact .inr ⟨h2, h1⟩
      clear hfm hcz
      rcases both with ⟨s, rfl, rfl, hs⟩ | ⟨rfl, hz0⟩
      · have HS9 := Lib.hid hs
        clear hs
        go_wp2_with fail
        refine (HC.out w2 (Up.refl _)).mono ?_
        rintro e w3 ⟨he, u3⟩
        rw [HCK.out] at he
        subst he
        have U3 := Lib.hid u3
        clear u3
        go_wp2_with fail
        refine (HC1.out w3 U3.out).mono ?_
        rintro e w4 ⟨he, u4⟩
        rw [HCK1.out] at he
        subst he
        have U4 := Lib.hid (U3.out.trans u4)
        have HV4 := Lib.hid (HV.out.up U4.out)
        have HV24 := Lib.hid (HV2.out.up U4.out)
        clear u4
        go_wp2_with fail
        have t1 := leaf_has (w := w4) 100
        have t2 := two_has 119 t1 (HV4.out.next _)
        have t3 := two_has 120 t2 ((((HV24.out.next _).next _).next _))
        simp only [World.size_alloc] at t3
        have t3 : HasT _ _ (some (btT t u)) := t3
        have c1 := HB.out _ _ t3
        rw [hst] at c1
        clear t1 t2 t3
        refine c1.mono ?_
        rintro e w5 ⟨v5, rfl, h5, u5⟩
        have h5 : HasT w5 v5 (some s) := h5
        have H5 := Lib.hid h5
        have U5 := Lib.hid (U4.out.trans (Up.trans (by repeat (first | exact Up.refl _ | refine Up.alloc ?_ _)) u5))
        clear h5 u5 c1
        go_wp2_with fail
        refine (HS.out w5 U5.out).mono ?_
        rintro e w6 ⟨v6, he, u6, h6⟩
        dsimp only at he
        subst he
        have h6 : HasT w6 v6 (some s) := h6
        have cM := uSame (some s) (some s) (H5.out.up u6) h6 HS9.out true ⟨fun _ => rfl, fun _ => rfl⟩ (Up.refl w6)
        have U6 := Lib.hid (U5.out.trans u6)
        clear h6 u6
        go_wp2_with fail
        refine (cM).mono ?_
        rintro e w7 ⟨rfl, u7⟩
        have U7 := Lib.hid (U2.out.trans (U6.out.trans u7))
        clear u7 cM
        go_wp2_with fail
        refine (works11 CT.out NM.out U7.out).mono ?_
        rintro e w99 ⟨rfl, u99⟩
        go_wp2_with fail
        go_ret
        exact bopU rfl u99
      · have h9 : (z != 0) = true := by rw [bne_iff_ne]; exact hz0
        clear hz0
        go_wp2_with fail
        refine (HC.out w2 (Up.refl _)).mono ?_
        rintro e w3 ⟨he, u3⟩
        rw [HCK.out] at he
        subst he
        have U3 := Lib.hid u3
        clear u3
        go_wp2_with fail
        refine (HC1.out w3 U3.out).mono ?_
        rintro e w4 ⟨he, u4⟩
        rw [HCK1.out] at he
        subst he
        have U4 := Lib.hid (U3.out.trans u4)
        have HV4 := Lib.hid (HV.out.up U4.out)
        have HV24 := Lib.hid (HV2.out.up U4.out)
        clear u4
        go_wp2_with fail
        have t1 := leaf_has (w := w4) 100
        have t2 := two_has 119 t1 (HV4.out.next _)
        have t3 := two_has 120 t2 ((((HV24.out.next _).next _).next _))
        simp only [World.size_alloc] at t3
        have t3 : HasT _ _ (some (btT t u)) := t3
        have c1 := HB.out _ _ t3
        rw [hst] at c1
        clear t1 t2 t3
        refine c1.mono ?_
        rintro e w5 ⟨v5, rfl, -, u5⟩
        have U5 := Lib.hid (U4.out.trans (Up.trans (by repeat (first | exact Up.refl _ | refine Up.alloc ?_ _)) u5))
        clear u5 c1
        go_wp2_with fail
        refine (HS.out w5 U5.out).mono ?_
        rintro e w6 ⟨v6, he, u6, -⟩
        dsimp only at he
        subst he
        have U6 := Lib.hid (U2.out.trans (U5.out.trans u6))
        clear u6
        go_wp2_with fail
        refine (works11 CT.out NM.out U6.out).mono ?_
        rintro e w99 ⟨rfl, u99⟩
        go_wp2_with fail
        go_ret
        exact bopU rfl u99
    · have h9 : (ckE p != 0) = true := by rw [bne_iff_ne]; exact hk1
      go_wp2_with fail
      refine (HC.out w2 (Up.refl _)).mono ?_
      rintro e w3 ⟨he, u3⟩
      rw [hk] at he
      subst he
      have U3 := Lib.hid u3
      clear u3
      go_wp2_with fail
      refine (HC1.out w3 U3.out).mono ?_
      rintro e w4 ⟨rfl, u4⟩
      have U4 := Lib.hid (U2.out.trans (U3.out.trans u4))
      clear u4
      go_wp2_with fail
      refine (works11 CT.out NM.out U4.out).mono ?_
      rintro e w99 ⟨rfl, u99⟩
      go_wp2_with fail
      go_ret
      exact bopU rfl u99
  · have h9 : (ckE o != 0) = true := by rw [bne_iff_ne]; exact hk
    go_wp2_with fail
    refine (HC.out w2 (Up.refl _)).mono ?_
    rintro e w3 ⟨rfl, u3⟩
    have U3 := Lib.hid (U2.out.trans u3)
    clear u3
    go_wp2_with fail
    refine (works11 CT.out NM.out U3.out).mono ?_
    rintro e w99 ⟨rfl, u99⟩
    go_wp2_with fail
    go_ret
    exact bopU rfl u99
set_option maxHeartbeats 12800000 in
set_option maxRecDepth 100000 in
theorem lawWithin11 (w : World) (ct : CtS w) (nm : NmAll) (nt : NmTwo) (cs0 cs1 : List Cel) (cv0 : Value) (hcl0 : Cls w w.heap.size cv0 cs0) (hfit0 : ∀ c ∈ cs0, fitD c) (cv1 : Value) (hcl1 : Cls w w.heap.size cv1 cs1) (hfit1 : ∀ c ∈ cs1, fitD c) :
    Calls Tryd.prog 7 #[.agg #[cv0], .agg #[cv1]] w (BoP true w) := by
  obtain ⟨H, hH⟩ : ∃ H, w.heap.size = H := ⟨_, rfl⟩
  obtain ⟨CA0, cc0, hcv0, -, -⟩ := id hcl0
  obtain ⟨CA1, cc1, hcv1, -, -⟩ := id hcl1
  obtain ⟨W0, hW0⟩ : ∃ W0, w.alloc (.cells #[cv0] 24) = W0 := ⟨_, rfl⟩
  obtain ⟨W9, hW9⟩ : ∃ W9, W0.alloc (.cells #[cv1] 24) = W9 := ⟨_, rfl⟩
  have a0 : Up w W0 := by rw [← hW0]; exact (Up.refl w).alloc _
  have a9 : Up W0 W9 := by rw [← hW9]; exact (Up.refl W0).alloc _
  have hx0 : W0.heap[H]? = some (.cells #[cv0] 24 (0, 0)) := by rw [← hW0, ← hH]; exact heap_alloc_new w _
  have hz0 : W0.heap.size = H + 1 := by rw [← hW0, ← hH]; simp
  have hx9 : W9.heap[H + 1]? = some (.cells #[cv1] 24 (0, 0)) := by rw [← hW9, ← hz0]; exact heap_alloc_new W0 _
  have u0 : Up w W9 := a0.trans a9
  have hcl := hcl0.upp u0
  have hclb := hcl1.upp u0
  have kc : W9.cell? ⟨H, 0, none⟩ = some cv0 := a9.cell (cell_of_row _ H 0 _ _ _ hx0)
  have kd : W9.cell? ⟨H + 1, 0, none⟩ = some cv1 := cell_of_row _ (H + 1) 0 _ _ _ hx9
  have HSZ := Lib.hid (kept_sz cs0)
  have HSZ1 := Lib.hid (kept_sz cs1)
  have HW0 := Lib.hid hW0
  have HW9 := Lib.hid hW9
  have HH := Lib.hid hH
  have U0 := Lib.hid u0
  have HCL := Lib.hid hcl
  have HCL1 := Lib.hid hclb
  have HF := Lib.hid hfit0
  have HF1 := Lib.hid hfit1
  have CT := Lib.hid ct
  have NM := Lib.hid nm
  have NT := Lib.hid nt
  clear hcl0 hcl1 u0 hW0 hW9 hcl hclb hfit0 hfit1 hx0 hx9 ct nm nt a0 a9 hz0
  subst hcv0 hcv1
  go_enter Tryd.func7, Tryd.ntmps7
  go_wp2_with fail
  rw [HW0.out, HW9.out]
  have C0 := Lib.hid (fun W (u : Up W9 W) => uFew10 cs0 HCL.out HF.out u)
  have C1 := Lib.hid (fun W (u : Up W9 W) => uFew10 cs1 HCL1.out HF1.out u)
  obtain ⟨V0, hV0⟩ : ∃ V, Value.slice CA0 cs0.length cc0 = V := ⟨_, rfl⟩
  obtain ⟨V1, hV1⟩ : ∃ V, Value.slice CA1 cs1.length cc1 = V := ⟨_, rfl⟩
  rw [hV0] at C0 kc ⊢
  rw [hV1] at C1 kd ⊢
  clear HCL HCL1 HF HF1
  go_region_held3 (fun w' => w'.cell? ⟨H, 0, none⟩ = some V0 ∧ w'.cell? ⟨H + 1, 0, none⟩ = some V1) (first | go_keep | (refine ⟨?_, ?_⟩ <;> assumption)) (first
    | (go_at_call 8; (with_reducible show Calls _ _ #[Value.agg #[V0]] _ _); refine Calls.mono (C0.out _ (by first | assumption | exact Up.refl _ | exact (Up.refl _).drewN 1)) ?_; rintro e1 w1 ⟨v, rfl, h1, u1⟩; have n0 : w1.cell? ⟨H, 0, none⟩ = some V0 := u1.cell kc; have n1 : w1.cell? ⟨H + 1, 0, none⟩ = some V1 := u1.cell kd; have uu1 : Up W9 w1 := ((Up.refl W9).drewN 1).trans u1)
    | (go_at_call 8; (with_reducible show Calls _ _ #[Value.agg #[V1]] _ _); refine Calls.mono (C1.out _ (by first | assumption | exact Up.refl _ | exact (Up.refl _).drewN 1)) ?_; rintro e2 w2 ⟨v2, rfl, h2, u2⟩; have m0 : w2.cell? ⟨H, 0, none⟩ = some V0 := u2.cell n0; have m1 : w2.cell? ⟨H + 1, 0, none⟩ = some V1 := u2.cell n1))
  have h12 := h1.up u2
  obtain ⟨o, ho⟩ : ∃ o, kept cs0 = o := ⟨_, rfl⟩
  obtain ⟨p, hp⟩ : ∃ o, kept cs1 = o := ⟨_, rfl⟩
  have hz := HSZ.out
  have hz1 := HSZ1.out
  rw [ho] at h12 hz
  rw [hp] at h2 hz1
  have HV := Lib.hid h12
  have HV2 := Lib.hid h2
  have U2 := Lib.hid (U0.out.trans (uu1.trans u2))
  have HZ := Lib.hid hz
  have HZ1 := Lib.hid hz1
  rename_i hh
  clear hh n0 m0 m1 h1 h2 h12 u2 uu1 kc kd u1 hz hz1 ho hp HSZ HSZ1 C0 C1 HW0 HW9 HH hV0 hV1
  try clear n1
  have cA := NT.out.normal w2 o v HV.out (by have := HZ.out; omega)
  have HB := Lib.hid (fun W (u : Up w2 W) => NT.out.normal W p v2 (HV2.out.up u) (by have := HZ1.out; omega))
  rcases nmR_form o with ⟨x, hx, hxs⟩ | ⟨e9, he9, hx⟩
  · rw [hx] at cA
    rcases nmR_form p with ⟨y, hy, hys⟩ | ⟨e8, he8, hy⟩
    · rw [hy] at HB
      obtain ⟨t, rfl⟩ : ∃ t, o = some t := by
        cases o with
        | none => cases hx
        | some t => exact ⟨t, rfl⟩
      obtain ⟨u, rfl⟩ : ∃ t, p = some t := by
        cases p with
        | none => cases hy
        | some t => exact ⟨t, rfl⟩
      have hz : szT t ≤ 60 := HZ.out
      have hz1 : szT u ≤ 60 := HZ1.out
      obtain ⟨qv, pv, rfl⟩ := InT.ptr (t := t) HV.out
      obtain ⟨qv2, pv2, rfl⟩ := InT.ptr (t := u) HV2.out
      have harr := nm_arrow 1000 1000 1000 t u x y hx hy
      have hbz : szO (some (arT t u)) ≤ 65536 := by show szT (arT t u) ≤ 65536; unfold szT at hz hz1 ⊢; unfold arT; simp only [Fr.sz]; omega
      have hnz := nmR_sz (some (arT t u))
      have HN := Lib.hid (fun W vv (h : HasT W vv (some (arT t u))) => NT.out.normal W _ vv h hbz)
      obtain ⟨R, hR⟩ : ∃ R, nmR (some (arT t u)) = R := ⟨_, rfl⟩
      rw [show nmI 1000 (arT t u) = R from hR] at harr
      rw [hR] at HN hnz
      clear hz hz1 hbz hR hx hy hxs hys
      rcases harr with rfl | rfl | rfl
      · have HNZ := Lib.hid hnz
        clear hnz
        go_wp2_with fail
        refine (cA).mono ?_
        rintro e w3 ⟨v3, rfl, h3, u3⟩
        have h3 : HasT w3 v3 (some x) := h3
        have H3 := Lib.hid h3
        have U3 := Lib.hid u3
        clear h3 u3 cA
        go_wp2_with fail
        refine (HB.out w3 U3.out).mono ?_
        rintro e w4 ⟨v4, rfl, h4, u4⟩
        have h4 : HasT w4 v4 (some y) := h4
        have H4 := Lib.hid h4
        have H34 := Lib.hid (H3.out.up u4)
        have U4 := Lib.hid (U3.out.trans u4)
        have HV4 := Lib.hid (HV.out.up U4.out)
        have HV24 := Lib.hid (HV2.out.up U4.out)
        clear u4 h4
        go_wp2_with fail
        have t3 := two_has 114 HV4.out HV24.out
        try simp only [World.size_alloc] at t3
        have t3 : HasT _ _ (some (arT t u)) := t3
        have c1 := HN.out _ _ t3
        clear t3
        refine c1.mono ?_
        rintro e w5 ⟨v5, rfl, h5, u5⟩
        have U5 := Lib.hid (U4.out.trans (Up.trans (by repeat (first | exact Up.refl _ | refine Up.alloc ?_ _)) u5))
        have h5 : HasT w5 v5 (some (arT x y)) := h5
        have H5 := Lib.hid h5
        have hu45 : Up w4 w5 := Up.trans (by repeat (first | exact Up.refl _ | refine Up.alloc ?_ _)) u5
        have hx5 := H34.out.up hu45
        have hy5 := H4.out.up hu45
        obtain ⟨q3, p3, rfl⟩ := InT.ptr (t := x) hx5
        obtain ⟨q4, p4, rfl⟩ := InT.ptr (t := y) hy5
        have HX5 := Lib.hid hx5
        have HY5 := Lib.hid hy5
        clear h5 u5 c1 hu45 hx5 hy5
        go_wp2_with fail
        have t4 := two_has 114 HX5.out HY5.out
        try simp only [World.size_alloc] at t4
        have t4 : HasT _ _ (some (arT x y)) := t4
        have cM := uSame (some (arT x y)) (some (arT x y)) ((H5.out.next _).next _) t4 HNZ.out true ⟨fun _ => rfl, fun _ => rfl⟩ (Up.refl _)
        clear t4
        refine cM.mono ?_
        rintro e w7 ⟨rfl, u7⟩
        have U7 := Lib.hid (U2.out.trans (U5.out.trans (Up.trans (by repeat (first | exact Up.refl _ | refine Up.alloc ?_ _)) u7)))
        clear u7 cM
        go_wp2_with fail
        refine (works11 CT.out NM.out U7.out).mono ?_
        rintro e w99 ⟨rfl, u99⟩
        go_wp2_with fail
        go_ret
        exact bopU rfl u99
      · clear hnz
        go_wp2_with fail
        refine (cA).mono ?_
        rintro e w3 ⟨v3, rfl, h3, u3⟩
        have h3 : HasT w3 v3 (some x) := h3
        have H3 := Lib.hid h3
        have U3 := Lib.hid u3
        clear h3 u3 cA
        go_wp2_with fail
        refine (HB.out w3 U3.out).mono ?_
        rintro e w4 ⟨v4, rfl, h4, u4⟩
        have h4 : HasT w4 v4 (some y) := h4
        have H4 := Lib.hid h4
        have H34 := Lib.hid (H3.out.up u4)
        have U4 := Lib.hid (U3.out.trans u4)
        have HV4 := Lib.hid (HV.out.up U4.out)
        have HV24 := Lib.hid (HV2.out.up U4.out)
        clear u4 h4
        go_wp2_with fail
        have t3 := two_has 114 HV4.out HV24.out
        try simp only [World.size_alloc] at t3
        have t3 : HasT _ _ (some (arT t u)) := t3
        have c1 := HN.out _ _ t3
        clear t3
        refine c1.mono ?_
        rintro e w5 ⟨v5, rfl, h5, u5⟩
        have U5 := Lib.hid (U4.out.trans (Up.trans (by repeat (first | exact Up.refl _ | refine Up.alloc ?_ _)) u5))
        have h5 : v5 = .pointer none := h5
        subst h5
        have U7 := Lib.hid (U2.out.trans U5.out)
        clear u5 c1
        go_wp2_with fail
        refine (works11 CT.out NM.out U7.out).mono ?_
        rintro e w99 ⟨rfl, u99⟩
        go_wp2_with fail
        go_ret
        exact bopU rfl u99
      · clear hnz
        go_wp2_with fail
        refine (cA).mono ?_
        rintro e w3 ⟨v3, rfl, h3, u3⟩
        have h3 : HasT w3 v3 (some x) := h3
        have H3 := Lib.hid h3
        have U3 := Lib.hid u3
        clear h3 u3 cA
        go_wp2_with fail
        refine (HB.out w3 U3.out).mono ?_
        rintro e w4 ⟨v4, rfl, h4, u4⟩
        have h4 : HasT w4 v4 (some y) := h4
        have H4 := Lib.hid h4
        have H34 := Lib.hid (H3.out.up u4)
        have U4 := Lib.hid (U3.out.trans u4)
        have HV4 := Lib.hid (HV.out.up U4.out)
        have HV24 := Lib.hid (HV2.out.up U4.out)
        clear u4 h4
        go_wp2_with fail
        have t3 := two_has 114 HV4.out HV24.out
        try simp only [World.size_alloc] at t3
        have t3 : HasT _ _ (some (arT t u)) := t3
        have c1 := HN.out _ _ t3
        clear t3
        refine c1.mono ?_
        rintro e w5 ⟨v5, rfl, h5, u5⟩
        have U5 := Lib.hid (U4.out.trans (Up.trans (by repeat (first | exact Up.refl _ | refine Up.alloc ?_ _)) u5))
        have h5 : v5 = .pointer none := h5
        subst h5
        have U7 := Lib.hid (U2.out.trans U5.out)
        clear u5 c1
        go_wp2_with fail
        refine (works11 CT.out NM.out U7.out).mono ?_
        rintro e w99 ⟨rfl, u99⟩
        go_wp2_with fail
        go_ret
        exact bopU rfl u99
    · rw [hy] at HB
      have h9 : (e8 != 0) = true := by rw [bne_iff_ne]; exact he8
      go_wp2_with fail
      refine (cA).mono ?_
      rintro e w3 ⟨v3, rfl, -, u3⟩
      have U3 := Lib.hid u3
      clear u3 cA
      go_wp2_with fail
      refine (HB.out w3 U3.out).mono ?_
      rintro e w4 ⟨v4, rfl, -, u4⟩
      have U4 := Lib.hid (U2.out.trans (U3.out.trans u4))
      clear u4
      go_wp2_with fail
      refine (works11 CT.out NM.out U4.out).mono ?_
      rintro e w99 ⟨rfl, u99⟩
      go_wp2_with fail
      go_ret
      exact bopU rfl u99
  · rw [hx] at cA
    have h9 : (e9 != 0) = true := by rw [bne_iff_ne]; exact he9
    obtain ⟨⟨RO, RE⟩, hR⟩ : ∃ R, nmR p = R := ⟨_, rfl⟩
    rw [hR] at HB
    clear hx hR
    go_wp2_with fail
    refine (cA).mono ?_
    rintro e w3 ⟨v3, rfl, -, u3⟩
    have U3 := Lib.hid u3
    clear u3 cA
    go_wp2_with fail
    refine (HB.out w3 U3.out).mono ?_
    rintro e w4 ⟨v4, rfl, -, u4⟩
    have U4 := Lib.hid (U2.out.trans (U3.out.trans u4))
    clear u4
    go_wp2_with fail
    refine (works11 CT.out NM.out U4.out).mono ?_
    rintro e w99 ⟨rfl, u99⟩
    go_wp2_with fail
    go_ret
    exact bopU rfl u99
end Go.Proofs.YtofgniceilbpaaaDoor
