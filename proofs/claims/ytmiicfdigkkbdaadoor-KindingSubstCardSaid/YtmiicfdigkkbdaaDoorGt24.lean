/-
  Layer 12: the outright laws (written by gnk.py).
-/
import Derived.Test.YtmiicfdigkkbdaaDoorGt23
namespace Go.Proofs.YtmiicfdigkkbdaaDoor
open Go.RowKit

structure NmN : Prop where
  normal : ∀ (w : World) (o : Option Tr) (v : Value), HasT w v o → szO o ≤ 65536 → Calls Tryd.prog 17 #[v] w (TeP (nmR o) w)
structure CtK : Prop where
  kind : ∀ (w : World) (o : Option Tr) (v : Value), HasT w v o → szO o ≤ 65536 → Calls Tryd.prog 13 #[v] w (InP (kkE o) w)
  free : ∀ (w : World) (o : Option Tr) (v : Value), HasT w v o → szO o ≤ 65536 → Calls Tryd.prog 15 #[v] w (InP (frR o) w)
structure CtB : Prop where
  subst : ∀ (w : World) (o p : Option Tr) (v u : Value) (i : Int), HasT w v o → szO o ≤ 65536 → HasT w u p → szO p ≤ 65536 → Calls Tryd.prog 16 #[v, .int .i64 i, u] w (ErU (sbR i o p) w)
set_option maxHeartbeats 12800000 in
set_option maxRecDepth 100000 in
theorem lawNorm12 (w : World) (ct : CtT w) (kd : KdAll) (nm : NmN) (L : List (List Cel)) (lv : Value) (hln : Cln w w.heap.size lv L) (hlf : ∀ cs ∈ L, ∀ c ∈ cs, fitD c) (cs0 : List Cel) (cv0 : Value) (hcl0 : Cls w w.heap.size cv0 cs0) (hfit0 : ∀ c ∈ cs0, fitD c) :
    Calls Tryd.prog 6 #[lv, .agg #[cv0]] w (BoP true w) := by
  obtain ⟨H, hH⟩ : ∃ H, w.heap.size = H := ⟨_, rfl⟩
  obtain ⟨CA0, cc0, hcv0, -, -⟩ := id hcl0
  obtain ⟨A0, hA0⟩ : ∃ W0, w.alloc (.cells #[cv0] 24) = W0 := ⟨_, rfl⟩
  have a0 : Up w A0 := by rw [← hA0]; exact (Up.refl _).alloc _
  have hx0 : A0.heap[H]? = some (.cells #[cv0] 24 (0, 0)) := by rw [← hA0, ← hH]; exact heap_alloc_new w _
  have hs0 : A0.heap.size = H + 1 := by rw [← hA0, ← hH]; simp
  have u0 : Up w A0 := a0
  have k0 : A0.cell? ⟨H, 0, none⟩ = some cv0 := (cell_of_row _ (H) 0 _ _ _ hx0)
  have HSZ0 := Lib.hid (kept_sz cs0)
  have HCL0 := Lib.hid (hcl0.upp u0)
  have HF0 := Lib.hid hfit0
  have HLN := Lib.hid (hln.upp u0)
  have HLF := Lib.hid hlf
  have HA0 := Lib.hid hA0
  have U0 := Lib.hid u0
  have CT := Lib.hid ct
  have KD := Lib.hid kd
  have NM := Lib.hid nm
  clear u0 hcl0 hA0 hfit0 hx0 a0 hs0 hln hlf ct kd nm
  obtain ⟨LA, ln, hlv, -, -⟩ := id HLN.out
  subst hlv
  subst hcv0
  go_enter Tryd.func6, Tryd.ntmps6
  go_wp2_with fail
  rw [HA0.out]
  have C0 := Lib.hid (fun W (u : Up A0 W) => uFew10 cs0 HCL0.out HF0.out u)
  obtain ⟨V0, hV0⟩ : ∃ V, Value.slice CA0 cs0.length cc0 = V := ⟨_, rfl⟩
  rw [hV0] at C0 k0 ⊢
  have CX := Lib.hid (fun W (u : Up A0 W) => ctxAny L (HLN.out.upp u) HLF.out)
  obtain ⟨LV, hLV⟩ : ∃ V, Value.slice LA L.length ln = V := ⟨_, rfl⟩
  rw [hLV] at CX ⊢
  clear HLN HLF hLV
  clear HCL0 HF0 hV0
  go_region_held3 (fun w' => w'.cell? ⟨H, 0, none⟩ = some V0) (first | go_keep | assumption) (first
    | (go_at_call 11; refine Calls.mono (CX.out _ (by first | assumption | exact Up.refl _ | exact (Up.refl _).drewN 1)) ?_; rintro e1 w1 ⟨v1, rfl, h1, u1⟩; have uu1 : Up A0 w1 := ((Up.refl A0).drewN 1).trans u1; have n1_0 := uu1.cell k0)
    | (go_at_call 7; (with_reducible show Calls _ _ #[Value.agg #[V0]] _ _); refine Calls.mono (C0.out _ uu1) ?_; rintro e2 w2 ⟨v2, rfl, h2, u2⟩; have uu2 : Up A0 w2 := uu1.trans u2; have n2_0 := uu2.cell k0))
  have g1 := (h1.up u2)
  have g2 := h2
  obtain ⟨C, hC⟩ : ∃ C, ctxL L = C := ⟨_, rfl⟩
  have hcl : C.length ≤ 5 := by rw [← hC]; unfold ctxL; rw [List.length_map, List.length_take]; omega
  have hcz : ∀ t ∈ C, szO t ≤ 60 := by rw [← hC]; intro t ht; obtain ⟨cs, _, rfl⟩ := List.mem_map.1 ht; exact kept_sz cs
  rw [hC] at g1
  have HCL := Lib.hid hcl
  have HCZ := Lib.hid hcz
  have G1 := Lib.hid g1
  clear hcl hcz hC
  obtain ⟨o, ho⟩ : ∃ o, kept cs0 = o := ⟨_, rfl⟩
  have hz0 := HSZ0.out
  rw [ho] at g2 hz0
  have G2 := Lib.hid g2
  have HZ0 := Lib.hid hz0
  clear ho hz0
  have U1 := Lib.hid (U0.out.trans uu2)
  rename_i hh
  clear hh
  clear h1 u1 uu1 g1 h2 u2 uu2 g2
  try clear n1_0
  try clear n2_0
  clear k0 HSZ0 HA0 C0 CX U0
  have hcl := HCL.out
  have hcz := HCZ.out
  have hz := HZ0.out
  have cK := KD.out.kind w2 C o v1 v2 G1.out (by omega) (fun t ht => by have := hcz t ht; omega) G2.out (by omega) (ap_small hcz (by omega))
  have HN := Lib.hid (fun W (u : Up w2 W) => NM.out.normal W o v2 (G2.out.up u) (by omega))
  have HK2 := Lib.hid (fun W (u : Up w2 W) m vv (h : HasT W vv (some m)) (hm : szT m ≤ 65536) (hn : nmR o = (some m, 0)) => KD.out.kind W C (some m) v1 vv (G1.out.up u) (by omega) (fun t ht => by have := hcz t ht; omega) h hm (ap_norm hcz hz hn))
  have hks := kn_small hcz hz
  clear hcl hz hcz
  rcases kn_form C o with ⟨k, hk⟩ | ⟨e9, he9, hk⟩
  · rw [hk] at cK hks
    have HKS := Lib.hid (show szO (some k) ≤ 65536 from Nat.le_trans hks (by decide))
    rcases nmR_form o with ⟨m, hm, hms⟩ | ⟨e8, he8, hm⟩
    · rw [hm] at HN
      have hres := kn_norm hk hm
      have HMZ := Lib.hid (nf_sz hms)
      have HM0 := Lib.hid hm
      clear hk hm hms hks
      rcases hres with hr | hr
      · have HR0 := Lib.hid hr
        go_wp2_with fail
        refine (cK).mono ?_
        rintro e w3 ⟨v3, rfl, h3, u3⟩
        have h3 : HasT w3 v3 (some k) := h3
        have H3 := Lib.hid h3
        have U3 := Lib.hid u3
        clear h3 u3 cK
        go_wp2_with fail
        refine (HN.out w3 U3.out).mono ?_
        rintro e w4 ⟨v4, rfl, h4, u4⟩
        have h4 : HasT w4 v4 (some m) := h4
        have H34 := Lib.hid (H3.out.up u4)
        have U4 := Lib.hid (U3.out.trans u4)
        have cQ := HK2.out w4 U4.out m v4 h4 HMZ.out HM0.out
        rw [HR0.out] at cQ
        clear h4 u4
        go_wp2_with fail
        refine (cQ).mono ?_
        rintro e w5 ⟨v5, rfl, h5, u5⟩
        have h5 : HasT w5 v5 (some k) := h5
        have cM := uSame (some k) (some k) (H34.out.up u5) h5 HKS.out true ⟨fun _ => rfl, fun _ => rfl⟩ (Up.refl w5)
        have U5 := Lib.hid (U4.out.trans u5)
        clear h5 u5 cQ
        go_wp2_with fail
        refine (cM).mono ?_
        rintro e w6 ⟨rfl, u6⟩
        have U6 := Lib.hid (U1.out.trans (U5.out.trans u6))
        clear u6 cM
        go_wp2_with fail
        refine (works12 CT.out KD.out U6.out).mono ?_
        rintro e w99 ⟨rfl, u99⟩
        go_wp2_with fail
        go_ret
        exact bopU rfl u99
      · have HR0 := Lib.hid hr
        go_wp2_with fail
        refine (cK).mono ?_
        rintro e w3 ⟨v3, rfl, h3, u3⟩
        have h3 : HasT w3 v3 (some k) := h3
        have H3 := Lib.hid h3
        have U3 := Lib.hid u3
        clear h3 u3 cK
        go_wp2_with fail
        refine (HN.out w3 U3.out).mono ?_
        rintro e w4 ⟨v4, rfl, h4, u4⟩
        have h4 : HasT w4 v4 (some m) := h4
        have H34 := Lib.hid (H3.out.up u4)
        have U4 := Lib.hid (U3.out.trans u4)
        have cQ := HK2.out w4 U4.out m v4 h4 HMZ.out HM0.out
        rw [HR0.out] at cQ
        clear h4 u4
        go_wp2_with fail
        refine (cQ).mono ?_
        rintro e w5 ⟨v5, rfl, -, u5⟩
        have U5 := Lib.hid (U1.out.trans (U4.out.trans u5))
        clear u5 cQ
        go_wp2_with fail
        refine (works12 CT.out KD.out U5.out).mono ?_
        rintro e w99 ⟨rfl, u99⟩
        go_wp2_with fail
        go_ret
        exact bopU rfl u99
    · rw [hm] at HN
      have h9 : (e8 != 0) = true := by rw [bne_iff_ne]; exact he8
      clear hk hm hks
      go_wp2_with fail
      refine (cK).mono ?_
      rintro e w3 ⟨v3, rfl, -, u3⟩
      have U3 := Lib.hid u3
      clear u3 cK
      go_wp2_with fail
      refine (HN.out w3 U3.out).mono ?_
      rintro e w4 ⟨v4, rfl, -, u4⟩
      have U4 := Lib.hid (U1.out.trans (U3.out.trans u4))
      clear u4
      go_wp2_with fail
      refine (works12 CT.out KD.out U4.out).mono ?_
      rintro e w99 ⟨rfl, u99⟩
      go_wp2_with fail
      go_ret
      exact bopU rfl u99
  · rw [hk] at cK
    have h9 : (e9 != 0) = true := by rw [bne_iff_ne]; exact he9
    obtain ⟨⟨RO, RE⟩, hR⟩ : ∃ R, nmR o = R := ⟨_, rfl⟩
    rw [hR] at HN
    clear hk hks hR
    go_wp2_with fail
    refine (cK).mono ?_
    rintro e w3 ⟨v3, rfl, -, u3⟩
    have U3 := Lib.hid u3
    clear u3 cK
    go_wp2_with fail
    refine (HN.out w3 U3.out).mono ?_
    rintro e w4 ⟨v4, rfl, -, u4⟩
    have U4 := Lib.hid (U1.out.trans (U3.out.trans u4))
    clear u4
    go_wp2_with fail
    refine (works12 CT.out KD.out U4.out).mono ?_
    rintro e w99 ⟨rfl, u99⟩
    go_wp2_with fail
    go_ret
    exact bopU rfl u99
theorem cxo_one {w : World} {oq : Option Addr} {t : Option Tr} (h : HasT w (.pointer oq) t) : Cxo (w.alloc (.cells #[.pointer oq] 25)) (.slice (some ⟨w.heap.size, 0, none⟩) 1 1) [t] := by
  refine .inr ⟨w.heap.size, 0, 1, rfl, Nat.le_refl _, by rw [World.size_alloc]; omega, fun j s hj => ?_⟩
  have hj0 : j = 0 := by
    have := (List.getElem?_eq_some_iff.1 hj).1
    simp only [List.length_singleton] at this
    omega
  subst hj0
  injection hj with hj
  subst hj
  exact ⟨_, cell_of_row _ w.heap.size (0 + 0) _ _ _ (heap_alloc_new w _), h.next _⟩
set_option maxHeartbeats 12800000 in
set_option maxRecDepth 100000 in
theorem lawSubst12 (w : World) (ct : CtT w) (kd : KdAll) (cb : CtB) (cs0 : List Cel) (cv0 : Value) (hcl0 : Cls w w.heap.size cv0 cs0) (hfit0 : ∀ c ∈ cs0, fitD c) (cs1 : List Cel) (cv1 : Value) (hcl1 : Cls w w.heap.size cv1 cs1) (hfit1 : ∀ c ∈ cs1, fitD c) (cs2 : List Cel) (cv2 : Value) (hcl2 : Cls w w.heap.size cv2 cs2) (hfit2 : ∀ c ∈ cs2, fitD c) :
    Calls Tryd.prog 5 #[.agg #[cv0], .agg #[cv1], .agg #[cv2]] w (BoP true w) := by
  obtain ⟨H, hH⟩ : ∃ H, w.heap.size = H := ⟨_, rfl⟩
  obtain ⟨CA0, cc0, hcv0, -, -⟩ := id hcl0
  obtain ⟨CA1, cc1, hcv1, -, -⟩ := id hcl1
  obtain ⟨CA2, cc2, hcv2, -, -⟩ := id hcl2
  obtain ⟨A0, hA0⟩ : ∃ W0, w.alloc (.cells #[cv0] 24) = W0 := ⟨_, rfl⟩
  have a0 : Up w A0 := by rw [← hA0]; exact (Up.refl _).alloc _
  have hx0 : A0.heap[H]? = some (.cells #[cv0] 24 (0, 0)) := by rw [← hA0, ← hH]; exact heap_alloc_new w _
  have hs0 : A0.heap.size = H + 1 := by rw [← hA0, ← hH]; simp
  obtain ⟨A1, hA1⟩ : ∃ W0, A0.alloc (.cells #[cv1] 24) = W0 := ⟨_, rfl⟩
  have a1 : Up A0 A1 := by rw [← hA1]; exact (Up.refl _).alloc _
  have hx1 : A1.heap[H + 1]? = some (.cells #[cv1] 24 (0, 0)) := by rw [← hA1, ← hs0]; exact heap_alloc_new A0 _
  have hs1 : A1.heap.size = H + 1 + 1 := by rw [← hA1, World.size_alloc, hs0]
  obtain ⟨A2, hA2⟩ : ∃ W0, A1.alloc (.cells #[cv2] 24) = W0 := ⟨_, rfl⟩
  have a2 : Up A1 A2 := by rw [← hA2]; exact (Up.refl _).alloc _
  have hx2 : A2.heap[H + 1 + 1]? = some (.cells #[cv2] 24 (0, 0)) := by rw [← hA2, ← hs1]; exact heap_alloc_new A1 _
  have hs2 : A2.heap.size = H + 1 + 1 + 1 := by rw [← hA2, World.size_alloc, hs1]
  have u0 : Up w A2 := (a0.trans a1).trans a2
  have k0 : A2.cell? ⟨H, 0, none⟩ = some cv0 := (a2.cell (a1.cell (cell_of_row _ (H) 0 _ _ _ hx0)))
  have HSZ0 := Lib.hid (kept_sz cs0)
  have HCL0 := Lib.hid (hcl0.upp u0)
  have HF0 := Lib.hid hfit0
  have k1 : A2.cell? ⟨H + 1, 0, none⟩ = some cv1 := (a2.cell (cell_of_row _ (H + 1) 0 _ _ _ hx1))
  have HSZ1 := Lib.hid (kept_sz cs1)
  have HCL1 := Lib.hid (hcl1.upp u0)
  have HF1 := Lib.hid hfit1
  have k2 : A2.cell? ⟨H + 1 + 1, 0, none⟩ = some cv2 := (cell_of_row _ (H + 1 + 1) 0 _ _ _ hx2)
  have HSZ2 := Lib.hid (kept_sz cs2)
  have HCL2 := Lib.hid (hcl2.upp u0)
  have HF2 := Lib.hid hfit2
  have HA0 := Lib.hid hA0
  have HA1 := Lib.hid hA1
  have HA2 := Lib.hid hA2
  have U0 := Lib.hid u0
  have CT := Lib.hid ct
  have KD := Lib.hid kd
  have CB := Lib.hid cb
  clear u0 hcl0 hA0 hfit0 hx0 a0 hs0 hcl1 hA1 hfit1 hx1 a1 hs1 hcl2 hA2 hfit2 hx2 a2 hs2 ct kd cb
  subst hcv0 hcv1 hcv2
  go_enter Tryd.func5, Tryd.ntmps5
  go_wp2_with fail
  rw [HA0.out, HA1.out, HA2.out]
  have C0 := Lib.hid (fun W (u : Up A2 W) => uFew10 cs0 HCL0.out HF0.out u)
  have C1 := Lib.hid (fun W (u : Up A2 W) => uFew10 cs1 HCL1.out HF1.out u)
  have C2 := Lib.hid (fun W (u : Up A2 W) => uFew10 cs2 HCL2.out HF2.out u)
  obtain ⟨V0, hV0⟩ : ∃ V, Value.slice CA0 cs0.length cc0 = V := ⟨_, rfl⟩
  rw [hV0] at C0 k0 ⊢
  obtain ⟨V1, hV1⟩ : ∃ V, Value.slice CA1 cs1.length cc1 = V := ⟨_, rfl⟩
  rw [hV1] at C1 k1 ⊢
  obtain ⟨V2, hV2⟩ : ∃ V, Value.slice CA2 cs2.length cc2 = V := ⟨_, rfl⟩
  rw [hV2] at C2 k2 ⊢
  clear HCL0 HF0 hV0 HCL1 HF1 hV1 HCL2 HF2 hV2
  go_region_held3 (fun w' => w'.cell? ⟨H, 0, none⟩ = some V0 ∧ w'.cell? ⟨H + 1, 0, none⟩ = some V1 ∧ w'.cell? ⟨H + 1 + 1, 0, none⟩ = some V2) (first | go_keep | (refine ⟨?_, ?_, ?_⟩ <;> assumption)) (first
    | (go_at_call 7; (with_reducible show Calls _ _ #[Value.agg #[V0]] _ _); refine Calls.mono (C0.out _ (by first | assumption | exact Up.refl _ | exact (Up.refl _).drewN 1)) ?_; rintro e1 w1 ⟨v1, rfl, h1, u1⟩; have uu1 : Up A2 w1 := ((Up.refl A2).drewN 1).trans u1; have n1_0 := uu1.cell k0; have n1_1 := uu1.cell k1; have n1_2 := uu1.cell k2)
    | (go_at_call 7; (with_reducible show Calls _ _ #[Value.agg #[V1]] _ _); refine Calls.mono (C1.out _ uu1) ?_; rintro e2 w2 ⟨v2, rfl, h2, u2⟩; have uu2 : Up A2 w2 := uu1.trans u2; have n2_0 := uu2.cell k0; have n2_1 := uu2.cell k1; have n2_2 := uu2.cell k2)
    | (go_at_call 7; (with_reducible show Calls _ _ #[Value.agg #[V2]] _ _); refine Calls.mono (C2.out _ uu2) ?_; rintro e3 w3 ⟨v3, rfl, h3, u3⟩; have uu3 : Up A2 w3 := uu2.trans u3; have n3_0 := uu3.cell k0; have n3_1 := uu3.cell k1; have n3_2 := uu3.cell k2))
  have g1 := ((h1.up u2).up u3)
  have g2 := (h2.up u3)
  have g3 := h3
  obtain ⟨o, ho⟩ : ∃ o, kept cs0 = o := ⟨_, rfl⟩
  have hz0 := HSZ0.out
  rw [ho] at g1 hz0
  have G1 := Lib.hid g1
  have HZ0 := Lib.hid hz0
  clear ho hz0
  obtain ⟨p, hp⟩ : ∃ o, kept cs1 = o := ⟨_, rfl⟩
  have hz1 := HSZ1.out
  rw [hp] at g2 hz1
  have G2 := Lib.hid g2
  have HZ1 := Lib.hid hz1
  clear hp hz1
  obtain ⟨q, hq⟩ : ∃ o, kept cs2 = o := ⟨_, rfl⟩
  have hz2 := HSZ2.out
  rw [hq] at g3 hz2
  have G3 := Lib.hid g3
  have HZ2 := Lib.hid hz2
  clear hq hz2
  have U1 := Lib.hid (U0.out.trans uu3)
  rename_i hh
  clear hh
  clear h1 u1 uu1 g1 h2 u2 uu2 g2 h3 u3 uu3 g3
  try clear n1_0
  try clear n1_1
  try clear n1_2
  try clear n2_0
  try clear n2_1
  try clear n2_2
  try clear n3_0
  try clear n3_1
  try clear n3_2
  clear k0 k1 k2 HSZ0 HA0 C0 HSZ1 HA1 C1 HSZ2 HA2 C2 U0
  have hz0 := HZ0.out
  have hz1 := HZ1.out
  have hz2 := HZ2.out
  obtain ⟨oq, rfl⟩ := InO.one G1.out
  have HB := Lib.hid (fun W (u : Up w3 W) => KD.out.kind W [] q (.slice none 0 0) v3 (.inl ⟨rfl, rfl⟩) (by decide) (fun t ht => by cases ht) (G3.out.up u) (by omega) (ap_small (fun t ht => by cases ht) (by omega)))
  have hka := kn_small (C := [o]) (M := 60) (o := p) (n := 60) (fun t ht => by rw [List.mem_singleton.1 ht]; exact hz0) hz1
  have hkb := kn_small (C := []) (M := 60) (o := q) (n := 60) (fun t ht => by cases ht) hz2
  obtain ⟨RA, hRA⟩ : ∃ R, knR [o] p = R := ⟨_, rfl⟩
  obtain ⟨RB, hRB⟩ : ∃ R, knR [] q = R := ⟨_, rfl⟩
  rw [hRB] at HB hkb
  rw [hRA] at hka
  have HRA := Lib.hid hRA
  have HRB := Lib.hid hRB
  have HKA := Lib.hid hka
  have HKB := Lib.hid hkb
  have fa := kn_form [o] p
  have fb := kn_form [] q
  rw [hRA] at fa
  rw [hRB] at fb
  clear hRA hRB hka hkb
  go_wp2_with fail
  have c1 := KD.out.kind _ [o] p _ v2 (cxo_one G1.out) (by simp) (fun t ht => by rw [List.mem_singleton.1 ht]; omega) (G2.out.next _) (by omega) (ap_small (fun t ht => by rw [List.mem_singleton.1 ht]; exact hz0) (by omega))
  rw [HRA.out] at c1
  clear hz0 hz1 hz2
  refine c1.mono ?_
  rintro e w4 ⟨v4, he, h4, u4⟩
  have U4 : Hid (Up w3 w4) := Lib.hid (Up.trans (by repeat (first | exact Up.refl _ | refine Up.alloc ?_ _)) u4)
  have H4 := Lib.hid h4
  have c2 := HB.out w4 U4.out
  clear u4 h4 c1
  rcases fa with ⟨a, rfl⟩ | ⟨e9, he9, rfl⟩
  · dsimp only at he
    subst he
    rcases fb with ⟨K, rfl⟩ | ⟨e8, he8, rfl⟩
    · have H4 : Hid (HasT w4 v4 (some a)) := H4
      go_wp2_with fail
      refine (c2).mono ?_
      rintro e w5 ⟨v5, rfl, h5, u5⟩
      have h5 : HasT w5 v5 (some K) := h5
      have U5 := Lib.hid (U4.out.trans u5)
      have H45 := Lib.hid (H4.out.up u5)
      obtain ⟨B, hB⟩ : ∃ B : Bool, B = true ↔ some K = o := by
        classical exact ⟨decide (some K = o), by simp⟩
      have c3 := uSame (some K) o h5 (G1.out.up U5.out) (Nat.le_trans HKB.out (by decide)) B hB (Up.refl w5)
      have HBI := Lib.hid hB
      clear u5 h5 c2 hB
      cases B with
      | false =>
        go_wp2_with fail
        refine (c3).mono ?_
        rintro e w6 ⟨rfl, u6⟩
        have U6 := Lib.hid (U1.out.trans (U5.out.trans u6))
        clear u6 c3
        go_wp2_with fail
        refine (works12 CT.out KD.out U6.out).mono ?_
        rintro e w99 ⟨rfl, u99⟩
        go_wp2_with fail
        go_ret
        exact bopU rfl u99
      | true =>
        have hKo := HBI.out.1 rfl
        subst hKo
        obtain ⟨-, t, -, rfl, -, -, hcot, -⟩ := kn_some HRA.out
        obtain ⟨-, u, -, rfl, -⟩ := kn_some HRB.out
        have hz0 : szT K ≤ 60 := HZ0.out
        have hz1 : szT t ≤ 60 := HZ1.out
        have hz2 : szT u ≤ 60 := HZ2.out
        have hks := kn_sub HRA.out HRB.out rfl (by omega)
        have HS1 := Lib.hid hks.1
        have HS2 := Lib.hid hks.2
        have hbz : szO (some (apT K t u)) ≤ 65536 := by show szT (apT K t u) ≤ 65536; unfold szT at hz0 hz1 hz2 ⊢; unfold apT; simp only [Fr.sz]; omega
        have hbz2 : szO (some (apT K t u)) ≤ 20000 := by show szT (apT K t u) ≤ 20000; unfold szT at hz0 hz1 hz2 ⊢; unfold apT; simp only [Fr.sz]; omega
        have HAP := Lib.hid (fun W vv (h : HasT W vv (some (apT K t u))) => KD.out.kind W [] (some (apT K t u)) (.slice none 0 0) vv (.inl ⟨rfl, rfl⟩) (by decide) (fun t ht => by cases ht) h hbz (ap_small (fun t ht => by cases ht) hbz2))
        have HSB := Lib.hid (fun W (hu : Up w3 W) => CB.out.subst W (some t) (some u) v2 v3 0 (G2.out.up hu) (by show szT t ≤ _; omega) (G3.out.up hu) (by show szT u ≤ _; omega))
        have hfm := sb_form (i := 0) (o := some t) (p := some u)
        have hcz : ∀ m, (sbR 0 (some t) (some u)).1 = some m → szT m ≤ 20000 := fun m h => by
          have h1 := (sb_pt (e := (sbR 0 (some t) (some u)).2) (Prod.ext h rfl)).1
          have h2 := ptT_sz (co_tvok hcot) h1
          have h3 := ctT_le 0 0 t
          have h4 : ctT 0 0 t * szT u ≤ 60 * 60 := Nat.mul_le_mul (Nat.le_trans h3 hz1) hz2
          omega
        obtain ⟨⟨m, z⟩, hR⟩ : ∃ R, sbR 0 (some t) (some u) = R := ⟨_, rfl⟩
        rw [hR] at hfm hcz HSB
        have HR9 := Lib.hid hR
        obtain ⟨qv2, pv2, rfl⟩ := InT.ptr (t := t) G2.out
        obtain ⟨qv3, pv3, rfl⟩ := InT.ptr (t := u) G3.out
        obtain ⟨qv1, pv1, hoq⟩ := InT.ptr (t := K) G1.out
        injection hoq with hoq
        subst hoq
        have both : (∃ s, m = some s ∧ z = 0 ∧ szT s ≤ 20000) ∨ (m = none ∧ z ≠ 0) := by
          rcases hfm with ⟨h1, s, h2⟩ | ⟨h1, h2⟩
          · exact .inl ⟨s, h2, h1, hcz s h2⟩
          · exact .inr ⟨h2, h1⟩
        clear hfm hcz hz0 hz1 hz2 hks hbz hbz2 hcot hR
        go_wp2_with fail
        refine (c3).mono ?_
        rintro e w6 ⟨rfl, u6⟩
        have U6 := Lib.hid (U5.out.trans u6)
        have H46 := Lib.hid (H45.out.up u6)
        have t1 := G1.out.up U6.out
        have t2 := G2.out.up U6.out
        have t3 := G3.out.up U6.out
        clear u6 c3
        go_wp2_with fail
        have t4 := two_has 119 t1 t2
        have t5 := two_has 120 t4 ((t3.next _).next _)
        simp only [World.size_alloc] at t5
        have t5 : HasT _ _ (some (apT K t u)) := t5
        have c4 := HAP.out _ _ t5
        rw [HS1.out] at c4
        clear t1 t2 t3 t4 t5
        refine c4.mono ?_
        rintro e w7 ⟨v7, rfl, h7, u7⟩
        have h7 : HasT w7 v7 (some a) := h7
        have u67 : Up w6 w7 := Up.trans (by repeat (first | exact Up.refl _ | refine Up.alloc ?_ _)) u7
        have U7 := Lib.hid (U6.out.trans u67)
        have H47 := Lib.hid (H46.out.up u67)
        have c5 := uSame (some a) (some a) H47.out h7 (Nat.le_trans HKA.out (by decide)) true ⟨fun _ => rfl, fun _ => rfl⟩ (Up.refl w7)
        clear h7 u7 u67 c4
        go_wp2_with fail
        refine (c5).mono ?_
        rintro e w8 ⟨rfl, u8⟩
        have U8 := Lib.hid (U7.out.trans u8)
        have H48 := Lib.hid (H47.out.up u8)
        clear u8 c5
        rcases both with ⟨s, rfl, rfl, hs⟩ | ⟨rfl, hz0⟩
        · have HS9 := Lib.hid hs
          clear hs
          go_wp2_with fail
          refine (HSB.out w8 U8.out).mono ?_
          rintro e w9 ⟨v9, he, u9, h9⟩
          dsimp only at he
          subst he
          have h9 : HasT w9 v9 (some s) := h9
          have U9 := Lib.hid (U8.out.trans u9)
          have H49 := Lib.hid (H48.out.up u9)
          have c6 := KD.out.kind w9 [] (some s) (.slice none 0 0) v9 (.inl ⟨rfl, rfl⟩) (by decide) (fun t ht => by cases ht) h9 (Nat.le_trans HS9.out (by decide)) (ap_small (fun t ht => by cases ht) HS9.out)
          clear u9 h9
          rcases HS2.out s HR9.out with hr | hr
          · rw [hr] at c6
            clear hr
            go_wp2_with fail
            refine (c6).mono ?_
            rintro e w10 ⟨v10, rfl, h10, u10⟩
            have h10 : HasT w10 v10 (some a) := h10
            have c7 := uSame (some a) (some a) (H49.out.up u10) h10 (Nat.le_trans HKA.out (by decide)) true ⟨fun _ => rfl, fun _ => rfl⟩ (Up.refl w10)
            have U10 := Lib.hid (U9.out.trans u10)
            clear u10 h10 c6
            go_wp2_with fail
            refine (c7).mono ?_
            rintro e w11 ⟨rfl, u11⟩
            have U11 := Lib.hid (U1.out.trans (U10.out.trans u11))
            clear u11 c7
            go_wp2_with fail
            refine (works12 CT.out KD.out U11.out).mono ?_
            rintro e w99 ⟨rfl, u99⟩
            go_wp2_with fail
            go_ret
            exact bopU rfl u99
          · rw [hr] at c6
            clear hr
            go_wp2_with fail
            refine (c6).mono ?_
            rintro e w10 ⟨v10, rfl, -, u10⟩
            have U10 := Lib.hid (U1.out.trans (U9.out.trans u10))
            clear u10 c6
            go_wp2_with fail
            refine (works12 CT.out KD.out U10.out).mono ?_
            rintro e w99 ⟨rfl, u99⟩
            go_wp2_with fail
            go_ret
            exact bopU rfl u99
        · have h9 : (z != 0) = true := by rw [bne_iff_ne]; exact hz0
          clear hz0
          go_wp2_with fail
          refine (HSB.out w8 U8.out).mono ?_
          rintro e w9 ⟨v9, he, u9, -⟩
          dsimp only at he
          subst he
          have U9 := Lib.hid (U1.out.trans (U8.out.trans u9))
          clear u9
          go_wp2_with fail
          refine (works12 CT.out KD.out U9.out).mono ?_
          rintro e w99 ⟨rfl, u99⟩
          go_wp2_with fail
          go_ret
          exact bopU rfl u99
    · have h9 : (e8 != 0) = true := by rw [bne_iff_ne]; exact he8
      go_wp2_with fail
      refine (c2).mono ?_
      rintro e w5 ⟨v5, rfl, -, u5⟩
      have U5 := Lib.hid (U1.out.trans (U4.out.trans u5))
      clear u5 c2
      go_wp2_with fail
      refine (works12 CT.out KD.out U5.out).mono ?_
      rintro e w99 ⟨rfl, u99⟩
      go_wp2_with fail
      go_ret
      exact bopU rfl u99
  · dsimp only at he
    subst he
    have h9 : (e9 != 0) = true := by rw [bne_iff_ne]; exact he9
    obtain ⟨RO, RE⟩ := RB
    clear fb
    go_wp2_with fail
    refine (c2).mono ?_
    rintro e w5 ⟨v5, rfl, -, u5⟩
    have U5 := Lib.hid (U1.out.trans (U4.out.trans u5))
    clear u5 c2
    go_wp2_with fail
    refine (works12 CT.out KD.out U5.out).mono ?_
    rintro e w99 ⟨rfl, u99⟩
    go_wp2_with fail
    go_ret
    exact bopU rfl u99
theorem ctail_nil (w : World) (t ty e : TypeId) (i : TypeInfo) (ht : Tryd.prog.underlying t = some (.slice e)) (hi : Tryd.prog.info? e = some i) (b : Addr) :
    (Builtin.append_ #[t, t] ty #[.slice (some b) 0 0, .slice none 0 0]).run Tryd.prog w = .ok (.slice (some b) 0 0) w := by
  simp [Builtin.append_, run_underlying ht, sizeOf, typeInfo, hi, Builtin.lenOf, run_firstCells_none, storeCells]
theorem wpList_copy {ops : Array Oper} {rest : List Oper} {o : Oper} {a : Act} {Q : Exit → Act → World → Prop} {w : World} (hgd : o.guard = none) (s x : Operand)
    (ho : o.op = .call { callee := .builtin .append, args := #[s, x], argTypes := #[33, 33] }) (H : Nat) (hH : H ≤ w.heap.size) (hs : a.eval s = .slice (some ⟨H, 0, none⟩) 0 0)
    (hown : w.ownsRow H 25 1 (.slice (some ⟨H, 0, none⟩) 0 0) 0 []) (u : Value) (c : List (Option Tr)) (hx : a.eval x = u) (W : World) (huW : Up W w) (hu : Cxo W u c) (hl : c.length ≤ 1000000000)
    (h : ∀ v' w' vs, vs.length = c.length → (∀ (j : Nat) (t : Option Tr), c[j]? = some t → ∃ y, vs[j]? = some y ∧ HasT W y t) → w'.ownsRow H 25 1 v' c.length vs → w.grownBy w' (some H) → wpList Tryd.prog ops Q rest (a.put o.dst v') w') :
    wpList Tryd.prog ops Q (o :: rest) a w := by
  obtain ⟨i0, hi, hz0, hz1, hz2⟩ := info_parts infoPtr
  rcases hu with ⟨rfl, rfl⟩ | ⟨b, q, n, rfl, hn, hb, hcell⟩
  · refine wpList_plain hgd fun K hK => ?_
    have hr := ctail_nil w 33 o.type 25 i0 Tryd.underlying33 hi ⟨H, 0, none⟩
    unfold Oper.wp execOp
    simp only [ho, resolve, invoke, builtin, Sem.run_bind, Sem.run_pure, Result.andThen_ok, List.map_toArray, List.map_cons, List.map_nil, hs, hx, hr]
    exact hK _ _ (h _ w [] rfl (fun j t ht => by simp at ht) hown ⟨rfl, rfl, rfl, Nat.le_refl _, fun _ _ _ => rfl⟩)
  · obtain ⟨vs, hvs⟩ : ∃ vs : List Value, vs = (List.range c.length).map fun j => (w.cell? ⟨b, q + j, none⟩).getD (.pointer none) := ⟨_, rfl⟩
    have hvl : vs.length = c.length := by rw [hvs, List.length_map, List.length_range]
    have hvj : ∀ (j : Nat) (t : Option Tr), c[j]? = some t → ∃ y, vs[j]? = some y ∧ w.cell? ⟨b, q + j, none⟩ = some y ∧ HasT W y t := by
      intro j t ht
      obtain ⟨y, h1, h2⟩ := hcell j t ht
      have h1 := huW.cell h1
      have hj := (List.getElem?_eq_some_iff.1 ht).1
      refine ⟨y, ?_, h1, h2⟩
      rw [hvs, List.getElem?_map, List.getElem?_range hj]
      simp only [Option.map_some, h1, Option.getD_some]
    have hall : ∀ (j : Nat) (y : Value), vs[j]? = some y → w.cell? ⟨b, q + j, none⟩ = some y ∧ y.oneCell' = true := by
      intro j y hy
      have hj := (List.getElem?_eq_some_iff.1 hy).1
      obtain ⟨y', h1, h2, h3⟩ := hvj j _ (List.getElem?_eq_getElem (by omega : j < c.length))
      rw [hy] at h1
      injection h1 with h1
      subst h1
      refine ⟨h2, ?_⟩
      obtain ⟨oq, rfl⟩ := InO.one h3
      rfl
    refine wpList_append_own_at _ hgd s x 33 ho H 25 i0 (.pointer none) 1 8 Tryd.underlying33 hi hz0 hz1 hz2 rfl (by decide) _ 0 [] hs hown ⟨b, q, none⟩ c.length n vs hx (by rw [hvl, Nat.mul_one]) ?_ ?_ (by unfold maxLen; omega) (by omega) hH ?_
    · intro j y hy
      have e1 : (⟨b, q, none⟩ : Addr).add j = ⟨b, q + j, none⟩ := by unfold Addr.add; split <;> simp_all
      rw [e1]
      exact (hall j y hy).1
    · intro y hy
      obtain ⟨j, hj⟩ := List.getElem?_of_mem hy
      exact (hall j y hj).2
    · intro v' w' h1 h2 _ _
      exact h v' w' vs hvl (fun j t ht => by obtain ⟨y, g1, _, g3⟩ := hvj j t ht; exact ⟨y, g1, g3⟩) (by simpa using h1) h2
theorem cxo_own {w W : World} {H : Nat} {v y : Value} {vs : List Value} {c : List (Option Tr)} {t : Option Tr} (h : w.ownsRow H 25 1 v (c.length + 1) (vs ++ [y])) (hl : vs.length = c.length) (hv : ∀ (j : Nat) (t : Option Tr), c[j]? = some t → ∃ y, vs[j]? = some y ∧ HasT W y t) (hy : HasT W y t) (u : Up W w) : Cxo w v (c ++ [t]) := by
  rcases h.2 with ⟨_, h0⟩ | ⟨g, cap, cur, hv5, hg, hh, hc, _⟩
  · omega
  · refine .inr ⟨g, 0, cap, by rw [hv5, List.length_append]; rfl, by rw [List.length_append]; exact hc, heap_lt hh, fun j s hj => ?_⟩
    have hcell : ∀ (j : Nat) (x : Value), (vs ++ [y])[j]? = some x → w.cell? ⟨g, 0 + j, none⟩ = some x := by
      intro j x hx
      have h1 := h.cells (g := g) (by rw [hv5]; rfl) j x hx
      have e1 : (⟨g, 0, none⟩ : Addr).add j = ⟨g, 0 + j, none⟩ := by unfold Addr.add; split <;> simp_all
      rwa [e1] at h1
    by_cases hlt : j < c.length
    · rw [List.getElem?_append_left hlt] at hj
      obtain ⟨x, h1, h2⟩ := hv j s hj
      exact ⟨x, hcell j x (by rw [List.getElem?_append_left (by omega)]; exact h1), h2.up u⟩
    · rw [List.getElem?_append_right (by omega)] at hj
      have hj0 : j - c.length = 0 := by
        have := (List.getElem?_eq_some_iff.1 hj).1
        simp only [List.length_singleton] at this
        omega
      rw [hj0] at hj
      injection hj with hj
      subst hj
      exact ⟨y, hcell j y (by rw [List.getElem?_append_right (by omega), hl, hj0]; rfl), hy.up u⟩
set_option maxHeartbeats 12800000 in
set_option maxRecDepth 100000 in
theorem lawMore12 (w : World) (ct : CtT w) (kd : KdAll) (ck : CtK) (L : List (List Cel)) (lv : Value) (hln : Cln w w.heap.size lv L) (hlf : ∀ cs ∈ L, ∀ c ∈ cs, fitD c) (cs0 : List Cel) (cv0 : Value) (hcl0 : Cls w w.heap.size cv0 cs0) (hfit0 : ∀ c ∈ cs0, fitD c) (cs1 : List Cel) (cv1 : Value) (hcl1 : Cls w w.heap.size cv1 cs1) (hfit1 : ∀ c ∈ cs1, fitD c) :
    Calls Tryd.prog 4 #[lv, .agg #[cv0], .agg #[cv1]] w (BoP true w) := by
  obtain ⟨H, hH⟩ : ∃ H, w.heap.size = H := ⟨_, rfl⟩
  obtain ⟨CA0, cc0, hcv0, -, -⟩ := id hcl0
  obtain ⟨CA1, cc1, hcv1, -, -⟩ := id hcl1
  obtain ⟨A0, hA0⟩ : ∃ W0, w.alloc (.cells #[cv0] 24) = W0 := ⟨_, rfl⟩
  have a0 : Up w A0 := by rw [← hA0]; exact (Up.refl _).alloc _
  have hx0 : A0.heap[H]? = some (.cells #[cv0] 24 (0, 0)) := by rw [← hA0, ← hH]; exact heap_alloc_new w _
  have hs0 : A0.heap.size = H + 1 := by rw [← hA0, ← hH]; simp
  obtain ⟨A1, hA1⟩ : ∃ W0, A0.alloc (.cells #[cv1] 24) = W0 := ⟨_, rfl⟩
  have a1 : Up A0 A1 := by rw [← hA1]; exact (Up.refl _).alloc _
  have hx1 : A1.heap[H + 1]? = some (.cells #[cv1] 24 (0, 0)) := by rw [← hA1, ← hs0]; exact heap_alloc_new A0 _
  have hs1 : A1.heap.size = H + 1 + 1 := by rw [← hA1, World.size_alloc, hs0]
  have u0 : Up w A1 := a0.trans a1
  have k0 : A1.cell? ⟨H, 0, none⟩ = some cv0 := (a1.cell (cell_of_row _ (H) 0 _ _ _ hx0))
  have HSZ0 := Lib.hid (kept_sz cs0)
  have HCL0 := Lib.hid (hcl0.upp u0)
  have HF0 := Lib.hid hfit0
  have k1 : A1.cell? ⟨H + 1, 0, none⟩ = some cv1 := (cell_of_row _ (H + 1) 0 _ _ _ hx1)
  have HSZ1 := Lib.hid (kept_sz cs1)
  have HCL1 := Lib.hid (hcl1.upp u0)
  have HF1 := Lib.hid hfit1
  have HLN := Lib.hid (hln.upp u0)
  have HLF := Lib.hid hlf
  have HA0 := Lib.hid hA0
  have HA1 := Lib.hid hA1
  have U0 := Lib.hid u0
  have CT := Lib.hid ct
  have KD := Lib.hid kd
  have CK := Lib.hid ck
  clear u0 hcl0 hA0 hfit0 hx0 a0 hs0 hcl1 hA1 hfit1 hx1 a1 hs1 hln hlf ct kd ck
  obtain ⟨LA, ln, hlv, -, -⟩ := id HLN.out
  subst hlv
  subst hcv0 hcv1
  go_enter Tryd.func4, Tryd.ntmps4
  go_wp2_with fail
  rw [HA0.out, HA1.out]
  have C0 := Lib.hid (fun W (u : Up A1 W) => uFew10 cs0 HCL0.out HF0.out u)
  have C1 := Lib.hid (fun W (u : Up A1 W) => uFew10 cs1 HCL1.out HF1.out u)
  obtain ⟨V0, hV0⟩ : ∃ V, Value.slice CA0 cs0.length cc0 = V := ⟨_, rfl⟩
  rw [hV0] at C0 k0 ⊢
  obtain ⟨V1, hV1⟩ : ∃ V, Value.slice CA1 cs1.length cc1 = V := ⟨_, rfl⟩
  rw [hV1] at C1 k1 ⊢
  have CX := Lib.hid (fun W (u : Up A1 W) => ctxAny L (HLN.out.upp u) HLF.out)
  obtain ⟨LV, hLV⟩ : ∃ V, Value.slice LA L.length ln = V := ⟨_, rfl⟩
  rw [hLV] at CX ⊢
  clear HLN HLF hLV
  clear HCL0 HF0 hV0 HCL1 HF1 hV1
  go_region_held3 (fun w' => w'.cell? ⟨H, 0, none⟩ = some V0 ∧ w'.cell? ⟨H + 1, 0, none⟩ = some V1) (first | go_keep | (refine ⟨?_, ?_⟩ <;> assumption)) (first
    | (go_at_call 11; refine Calls.mono (CX.out _ (by first | assumption | exact Up.refl _ | exact (Up.refl _).drewN 1)) ?_; rintro e1 w1 ⟨v1, rfl, h1, u1⟩; have uu1 : Up A1 w1 := ((Up.refl A1).drewN 1).trans u1; have n1_0 := uu1.cell k0; have n1_1 := uu1.cell k1)
    | (go_at_call 7; (with_reducible show Calls _ _ #[Value.agg #[V0]] _ _); refine Calls.mono (C0.out _ uu1) ?_; rintro e2 w2 ⟨v2, rfl, h2, u2⟩; have uu2 : Up A1 w2 := uu1.trans u2; have n2_0 := uu2.cell k0; have n2_1 := uu2.cell k1)
    | (go_at_call 7; (with_reducible show Calls _ _ #[Value.agg #[V1]] _ _); refine Calls.mono (C1.out _ uu2) ?_; rintro e3 w3 ⟨v3, rfl, h3, u3⟩; have uu3 : Up A1 w3 := uu2.trans u3; have n3_0 := uu3.cell k0; have n3_1 := uu3.cell k1))
  have g1 := ((h1.up u2).up u3)
  have g2 := (h2.up u3)
  have g3 := h3
  obtain ⟨C, hC⟩ : ∃ C, ctxL L = C := ⟨_, rfl⟩
  have hcl : C.length ≤ 5 := by rw [← hC]; unfold ctxL; rw [List.length_map, List.length_take]; omega
  have hcz : ∀ t ∈ C, szO t ≤ 60 := by rw [← hC]; intro t ht; obtain ⟨cs, _, rfl⟩ := List.mem_map.1 ht; exact kept_sz cs
  rw [hC] at g1
  have HCL := Lib.hid hcl
  have HCZ := Lib.hid hcz
  have G1 := Lib.hid g1
  clear hcl hcz hC
  obtain ⟨o, ho⟩ : ∃ o, kept cs0 = o := ⟨_, rfl⟩
  have hz0 := HSZ0.out
  rw [ho] at g2 hz0
  have G2 := Lib.hid g2
  have HZ0 := Lib.hid hz0
  clear ho hz0
  obtain ⟨p, hp⟩ : ∃ o, kept cs1 = o := ⟨_, rfl⟩
  have hz1 := HSZ1.out
  rw [hp] at g3 hz1
  have G3 := Lib.hid g3
  have HZ1 := Lib.hid hz1
  clear hp hz1
  have U1 := Lib.hid (U0.out.trans uu3)
  rename_i hh
  clear hh
  clear h1 u1 uu1 g1 h2 u2 uu2 g2 h3 u3 uu3 g3
  try clear n1_0
  try clear n1_1
  try clear n2_0
  try clear n2_1
  try clear n3_0
  try clear n3_1
  clear k0 k1 HSZ0 HA0 C0 HSZ1 HA1 C1 CX U0
  have hcl := HCL.out
  have hcz := HCZ.out
  have hz0 := HZ0.out
  have hz1 := HZ1.out
  have cK := KD.out.kind w3 C o v1 v2 G1.out (by omega) (fun t ht => by have := hcz t ht; omega) G2.out (by omega) (ap_small hcz (by omega))
  have HKD := Lib.hid (fun W (u : Up w3 W) => CK.out.kind W p v3 (G3.out.up u) (by omega))
  have HFR := Lib.hid (fun W (u : Up w3 W) => CK.out.free W o v2 (G2.out.up u) (by omega))
  have HK2 := Lib.hid (fun W (u : Up w3 W) cw (h : Cxo W cw (C ++ [p])) => KD.out.kind W (C ++ [p]) o cw v2 h (by rw [List.length_append, List.length_singleton]; omega) (fun t ht => by
    rcases List.mem_append.1 ht with ht | ht
    · have := hcz t ht; omega
    · rw [List.mem_singleton.1 ht]; omega) (G2.out.up u) (by omega) (ap_small (fun t ht => by
    rcases List.mem_append.1 ht with ht | ht
    · exact hcz t ht
    · rw [List.mem_singleton.1 ht]; exact hz1) (by omega)))
  have hks := kn_small hcz hz0
  clear hcz hz0 hz1 hcl
  rcases kn_form C o with ⟨k, hk⟩ | ⟨e9, he9, hk⟩
  · rw [hk] at cK hks
    have HKS := Lib.hid (show szO (some k) ≤ 65536 from Nat.le_trans hks (by decide))
    have HFREE := Lib.hid (kn_free hk)
    clear hks
    by_cases hp0 : kkE p = 0
    · have HM := Lib.hid (kn_more hk hp0)
      have HP0 := Lib.hid hp0
      clear hk hp0
      go_wp2_with fail
      refine (cK).mono ?_
      rintro e w4 ⟨v4, rfl, h4, u4⟩
      have h4 : HasT w4 v4 (some k) := h4
      have H4 := Lib.hid h4
      have U4 := Lib.hid u4
      have c2 := HKD.out w4 u4
      rw [HP0.out] at c2
      clear h4 u4 cK
      go_wp2_with fail
      refine (c2).mono ?_
      rintro e w5 ⟨rfl, u5⟩
      have U5 := Lib.hid (U4.out.trans u5)
      have H5 := Lib.hid (H4.out.up u5)
      clear u5 c2
      have HC5 := Lib.hid (G1.out.up U5.out)
      have HP5 := Lib.hid (G3.out.up U5.out)
      obtain ⟨oq, rfl⟩ := InO.one HP5.out
      obtain ⟨CA, cn, rfl⟩ := HC5.out.form
      obtain ⟨NC, hNC⟩ : ∃ N, C.length = N := ⟨_, rfl⟩
      have HNC := Lib.hid hNC
      have hncz : NC ≤ 5 := by rw [← hNC]; exact HCL.out
      have HOM := Lib.hid (own_made (w := w5) (Nat.le_refl _) 25)
      have HC6 := HC5.out
      rw [hNC] at HC6 ⊢
      have HC6 := Lib.hid HC6
      obtain ⟨i0, hi, hy0, hy1, hy2⟩ := info_parts infoPtr
      clear hNC
      go_wp2_with (at_builtin; first
        | (refine wpList_copy rfl _ _ rfl w5.heap.size (by simp) rfl HOM.out _ C rfl w5 ((Up.refl w5).alloc _) HC6.out (by rw [HNC.out]; omega) ?_; intro v6 w6 vs hvl hvs hown6 hgrow6; have HVL := Lib.hid hvl; have HVS := Lib.hid hvs; have HOWN6 := Lib.hid hown6; have HU6 : Hid (Up w5 w6) := Lib.hid (((Below.refl w5.heap.size w5).alloc (Nat.le_refl _) _).grown hgrow6 (by simp) (fun k' hk' => by injection hk' with hk'; omega)); have hs6 := HU6.out.size; clear hvl hvs hown6 hgrow6)
        | (refine wpList_append_own_at _ rfl _ _ 33 rfl w5.heap.size 25 i0 (.pointer none) 1 8 Tryd.underlying33 hi hy0 hy1 hy2 rfl (by decide) v6 NC vs rfl ((by rw [← HNC.out]; exact HOWN6.out : w6.ownsRow w5.heap.size 25 1 v6 NC vs) |> fun h => own_below h (((Below.refl w6.heap.size w6).alloc (Nat.le_refl _) _))) ⟨w6.heap.size, 0, none⟩ 1 1 [.pointer oq] rfl rfl (cell_one_new _ _ _) (fun x hx => by simp at hx; subst hx; rfl) (by unfold maxLen; omega) (by omega) (by simp; omega) ?_; intro v7 w7 hown7 hgrow7 _ hat7; have HOWN7 := Lib.hid hown7; have HU7 : Hid (Up w5 w7) := Lib.hid ((HU6.out.alloc _ : Below w5.heap.size w5 _).grown hgrow7 (by simp; omega) (fun g hg => (HOWN6.out.lt g hg).1)); clear hown7 hgrow7 hat7))
      have hc7 : Cxo w7 v7 (C ++ [p]) := cxo_own (W := w5) (by rw [HNC.out]; exact HOWN7.out) HVL.out HVS.out HP5.out HU7.out
      have c3 := HK2.out w7 (U5.out.trans HU7.out) v7 hc7
      rw [HM.out] at c3
      refine c3.mono ?_
      rintro e w8 ⟨v8, rfl, h8, u8⟩
      have h8 : HasT w8 v8 (some k) := h8
      have u58 : Up w5 w8 := HU7.out.trans u8
      have U8 := Lib.hid (U5.out.trans u58)
      have c4 := uSame (some k) (some k) (H5.out.up u58) h8 HKS.out true ⟨fun _ => rfl, fun _ => rfl⟩ (Up.refl w8)
      clear u8 h8 u58 c3 hc7
      go_wp2_with fail
      refine (c4).mono ?_
      rintro e w9 ⟨rfl, u9⟩
      have U9 := Lib.hid (U8.out.trans u9)
      have c5 := HFR.out w9 U9.out
      have hfr : frR o ≤ (NC : Int) := by rw [← HNC.out]; exact HFREE.out
      clear u9 c4
      go_wp2_with fail
      refine (c5).mono ?_
      rintro e w10 ⟨rfl, u10⟩
      have U10 := Lib.hid (U1.out.trans (U9.out.trans u10))
      clear u10 c5
      go_wp2_with fail
      refine (works12 CT.out KD.out U10.out).mono ?_
      rintro e w99 ⟨rfl, u99⟩
      go_wp2_with fail
      go_ret
      exact bopU rfl u99
    · have h9 : (kkE p != 0) = true := by rw [bne_iff_ne]; exact hp0
      clear hk
      go_wp2_with fail
      refine (cK).mono ?_
      rintro e w4 ⟨v4, rfl, -, u4⟩
      have U4 := Lib.hid u4
      clear u4 cK
      go_wp2_with fail
      refine (HKD.out w4 U4.out).mono ?_
      rintro e w5 ⟨rfl, u5⟩
      have U5 := Lib.hid (U1.out.trans (U4.out.trans u5))
      clear u5
      go_wp2_with fail
      refine (works12 CT.out KD.out U5.out).mono ?_
      rintro e w99 ⟨rfl, u99⟩
      go_wp2_with fail
      go_ret
      exact bopU rfl u99
  · rw [hk] at cK
    have h9 : (e9 != 0) = true := by rw [bne_iff_ne]; exact he9
    clear hk hks
    go_wp2_with fail
    refine (cK).mono ?_
    rintro e w4 ⟨v4, rfl, -, u4⟩
    have U4 := Lib.hid (U1.out.trans u4)
    clear u4 cK
    go_wp2_with fail
    refine (works12 CT.out KD.out U4.out).mono ?_
    rintro e w99 ⟨rfl, u99⟩
    go_wp2_with fail
    go_ret
    exact bopU rfl u99
end Go.Proofs.YtmiicfdigkkbdaaDoor
