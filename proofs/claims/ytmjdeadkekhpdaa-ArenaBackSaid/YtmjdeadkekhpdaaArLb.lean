/-
  The law ArenaBack.
-/
import Derived.Test.YtmjdeadkekhpdaaArLt
import Derived.Deep.RegionHeld3
namespace Go.Proofs.Ytmjdeadkekhpdaa
open Go.RowKit

theorem ptr_nn (w : World) : (binOp .eql 26 (.pointer none) (.pointer none)).run Try.prog w = .ok (.bool true) w := by
  have h : ∀ d : Nat, (Op.equalIn (d + 1) 26 (.pointer none) (.pointer none)).run Try.prog w = .ok true w := fun d => by simp [Op.equalIn, run_underlying Try.underlying26]
  simp only [binOp]
  simp [Op.equal, Op.maxDepth, h 9999]
/-- What is packed is opened as it was. -/
theorem op_pack (t : Tr) (h : szT t ≤ 8192) : opR (celT t 0) = (some t, 0) := by
  obtain ⟨h1, h2, h3⟩ := pack_open t
  have hl := celT_len t 0
  have hp : 1 ≤ szT t := by unfold szT; omega
  rw [op_good (by omega) (by omega) ⟨h1, h2⟩, h3]
set_option maxHeartbeats 12800000 in
set_option maxRecDepth 100000 in
theorem lawBack (cs : List Cel) (w : World) (cv : Value) (hcl : Cls w w.heap.size cv cs) (hfit : ∀ c ∈ cs, fitC c) :
    Calls Try.prog 6 #[.agg #[cv]] w (SbPost true w) := by
  obtain ⟨H, hH⟩ : ∃ H, w.heap.size = H := ⟨_, rfl⟩
  obtain ⟨CA, cc, hcv, -, -⟩ := id hcl
  have u0 : Up w (w.alloc (.cells #[cv] 24)) := (Up.refl w).alloc _
  obtain ⟨W0, hW0⟩ : ∃ W0, w.alloc (.cells #[cv] 24) = W0 := ⟨_, rfl⟩
  have hx0 : W0.heap[H]? = some (.cells #[cv] 24 (0, 0)) := by rw [← hW0, ← hH]; exact heap_alloc_new w _
  rw [hW0] at u0
  have hcl0 := hcl.upp u0
  have kc : W0.cell? ⟨H, 0, none⟩ = some cv := cell_of_row _ H 0 _ _ _ hx0
  have hHw : w.heap.size ≤ H := by omega
  obtain ⟨o, z, ho, hs, h2⟩ := op_few cs
  have HW0 := Lib.hid hW0
  have HH := Lib.hid hHw
  have HX0 := Lib.hid hx0
  have U0 := Lib.hid u0
  have HCL := Lib.hid hcl0
  have HF := Lib.hid hfit
  have HO := Lib.hid ho
  have HS := Lib.hid hs
  have H2 := Lib.hid h2
  clear hcl u0 hW0 hcl0 hfit ho hs h2 hx0 hHw
  subst hcv
  go_enter Try.func6, Try.ntmps6
  go_wp2_with fail
  rw [HW0.out]
  refine (uFew cs HCL.out HF.out (Up.refl _)).mono ?_
  rintro e w1 ⟨v1, rfl, h1, u1⟩
  obtain ⟨A1, C1, rfl, -⟩ := id h1
  have hx1 := u1.row HX0.out
  have k1 : w1.cell? ⟨H, 0, none⟩ = some (.slice CA cs.length cc) := cell_of_row w1 H 0 _ _ _ hx1
  have f1 := frozen_of_row w1 H 0 _ _ hx1
  have HC2 := Lib.hid (cls_box h1 hx1 (.slice A1 (fewL cs).length C1))
  have U2 := Lib.hid (Below.setCell (U0.out.trans u1) (p := ⟨H, 0, none⟩) HH.out (.slice A1 (fewL cs).length C1))
  have k2 : (w1.setCell ⟨H, 0, none⟩ (.slice A1 (fewL cs).length C1)).cell? ⟨H, 0, none⟩ = some (.slice A1 (fewL cs).length C1) := cell_same k1
  clear h1 u1 hx1 kc
  obtain ⟨w2, hw2⟩ : ∃ w2, w1.setCell ⟨H, 0, none⟩ (.slice A1 (fewL cs).length C1) = w2 := ⟨_, rfl⟩
  rw [hw2] at HC2 U2 k2
  have HW2 := Lib.hid hw2
  clear hw2
  rcases H2.out with ⟨t, rfl, rfl, -, hsz⟩ | ⟨rfl, hz⟩
  · have HZ := Lib.hid hsz
    have e1 : (((celT t 0).length : Int) == ((fewL cs).length : Int)) = true := by rw [celT_len, hsz]; simp
    have e2 : (((szO (some t) : Nat) : Int) == ((fewL cs).length : Int)) = true := by show (((szT t : Nat) : Int) == _) = true; rw [hsz]; simp
    clear hsz
    go_wp2_with (go_at_call 10; rw [HW2.out]; refine (uOpen (fewL cs) HC2.out (few_kids cs) (few_le cs) (Up.refl _)).mono ?_; rw [HO.out]; rintro e w3 ⟨n, rfl, h3, u3⟩; have k3 := u3.cell k2; have N3 := Lib.hid h3; have U3 := Lib.hid (Up.trans U2.out u3); clear h3 u3)
    refine (uPack t N3.out (by have h : szT t ≤ 60 := HS.out; omega) (Up.refl _)).mono ?_
    rintro e w4 ⟨u, rfl, h4, u4⟩
    obtain ⟨A4, C4, rfl, -⟩ := id h4
    have u5 : Up w4 (w4.alloc (.cells #[.slice A4 (celT t 0).length C4] 24)) := (Up.refl w4).alloc _
    have q5 : (w4.alloc (.cells #[.slice A4 (celT t 0).length C4] 24)).cell? ⟨w4.heap.size, 0, none⟩ = some (.slice A4 (celT t 0).length C4) := cell_of_row _ w4.heap.size 0 _ _ _ (heap_alloc_new w4 _)
    have k5 := (u4.trans u5).cell k3
    have N5 := Lib.hid (N3.out.up (u4.trans u5))
    have C5 := Lib.hid (h4.upp u5)
    have U5 := Lib.hid (Up.trans U3.out (u4.trans u5))
    obtain ⟨w5, hw5⟩ : ∃ w5, w4.alloc (.cells #[.slice A4 (celT t 0).length C4] 24) = w5 := ⟨_, rfl⟩
    rw [hw5] at q5 k5 N5 C5 U5
    have HW5 := Lib.hid hw5
    clear h4 u4 u5 hw5 k3 k2
    go_wp2_with (go_at_call 10; rw [HW5.out]; refine (uOpen (celT t 0) C5.out (fun j c hj => by have h1 := celT_ks t c (List.mem_of_getElem? hj); have h : szT t ≤ 60 := HS.out; omega) (by rw [celT_len]; have h : szT t ≤ 60 := HS.out; omega) (Up.refl _)).mono ?_; rw [op_pack t (by have h : szT t ≤ 60 := HS.out; omega)]; rintro e w6 ⟨m, rfl, h6, u6⟩; have k6 := u6.cell k5; have q6 := u6.cell q5; have M6 := Lib.hid h6; have N6 := Lib.hid (N5.out.up u6); have U6 := Lib.hid (Up.trans U5.out u6); clear h6 u6 k5 q5)
    go_region_held3 (fun w' => Up w6 w' ∧ w'.cell? ⟨H, 0, none⟩ = some (.slice A1 (fewL cs).length C1) ∧ w'.cell? ⟨w4.heap.size, 0, none⟩ = some (.slice A4 (celT t 0).length C4))
      (first
        | exact ⟨Up.drew1 _, (Up.drew1 _).cell k6, (Up.drew1 _).cell q6⟩
        | (have hup : Up w6 _ := (by assumption); exact ⟨hup, hup.cell k6, hup.cell q6⟩))
      (first
        | (go_at_call 17; refine (uSame (some t) (some t) N6.out M6.out (by have := HS.out; omega) true (by simp) (by go_split_ands; assumption)).mono ?_; rintro e w7 ⟨rfl, u7⟩)
        | (go_at_call 18; refine (uSize (some t) N6.out (by have := HS.out; omega) (by go_split_ands; assumption)).mono ?_; rintro e w7 ⟨rfl, u7⟩)
        | (go_at_call 13; refine (uWorks (W := w6) (by go_split_ands; assumption)).mono ?_; rintro e w7 ⟨rfl, u7⟩))
    go_wp2_with fail
    go_ret
    exact ⟨rfl, Up.trans U6.out u7⟩
  · have hz1 : (z != 0) = true := by rw [bne_iff_ne]; exact hz
    have nn := fun w => ptr_nn w
    clear hz
    go_wp2_with fail
    rw [HW2.out]
    refine (uOpen (fewL cs) HC2.out (few_kids cs) (few_le cs) (Up.refl _)).mono ?_
    rw [HO.out]
    rintro e w3 ⟨n, rfl, h3, u3⟩
    obtain rfl : n = .pointer none := h3
    have U3 := Lib.hid (Up.trans U2.out u3)
    clear u3
    go_wp2_with fail
    refine (uWorks (Up.refl _)).mono ?_
    rintro e w4 ⟨rfl, u4⟩
    go_wp2_with fail
    go_ret
    exact ⟨rfl, Up.trans U3.out u4⟩
end Go.Proofs.Ytmjdeadkekhpdaa
