/-
  The document's Pack of a tree: what it tells.
-/
import Derived.Test.YtoejegndbcbkmaaRtK
namespace Go.Proofs.Ytoejegndbcbkmaa
open Go.RowKit

set_option maxHeartbeats 1600000 in
set_option maxRecDepth 100000 in
theorem refPack (t : Tr) (hsz : szT t ≤ 8192) (w : World) (Sq : Nat → Prop) (v : Value) (hS : Bel Sq w.heap.size) (hin : InT w Sq v t) :
    Calls Try.prog 26 #[v] w (PkPost (celT t 0) 0 w) := by
  have hb := (Below.refl w.heap.size w).alloc (Nat.le_refl _) (.cells #[.slice none 0 0] 24)
  have hs : (w.alloc (.cells #[.slice none 0 0] 24)).heap.size = w.heap.size + 1 := by simp
  have hin1 := hin.below hS hb
  have c1 := refHole (szT t) t (Nat.le_refl _) (by omega) _ Sq v hin1
  have c2 := refSize (szT t) t (Nat.le_refl _) (by omega) _ Sq v hin1
  have c3 := refCells (szT t) t (Nat.le_refl _) (by omega) 0 (by omega) _ Sq v (fun q h => by have := hS q h; omega) hin1
  obtain ⟨Z, hZ⟩ : ∃ Z, szT t = Z := ⟨_, rfl⟩
  obtain ⟨C, hC⟩ : ∃ C, celT t 0 = C := ⟨_, rfl⟩
  rw [hZ] at c2 hsz
  rw [hC] at c3 ⊢
  have hz : ¬ (8192 : Int) < (Z : Int) := by omega
  obtain ⟨H, hH⟩ : ∃ H, w.heap.size = H := ⟨_, rfl⟩
  have hbx : (w.alloc (.cells #[.slice none 0 0] 24)).heap[H]? = some (.cells #[.slice none 0 0] 24 (0, 0)) := by rw [← hH]; exact heap_alloc_new w _
  have HH := Lib.hid hH
  have HS := Lib.hid hs
  have HB := Lib.hid hb
  have HBX := Lib.hid hbx
  clear hin hin1 hS hZ hC hb hbx hs hH
  go_enter Try.func26, Try.ntmps26
  go_wp2_with fail
  refine c1.mono ?_
  rintro e w1 ⟨rfl, rfl⟩
  go_wp2_with fail
  refine c2.mono ?_
  rintro e w1 ⟨rfl, rfl⟩
  go_wp2_with fail
  refine c3.mono ?_
  rintro e w1 ⟨v1, rfl, hv1, hb1⟩
  rw [HS.out] at hb1 hv1
  have hbx1 := (hb1.block H (by have := HH.out; omega)).trans HBX.out
  have k0 := cell_of_row w1 H 0 _ _ _ hbx1
  have k0 : w1.cell? ⟨H, 0, none⟩ = some (.slice none 0 0) := k0
  have f0 := frozen_of_row w1 H 0 _ _ hbx1
  have hs1 := hb1.size
  rw [HS.out] at hs1
  have hHw := heap_lt hbx1
  obtain ⟨vs, ho, hf⟩ := hv1
  obtain ⟨A1, C1, rfl⟩ := own_slice5 ho
  have HO := Lib.hid ho
  have HF := Lib.hid hf
  have HB1 := Lib.hid hb1
  clear ho hf hb1 hbx1 c1 c2 c3
  rw [HH.out]
  go_wp2_with fail
  have hbelF : Below H w (w1.setCell ⟨H, 0, none⟩ (.slice A1 C.length C1)) := (by
    have h1 : Below H w w1 := (HH.out ▸ HB.out).trans (HB1.out.mono (by have := HH.out; omega))
    exact h1.setCell (Nat.le_refl _) _)
  have hcls : Cls (w1.setCell ⟨H, 0, none⟩ (.slice A1 C.length C1)) (w1.setCell ⟨H, 0, none⟩ (.slice A1 C.length C1)).heap.size (.slice A1 C.length C1) C := by
    refine OwnC.cls (H := H + 1) ⟨vs, own_setCell (HO.out.mono (by have := HH.out; omega)) _ _ (fun g hg => by have := (HO.out.lt g hg).1; have := HH.out; simp only; omega), HF.out.keep (fun q h => ⟨by have := h.1; have := HH.out; omega, by simpa [World.setCell] using h.2.1, h.2.2⟩) fun b h => Below.heap_setCell _ _ _ _ (by have := h.1; have := HH.out; simp only; omega)⟩
  exact bodyPost_ret (v := .tuple #[.agg #[.slice A1 C.length C1], .int .i64 0]) (by simp [results, Try.results26, go_sem, k0]) rfl ⟨_, rfl, hcls, by rw [HH.out]; exact hbelF⟩
end Go.Proofs.Ytoejegndbcbkmaa
