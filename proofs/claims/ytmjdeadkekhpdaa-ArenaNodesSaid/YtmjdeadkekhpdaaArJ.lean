/-
  The program's Pack: what it tells of a tree.
-/
import Derived.Test.YtmjdeadkekhpdaaArL
import Derived.Laws.EntriesVeiled
namespace Go.Proofs.Ytmjdeadkekhpdaa
open Go.RowKit

/-! ### Pack -/
set_option maxHeartbeats 3200000 in
set_option maxRecDepth 100000 in
theorem arPack (t : Tr) (hsz : szT t ≤ 8192) (w : World) (Sq : Nat → Prop) (v : Value) (hS : Bel Sq w.heap.size) (hin : InT w Sq v t) :
    Calls Try.prog 14 #[v] w (PkPost (celT t 0) 0 w) := by
  have hb := (Below.refl w.heap.size w).alloc (Nat.le_refl _) (.cells #[.slice none 0 0] 24)
  have hs : (w.alloc (.cells #[.slice none 0 0] 24)).heap.size = w.heap.size + 1 := by simp
  have cM := measured_any (some t) (w.alloc (.cells #[.slice none 0 0] 24)) Sq v (fun q h => by have := hS q h; omega) (hin.below hS hb) (by have : szO (some t) = szT t := rfl; omega)
  have hZ0 : szO (some t) = szT t := rfl
  rw [hZ0, Option.isNone_some] at cM
  obtain ⟨Z, hZ⟩ : ∃ Z, szT t = Z := ⟨_, rfl⟩
  obtain ⟨D, hD⟩ : ∃ D, dpO (some t) = D := ⟨_, rfl⟩
  rw [hZ] at cM hsz
  rw [hD] at cM
  have hz : ¬ (8192 : Int) < (Z : Int) := by omega
  have hbx : (w.alloc (.cells #[.slice none 0 0] 24)).heap[w.heap.size]? = some (.cells #[.slice none 0 0] 24 (0, 0)) := heap_alloc_new w _
  have HS := Lib.hid hs
  have HB := Lib.hid hb
  have HBX := Lib.hid hbx
  have HIN := Lib.hid hin
  have HBEL := Lib.hid hS
  have HZ := Lib.hid hZ
  obtain ⟨i0, hi, hz0, hz1, hz2⟩ := info_parts infoCel
  clear hin hS hZ hD hb hbx hs hZ0
  go_enter Try.func14, Try.ntmps14
  go_wp2_with fail
  refine cM.mono ?_
  rintro e w1 ⟨rfl, hb1⟩
  rw [HS.out] at hb1
  obtain ⟨H, hH⟩ : ∃ H, w.heap.size = H := ⟨_, rfl⟩
  rw [hH] at hb1
  obtain ⟨M, hM⟩ : ∃ M, w1.heap.size = M := ⟨_, rfl⟩
  have hs1 := hb1.size
  have hsw : (w.alloc (.cells #[.slice none 0 0] 24)).heap.size = H + 1 := by rw [HS.out, hH]
  rw [hsw, hM] at hs1
  have hbx1 : w1.heap[H]? = some (.cells #[.slice none 0 0] 24 (0, 0)) := by rw [← hH]; exact (hb1.block w.heap.size (by omega)).trans HBX.out
  obtain ⟨W2, hW2⟩ : ∃ W2, W2 = w1.alloc (.cells #[.int .i64 (Z : Int), .int .i64 (D : Int), .bool false] 62) := ⟨_, rfl⟩
  have hb2 : Below M w1 W2 := by rw [hW2]; exact (Below.refl M w1).alloc (by omega) _
  have hs2 : W2.heap.size = M + 1 := by rw [hW2]; simp; omega
  have hm2 : W2.heap[M]? = some (.cells #[.int .i64 (Z : Int), .int .i64 (D : Int), .bool false] 62 (0, 0)) := by rw [hW2, ← hM]; exact heap_alloc_new w1 _
  obtain ⟨wm, hrun, hown, hgr⟩ := run_make_own (P := Try.prog) W2 (M + 1) 22 58 i0 _ 5 Try.underlying22 hi hz0 hz1 .i64 .i64 Z (by rw [hz2]; omega) (by unfold maxLen; omega) (by omega)
  have m0 : W2.cell? ⟨M, 0, none⟩ = some (.int .i64 (Z : Int)) := cell_of_row W2 M 0 _ _ _ hm2
  have m2 : W2.cell? ⟨M, 2, none⟩ = some (.bool false) := cell_of_row W2 M 2 _ _ _ hm2
  have hMW : M < W2.heap.size := by omega
  have hbm : Below (M + 1) W2 wm := ⟨hgr.os, hgr.tape, hgr.output, hgr.size, fun k hk => hgr.block k (by omega) (by simp)⟩
  rw [hs2] at hrun hown
  have hsm := hbm.size
  have HB1 := Lib.hid hb1
  have HB2 := Lib.hid hb2
  have HBM := Lib.hid hbm
  have HOWN := Lib.hid hown
  have HH := Lib.hid hH
  have HM := Lib.hid hM
  have HW2 := Lib.hid hW2
  have HS2 := Lib.hid hs2
  have HBX1 := Lib.hid hbx1
  have HSW := Lib.hid hsw
  clear hb1 hb2 hbm hown hgr hH hM hm2 hbx1 hsw hs2 cM
  rw [HH.out]
  have hrun2 : (Instr.makeSlice 22 (.int .i64 0) (.int .i64 (Z : Int))).run Try.prog (w1.alloc (.cells #[.int .i64 (Z : Int), .int .i64 (D : Int), .bool false] 62)) = .ok (.slice (some ⟨M + 1, 0, none⟩) 0 Z) wm := by rw [← HW2.out]; exact hrun
  clear hrun
  go_wp2_with fail
  obtain ⟨C, hC⟩ : ∃ C, wm.heap.size = C := ⟨_, rfl⟩
  rw [hC]
  obtain ⟨W5, hW5⟩ : ∃ W5, W5 = (wm.alloc (.cells #[.slice (some ⟨M + 1, 0, none⟩) 0 Z] 22)).alloc (.cells #[.func (.func 34) #[] #[.pointer (some ⟨C + 1, 0, none⟩), .pointer (some ⟨C, 0, none⟩)]] 40) := ⟨_, rfl⟩
  rw [← hW5]
  have s1 : (wm.alloc (.cells #[.slice (some ⟨M + 1, 0, none⟩) 0 Z] 22)).heap.size = C + 1 := by simp; omega
  have k1 : W5.heap[C]? = some (.cells #[.slice (some ⟨M + 1, 0, none⟩) 0 Z] 22 (0, 0)) := by
    rw [hW5, Below.heap_alloc _ _ _ (by omega), ← hC]
    exact heap_alloc_new wm _
  have k2 : W5.heap[C + 1]? = some (.cells #[.func (.func 34) #[] #[.pointer (some ⟨C + 1, 0, none⟩), .pointer (some ⟨C, 0, none⟩)]] 40 (0, 0)) := by
    rw [hW5, ← s1]
    exact heap_alloc_new _ _
  have hb5 : Below C wm W5 := by rw [hW5]; exact ((Below.refl C wm).alloc (by omega) _).alloc (by omega) _
  have s5 : W5.heap.size = C + 2 := by rw [hW5]; simp; omega
  have hMC : M + 1 ≤ C := by have := HS2.out; omega
  have hrow : W5.ownsRow (M + 1) 58 5 (.slice (some ⟨M + 1, 0, none⟩) 0 Z) 0 [] := own_below HOWN.out (by rw [hC]; exact hb5)
  have hM1C : M + 1 < C := by
    have := (HOWN.out.lt (M + 1) rfl).2
    omega
  have hbw5 : Below H w W5 := ((((HH.out ▸ HB.out : Below H w _).trans (HB1.out.mono (by omega))).trans (HB2.out.mono (by omega))).trans (HBM.out.mono (by omega))).trans (hb5.mono (by omega))
  have hst : PkSt W5 (C + 1) C (M + 1) (fun q => q = C + 1 ∨ q = C) (.slice (some ⟨M + 1, 0, none⟩) 0 Z) [] := ⟨k2, k1, ⟨by simp [Value.ownBlock]; omega, by simp [Value.ownBlock]; omega⟩, [], hrow, trivial⟩
  have hbx5 : W5.heap[H]? = some (.cells #[.slice none 0 0] 24 (0, 0)) := by
    rw [hb5.block H (by omega), HBM.out.block H (by omega), HB2.out.block H (by omega)]
    exact HBX1.out
  have hZ0 : szO (some t) = szT t := rfl
  have cL := lay_all 100000 (Nat.le_refl _) t (by have := HZ.out; omega) W5 Sq v (C + 1) C (M + 1) (fun q => q = C + 1 ∨ q = C) (.slice (some ⟨M + 1, 0, none⟩) 0 Z) [] ⟨by omega, by omega, by omega⟩ (by omega) (by rintro q (rfl | rfl) <;> omega) (.inr rfl) (fun q hq => by have := HBEL.out q hq; have := HH.out; exact ⟨by omega, by omega⟩) (HIN.out.below HBEL.out (by rw [HH.out]; exact hbw5)) hst (by have := HZ.out; simp; omega)
  have HBW5 := Lib.hid hbw5
  have HBX5 := Lib.hid hbx5
  have HS5 := Lib.hid s5
  clear hrun2 m0 m2 hW5 s1 k1 k2 hb5 s5 hrow hbw5 hst hbx5 hZ0 hC
  refine cL.mono ?_
  rintro e w6 ⟨rfl, vo6, ⟨g1, g2, g3, vs, ho, hf⟩, he⟩
  obtain ⟨e1, e2, e3, e4, e5, e6⟩ := he
  rw [List.nil_append] at ho hf
  have e4' := e4
  rw [HS5.out] at e4'
  have hbx6 : w6.heap[H]? = some (.cells #[.slice none 0 0] 24 (0, 0)) := by
    rw [e5 H (by have := HS5.out; omega) (by omega) (by simp [Value.ownBlock]; omega)]
    exact HBX5.out
  obtain ⟨A6, C6, rfl⟩ := own_slice5 ho
  have q0 : w6.cell? ⟨C, 0, none⟩ = some (.slice A6 (celT t ([] : List Cel).length).length C6) := cell_of_row w6 C 0 _ _ _ g2
  have r0 : w6.cell? ⟨H, 0, none⟩ = some (.slice none 0 0) := cell_of_row w6 H 0 _ _ _ hbx6
  have rf0 := frozen_of_row w6 H 0 _ _ hbx6
  have hHw := heap_lt hbx6
  have hCw := heap_lt g2
  have hbel6 : Below H w w6 := ⟨e1.trans HBW5.out.os, e2.trans HBW5.out.tape, e3.trans HBW5.out.output, Nat.le_trans HBW5.out.size e4, fun k hk => (e5 k (by have := HS5.out; omega) (by omega) (by simp [Value.ownBlock]; omega)).trans (HBW5.out.block k hk)⟩
  have hnH : (Value.slice A6 (celT t ([] : List Cel).length).length C6).ownBlock ≠ some H := by
    rcases e6 with h | h
    · rw [h]; simp [Value.ownBlock]; omega
    · intro e; have := h H e; have := HS5.out; omega
  have HO := Lib.hid ho
  have HF := Lib.hid hf
  have HBEL6 := Lib.hid hbel6
  have HNH := Lib.hid hnH
  obtain ⟨L, hL⟩ : ∃ L, (celT t ([] : List Cel).length).length = L := ⟨_, rfl⟩
  rw [hL] at q0
  have HL := Lib.hid hL
  clear ho hf hbel6 hnH g1 g2 g3 e1 e2 e3 e5 e6 hbx6 hL cL
  go_wp2_with fail
  have hcls : Cls (w6.setCell ⟨H, 0, none⟩ (.slice A6 L C6)) (w6.setCell ⟨H, 0, none⟩ (.slice A6 L C6)).heap.size (.slice A6 L C6) (celT t 0) := by
    rw [← HL.out]
    refine OwnC.cls (H := M + 1) ⟨vs, own_setCell HO.out _ _ (fun g hg => fun e => HNH.out (by rw [hg, e])), HF.out.keep (fun q h => ⟨h.1, by simpa [World.setCell] using h.2.1, h.2.2.1⟩) fun b h => Below.heap_setCell _ _ _ _ (by have := h.1; simp only; omega)⟩
  exact bodyPost_ret (v := .tuple #[.agg #[.slice A6 L C6], .int .i64 0]) (by simp [results, Try.results14, go_sem, r0]) rfl ⟨_, rfl, hcls, by rw [HH.out]; exact HBEL6.out.setCell (Nat.le_refl _) _⟩
end Go.Proofs.Ytmjdeadkekhpdaa
