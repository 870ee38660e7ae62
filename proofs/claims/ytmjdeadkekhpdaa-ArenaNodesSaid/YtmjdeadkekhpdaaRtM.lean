/-
  The document's SameCells of the same cells: what it tells.
-/
import Derived.Test.YtmjdeadkekhpdaaRtL
import Derived.Test.YtmjdeadkekhpdaaRtH
namespace Go.Proofs.Ytmjdeadkekhpdaa
open Go.RowKit

/-! ### SameCells -/
theorem CelAt.open {w : World} {B b o : Nat} {c : Cel} (h : CelAt w B b o c) : ∃ KA kc, w.cell? ⟨b, o, none⟩ = some (.int .i64 c.x.k) ∧ w.cell? ⟨b, o + 1, none⟩ = some (.int .i64 c.x.n) ∧ w.cell? ⟨b, o + 2, none⟩ = some (.string c.x.a) ∧ w.cell? ⟨b, o + 3, none⟩ = some (.string c.x.m) ∧ w.cell? ⟨b, o + 4, none⟩ = some (.slice KA c.ks.length kc) ∧ Sp w B (.slice KA c.ks.length kc) c.ks := by
  obtain ⟨h0, h1, h2, h3, kv, h4, KA, kc, rfl, h5⟩ := h
  exact ⟨KA, kc, h0, h1, h2, h3, h4, KA, kc, rfl, h5⟩
set_option maxHeartbeats 6400000 in
set_option maxRecDepth 100000 in
theorem sameCells_self (cs : List Cel) (w : World) (C C' : Nat) (v v' : Value) (h : Cls w C v cs) (h' : Cls w C' v' cs) (hC : C ≤ w.heap.size) (hC' : C' ≤ w.heap.size) (hl : cs.length ≤ 1000000) (hz : ∀ c ∈ cs, c.ks.length ≤ 1000000) :
    Calls Try.prog 16 #[.agg #[v], .agg #[v']] w (fun e w' => e = .returned (.bool true) ∧ Below w.heap.size w w') := by
  have HCL := Lib.hid h
  have HCL' := Lib.hid h'
  obtain ⟨A, c, rfl, _, hA⟩ := h
  obtain ⟨A', c', rfl, _, hA'⟩ := h'
  have H1 := Lib.hid hA
  have H2 := Lib.hid hA'
  have HZ := Lib.hid hz
  obtain ⟨N, hN⟩ : ∃ N, cs.length = N := ⟨_, rfl⟩
  rw [hN] at hl ⊢
  have HN := Lib.hid hN
  obtain ⟨H, hH⟩ : ∃ H, w.heap.size = H := ⟨_, rfl⟩
  have s1 : (w.alloc (.cells #[.slice A N c] 24)).heap.size = H + 1 := by simp; omega
  have hx1 : ((w.alloc (.cells #[.slice A N c] 24)).alloc (.cells #[.slice A' N c'] 24)).heap[H]? = some (.cells #[.slice A N c] 24 (0, 0)) := by
    rw [Below.heap_alloc _ _ _ (by omega), ← hH]; exact heap_alloc_new w _
  have hx2 : ((w.alloc (.cells #[.slice A N c] 24)).alloc (.cells #[.slice A' N c'] 24)).heap[H + 1]? = some (.cells #[.slice A' N c'] 24 (0, 0)) := by
    rw [← s1]; exact heap_alloc_new _ _
  have hb : Below H w ((w.alloc (.cells #[.slice A N c] 24)).alloc (.cells #[.slice A' N c'] 24)) := ((Below.refl H w).alloc (by omega) _).alloc (by omega) _
  have HX1 := Lib.hid hx1
  have HX2 := Lib.hid hx2
  have HB := Lib.hid hb
  have HH := Lib.hid hH
  rw [hH] at hC hC'
  clear hA hA' hz hN hx1 hx2 hb s1 hH
  go_enter Try.func16, Try.ntmps16
  go_wp2_with fail
  rw [HH.out]
  go_loopw [5, 6, 7] (fun i _ _ wr => ∃ k : Nat, i = .int .i64 k ∧ k ≤ N ∧ wr.cell? ⟨H, 0, none⟩ = some (.slice A N c) ∧ wr.cell? ⟨H + 1, 0, none⟩ = some (.slice A' N c') ∧ H + 1 < wr.heap.size ∧ Below H w wr) (fun i _ _ _ => N - (intOf i).toNat)
  case atStart => exact ⟨0, rfl, Nat.zero_le _, cell_of_row _ H 0 _ _ _ HX1.out, cell_of_row _ (H + 1) 0 _ _ _ HX2.out, heap_lt HX2.out, HB.out⟩
  case round =>
    obtain ⟨k, rfl, hk, hx1, hx2, hHr, hbw⟩ := hrel
    have hbs := hbw.size
    rw [HH.out] at hbs
    by_cases hlt : k < N
    · obtain ⟨x, hx⟩ : ∃ x, cs[k]? = some x := ⟨_, List.getElem?_eq_getElem (by rw [HN.out]; exact hlt)⟩
      obtain ⟨b1, o1, hA1, hb1, hc1⟩ := H1.out k x hx
      obtain ⟨b2, o2, hA2, hb2, hc2⟩ := H2.out k x hx
      subst hA1 hA2
      obtain ⟨KA, kc, a0', a1', a2', a3', a4', hs1⟩ := hc1.open
      obtain ⟨KB, kd, b0', b1', b2', b3', b4', hs2⟩ := hc2.open
      have hl1 : b1 < H := by omega
      have hl2 : b2 < H := by omega
      have a0 := (hbw.cell (p := ⟨b1, o1 + k * 5, none⟩) hl1).trans a0'
      have a1 := (hbw.cell (p := ⟨b1, o1 + k * 5 + 1, none⟩) hl1).trans a1'
      have a2 := (hbw.cell (p := ⟨b1, o1 + k * 5 + 2, none⟩) hl1).trans a2'
      have a3 := (hbw.cell (p := ⟨b1, o1 + k * 5 + 3, none⟩) hl1).trans a3'
      have a4 := (hbw.cell (p := ⟨b1, o1 + k * 5 + 4, none⟩) hl1).trans a4'
      have b0 := (hbw.cell (p := ⟨b2, o2 + k * 5, none⟩) hl2).trans b0'
      have b1x := (hbw.cell (p := ⟨b2, o2 + k * 5 + 1, none⟩) hl2).trans b1'
      have b2x := (hbw.cell (p := ⟨b2, o2 + k * 5 + 2, none⟩) hl2).trans b2'
      have b3 := (hbw.cell (p := ⟨b2, o2 + k * 5 + 3, none⟩) hl2).trans b3'
      have b4 := (hbw.cell (p := ⟨b2, o2 + k * 5 + 4, none⟩) hl2).trans b4'
      have cS : ∀ W, Below wr.heap.size wr W → Calls Try.prog 30 #[.slice KA x.ks.length kc, .slice KB x.ks.length kd] W fun e w' => e = .returned (.bool true) ∧ Below wr.heap.size wr w' := fun W hW => by
        have hW2 : Below H w W := hbw.trans (hW.mono (by omega))
        refine (samePath_any x.ks x.ks W C C' _ _ (hs1.keep (Nat.le_refl _) fun p hp => hW2.cell (by omega)) (hs2.keep (Nat.le_refl _) fun p hp => hW2.cell (by omega)) (by have := HZ.out x (List.mem_of_getElem? hx); omega) true ⟨fun _ => rfl, fun _ => rfl⟩).mono ?_
        rintro e w' ⟨rfl, q, rfl⟩
        exact ⟨rfl, below_drewN' hW q⟩
      obtain ⟨M, hM⟩ : ∃ M, x.ks.length = M := ⟨_, rfl⟩
      rw [hM] at a4 b4 cS
      obtain ⟨XK, hXK⟩ : ∃ z, x.x.k = z := ⟨_, rfl⟩
      obtain ⟨XN, hXN⟩ : ∃ z, x.x.n = z := ⟨_, rfl⟩
      obtain ⟨XA, hXA⟩ : ∃ z, x.x.a = z := ⟨_, rfl⟩
      obtain ⟨XM, hXM⟩ : ∃ z, x.x.m = z := ⟨_, rfl⟩
      rw [hXK] at a0 b0
      rw [hXN] at a1 b1x
      rw [hXA] at a2 b2x
      rw [hXM] at a3 b3
      have hkz : (k : Int) < (N : Int) := by omega
      have hkz0 : (0 : Int) ≤ (k : Int) := by omega
      have hr1 : b1 < wr.heap.size := by omega
      have hr2 : b2 < wr.heap.size := by omega
      have HBW := Lib.hid hbw
      have CS := Lib.hid cS
      have hHr0 : H < wr.heap.size := by omega
      clear hx hc1 hc2 a0' a1' a2' a3' a4' b0' b1' b2' b3' b4' hs1 hs2 cS hM hXK hXN hXA hXM hbw
      go_wp2_with fail
      go_region_held3 (fun w' => w'.cell? ⟨H, 0, none⟩ = some (.slice (some ⟨b1, o1, none⟩) N c) ∧ w'.cell? ⟨H + 1, 0, none⟩ = some (.slice (some ⟨b2, o2, none⟩) N c') ∧
        w'.cell? ⟨b1, o1 + k * 5, none⟩ = some (.int .i64 XK) ∧ w'.cell? ⟨b1, o1 + k * 5 + 1, none⟩ = some (.int .i64 XN) ∧ w'.cell? ⟨b1, o1 + k * 5 + 2, none⟩ = some (.string XA) ∧ w'.cell? ⟨b1, o1 + k * 5 + 3, none⟩ = some (.string XM) ∧ w'.cell? ⟨b1, o1 + k * 5 + 4, none⟩ = some (.slice KA M kc) ∧
        w'.cell? ⟨b2, o2 + k * 5, none⟩ = some (.int .i64 XK) ∧ w'.cell? ⟨b2, o2 + k * 5 + 1, none⟩ = some (.int .i64 XN) ∧ w'.cell? ⟨b2, o2 + k * 5 + 2, none⟩ = some (.string XA) ∧ w'.cell? ⟨b2, o2 + k * 5 + 3, none⟩ = some (.string XM) ∧ w'.cell? ⟨b2, o2 + k * 5 + 4, none⟩ = some (.slice KB M kd)) (go_keep) (fail)
      all_goals
        go_wp2_with (go_at_call 30; refine (CS.out _ (by exact Below.drew (((Below.refl wr.heap.size wr).alloc (Nat.le_refl _) _).alloc (by simp) _))).mono ?_; rintro e w2 ⟨rfl, hb2⟩; have hy1 := (hb2.cell (p := ⟨H, 0, none⟩) hHr0).trans hx1; have hy2 := (hb2.cell (p := ⟨H + 1, 0, none⟩) hHr).trans hx2; have hs2 := hb2.size; have HB2 := Lib.hid hb2; clear hb2)
        go_roundw
        case rel => exact ⟨k + 1, by go_num, by omega, hy1, hy2, by omega, HBW.out.trans (HB2.out.mono (by omega))⟩
        case measure => simp [intOf]; omega
    · have hkz : ¬ (k : Int) < (N : Int) := by omega
      have HBW := Lib.hid hbw
      clear hbw
      go_wp2_with fail
      go_ret
      exact ⟨rfl, by rw [HH.out]; exact HBW.out⟩
end Go.Proofs.Ytmjdeadkekhpdaa
