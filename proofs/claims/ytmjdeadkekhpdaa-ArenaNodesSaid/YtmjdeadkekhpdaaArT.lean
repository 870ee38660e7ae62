/-
  The program's Paths: what it tells of trees.
-/
import Derived.Test.YtmjdeadkekhpdaaArR
import Derived.Test.YtmjdeadkekhpdaaRtJ
import Derived.Laws.EntriesVeiled
namespace Go.Proofs.Ytmjdeadkekhpdaa
open Go.RowKit

/-- Paths handed back: a slice that reads as this list. -/
def PhPost (L : List (List Int)) (W : World) (e : Ending) (w' : World) : Prop := ∃ v, e = .returned v ∧ Spp w' w'.heap.size v L ∧ Below W.heap.size W w'
theorem PaSt.spp {w : World} {kb lb pb wb B : Nat} {kind : Int} {vo vp : Value} {L : List (List Int)} {P : List Int} (h : PaSt w kb lb pb wb B kind vo L vp P) : Spp w w.heap.size vo L := by
  obtain ⟨ps, h1, h2⟩ := h.row
  rcases h1.2 with ⟨hv, h0⟩ | ⟨g, cap, cur, hv, hg, hh, hc, _⟩
  · have : L = [] := List.length_eq_zero_iff.1 h0
    subst this
    exact ⟨none, 0, hv, Nat.le_refl _, fun j u hu => by simp at hu⟩
  · refine ⟨_, cap, hv, hc, fun j u hu => ?_⟩
    obtain ⟨pv, hp1, hp2⟩ := h2.at hu
    have h3 := h1.cells (g := g) (by rw [hv]; rfl) j pv hp1
    rw [addAt] at h3
    exact ⟨g, 0, pv, rfl, heap_lt hh, h3, hp2.sp fun q hq => hq.2.1⟩
set_option maxHeartbeats 3200000 in
set_option maxRecDepth 100000 in
theorem arPathsSome (t : Tr) (hsz : szT t ≤ 60000) (kind : Int) (w : World) (Sq : Nat → Prop) (v : Value) (hS : Bel Sq w.heap.size) (hin : InT w Sq v t) :
    Calls Try.prog 28 #[v, .int .i64 kind] w (PhPost (pathsT kind t) w) := by
  have hb := (Below.refl w.heap.size w).alloc (Nat.le_refl _) (.cells #[.int .i64 kind] 3)
  have hs : (w.alloc (.cells #[.int .i64 kind] 3)).heap.size = w.heap.size + 1 := by simp
  have hszo : szO (some t) = szT t := rfl
  have cE := endless_any (some t) (w.alloc (.cells #[.int .i64 kind] 3)) Sq v (fun q h => by have := hS q h; omega) (hin.below hS hb) (by omega)
  have hk : (w.alloc (.cells #[.int .i64 kind] 3)).heap[w.heap.size]? = some (.cells #[.int .i64 kind] 3 (0, 0)) := heap_alloc_new w _
  obtain ⟨q0, p0, rfl⟩ := hin.ptr
  have HS := Lib.hid hs
  have HB := Lib.hid hb
  have HK := Lib.hid hk
  have HIN := Lib.hid hin
  have HBEL := Lib.hid hS
  have HSZ := Lib.hid hsz
  clear hin hS hb hk hs hszo hsz
  go_enter Try.func28, Try.ntmps28
  go_wp2_with fail
  refine cE.mono ?_
  rintro e w1 ⟨rfl, hb1⟩
  rw [HS.out] at hb1
  obtain ⟨H, hH⟩ : ∃ H, w.heap.size = H := ⟨_, rfl⟩
  have hk1 : w1.heap[H]? = some (.cells #[.int .i64 kind] 3 (0, 0)) := by rw [← hH]; exact (hb1.block w.heap.size (by omega)).trans HK.out
  have hb2 : Below H w w1 := (hH ▸ HB.out : Below H w _).trans (hb1.mono (by omega))
  have hs1 := hb1.size
  rw [HS.out] at hs1
  have HH := Lib.hid hH
  have HK1 := Lib.hid hk1
  have HB2 := Lib.hid hb2
  clear cE hb1 hk1 hb2 hH
  rw [HH.out]
  go_wp2_with fail
  obtain ⟨C, hC⟩ : ∃ C, w1.heap.size = C := ⟨_, rfl⟩
  have hHC : H + 1 ≤ C := by have := HH.out; omega
  have three := three_blocks w1 (.cells #[.slice none 0 0] 51) (.cells #[.slice none 0 0] 45) (.cells #[.func (.func 42) #[] #[.pointer (some ⟨H, 0, none⟩), .pointer (some ⟨C, 0, none⟩), .pointer (some ⟨C + 1, 0, none⟩), .pointer (some ⟨C + 1 + 1, 0, none⟩)]] 72) hC
  rw [hC]
  obtain ⟨W5, hW5⟩ : ∃ W5, W5 = ((w1.alloc (.cells #[.slice none 0 0] 51)).alloc (.cells #[.slice none 0 0] 45)).alloc (.cells #[.func (.func 42) #[] #[.pointer (some ⟨H, 0, none⟩), .pointer (some ⟨C, 0, none⟩), .pointer (some ⟨C + 1, 0, none⟩), .pointer (some ⟨C + 1 + 1, 0, none⟩)]] 72) := ⟨_, rfl⟩
  rw [← hW5] at three ⊢
  obtain ⟨t1, t2, t3, hb5, s5⟩ := three
  have hst : PaSt W5 H C (C + 1) (C + 1 + 1) (C + 3) kind (.slice none 0 0) [] (.slice none 0 0) [] := ⟨(hb5.block H (by omega)).trans HK1.out, t1, t2, t3, ⟨[], World.ownsRow_nil _ _ _ _, trivial⟩, World.ownsRow_nil _ _ _ _, by intro g hg; simp [Value.ownBlock] at hg⟩
  have hbw : Below H w W5 := HB2.out.trans (hb5.mono (by omega))
  have cW := walk_all 1000000 (Nat.le_refl _) t (by have := HSZ.out; omega) W5 Sq (.pointer (some ⟨q0, p0, none⟩)) H C (C + 1) (C + 1 + 1) H (C + 3) kind (.slice none 0 0) (.slice none 0 0) [] [] ⟨⟨by omega, by omega, by omega, by omega⟩, ⟨by omega, by omega, by omega, by omega⟩, by omega, by omega, by omega, by omega, by omega⟩ (by omega) (fun q h => by have := HBEL.out q h; rw [HH.out] at this; exact this) (HIN.out.below HBEL.out (by rw [HH.out]; exact hbw)) hst (fun _ => rfl) (by have := HSZ.out; simp; omega) (by have := HSZ.out; simp; omega)
  have HBW := Lib.hid hbw
  clear hW5 t1 t2 t3 hb5 s5 hst hbw hC
  refine cW.mono ?_
  rintro e w6 ⟨rfl, vo', vp', hst6, hb6⟩
  rw [List.nil_append] at hst6
  have e1 : ((pathsT kind t).map fun p => ([] : List Int) ++ p) = pathsT kind t := by simp
  rw [e1] at hst6
  have cl : w6.cell? ⟨C, 0, none⟩ = some vo' := cell_of_row w6 C 0 _ _ _ hst6.hl
  have HSP := Lib.hid hst6.spp
  have HB6 := Lib.hid (HBW.out.trans hb6)
  clear hst6 hb6 cW e1
  go_wp2_with fail
  go_ret
  exact ⟨vo', rfl, HSP.out, by rw [HH.out]; exact HB6.out⟩
theorem walk_nil (a b c d : Addr) (w : World) : Calls Try.prog 42 #[.pointer none, .pointer (some a), .pointer (some b), .pointer (some c), .pointer (some d)] w fun e w' => e = .returned (.tuple #[]) ∧ w = w' := by
  go_enter Try.func42, Try.ntmps42
  go_wp2_with fail
  exact bodyPost_ret (v := .tuple #[]) (by simp [results, Try.results42, go_sem]) rfl ⟨rfl, rfl⟩
set_option maxHeartbeats 3200000 in
set_option maxRecDepth 100000 in
theorem arPathsNone (kind : Int) (w : World) : Calls Try.prog 28 #[.pointer none, .int .i64 kind] w (PhPost [] w) := by
  have hb := (Below.refl w.heap.size w).alloc (Nat.le_refl _) (.cells #[.int .i64 kind] 3)
  have hs : (w.alloc (.cells #[.int .i64 kind] 3)).heap.size = w.heap.size + 1 := by simp
  have hin : InO (w.alloc (.cells #[.int .i64 kind] 3)) No (.pointer none) none := rfl
  have cE := endless_any none (w.alloc (.cells #[.int .i64 kind] 3)) No (.pointer none) (fun q h => h.elim) hin (Nat.zero_le _)
  have HS := Lib.hid hs
  have HB := Lib.hid hb
  clear hin hb hs
  go_enter Try.func28, Try.ntmps28
  go_wp2_with fail
  refine cE.mono ?_
  rintro e w1 ⟨rfl, hb1⟩
  rw [HS.out] at hb1
  obtain ⟨H, hH⟩ : ∃ H, w.heap.size = H := ⟨_, rfl⟩
  have hb2 : Below H w w1 := (hH ▸ HB.out : Below H w _).trans (hb1.mono (by omega))
  have hs1 := hb1.size
  rw [HS.out] at hs1
  have HH := Lib.hid hH
  have HB2 := Lib.hid hb2
  clear cE hb1 hb2 hH
  rw [HH.out]
  go_wp2_with fail
  obtain ⟨C, hC⟩ : ∃ C, w1.heap.size = C := ⟨_, rfl⟩
  have hHC : H + 1 ≤ C := by have := HH.out; omega
  have three := three_blocks w1 (.cells #[.slice none 0 0] 51) (.cells #[.slice none 0 0] 45) (.cells #[.func (.func 42) #[] #[.pointer (some ⟨H, 0, none⟩), .pointer (some ⟨C, 0, none⟩), .pointer (some ⟨C + 1, 0, none⟩), .pointer (some ⟨C + 1 + 1, 0, none⟩)]] 72) hC
  rw [hC]
  obtain ⟨W5, hW5⟩ : ∃ W5, W5 = ((w1.alloc (.cells #[.slice none 0 0] 51)).alloc (.cells #[.slice none 0 0] 45)).alloc (.cells #[.func (.func 42) #[] #[.pointer (some ⟨H, 0, none⟩), .pointer (some ⟨C, 0, none⟩), .pointer (some ⟨C + 1, 0, none⟩), .pointer (some ⟨C + 1 + 1, 0, none⟩)]] 72) := ⟨_, rfl⟩
  rw [← hW5] at three ⊢
  obtain ⟨t1, t2, t3, hb5, s5⟩ := three
  have cl : W5.cell? ⟨C, 0, none⟩ = some (.slice none 0 0) := cell_of_row W5 C 0 _ _ _ t1
  have HBW := Lib.hid (HB2.out.trans (hb5.mono (by omega)))
  clear hW5 t1 t2 t3 hb5 s5 hC
  refine (walk_nil _ _ _ _ W5).mono ?_
  rintro e w6 ⟨rfl, rfl⟩
  go_wp2_with fail
  go_ret
  exact ⟨_, rfl, ⟨none, 0, rfl, Nat.le_refl _, fun j u hu => by simp at hu⟩, by rw [HH.out]; exact HBW.out⟩
theorem arPaths (o : Option Tr) (hsz : szO o ≤ 60000) (kind : Int) (w : World) (Sq : Nat → Prop) (v : Value) (hS : Bel Sq w.heap.size) (hin : InO w Sq v o) :
    Calls Try.prog 28 #[v, .int .i64 kind] w (PhPost (pathsO kind o) w) := by
  cases o with
  | some t => exact arPathsSome t hsz kind w Sq v hS hin
  | none =>
    have hv : v = .pointer none := hin
    subst hv
    exact arPathsNone kind w
end Go.Proofs.Ytmjdeadkekhpdaa
