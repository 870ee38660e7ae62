/-
  Two nodes whose names differ: neither Same tells that they are alike.
-/
import Derived.Test.YtmjdeadkekhpdaaArS
import Derived.Test.YtmjdeadkekhpdaaRtB
namespace Go.Proofs.Ytmjdeadkekhpdaa
open Go.RowKit

/-- A node's five cells, of whose kids nothing is said. -/
def Top (w : World) (q p : Nat) (k n : Int) (a : ByteArray) : Prop := Pln w q ∧ w.cell? ⟨q, p, none⟩ = some (.int .i64 k) ∧ w.cell? ⟨q, p + 1, none⟩ = some (.int .i64 n) ∧ w.cell? ⟨q, p + 2, none⟩ = some (.string a)
set_option maxHeartbeats 3200000 in
set_option maxRecDepth 100000 in
theorem ref_unlike {q p q' p' : Nat} {k n : Int} {a a' : ByteArray} {w : World} (h : Top w q p k n a) (h' : Top w q' p' k n a') (hne : a ≠ a') :
    Calls Try.prog 12 #[.pointer (some ⟨q, p, none⟩), .pointer (some ⟨q', p', none⟩)] w (SmPost false w) := by
  obtain ⟨-, c0, c1, c2⟩ := h
  obtain ⟨-, c0', c1', c2'⟩ := h'
  obtain ⟨e2, f2⟩ := txt_ne hne
  clear hne
  go_enter Try.func12, Try.ntmps12
  go_wp2_with fail
  go_quiet (fail)
  go_wp2_with fail
  go_ret
  exact sm_ret rfl ⟨_, rfl⟩
set_option maxHeartbeats 3200000 in
set_option maxRecDepth 100000 in
theorem ar_unlike {cb q p q' p' : Nat} {k n : Int} {a a' : ByteArray} {w : World} (h : Top w q p k n a) (h' : Top w q' p' k n a') (hne : a ≠ a') :
    Calls Try.prog 37 #[.pointer (some ⟨cb, 0, none⟩), .pointer (some ⟨q, p, none⟩), .pointer (some ⟨q', p', none⟩)] w fun e w' => e = .returned (.bool false) ∧ ∃ n, w' = w.drewN n := by
  have heq := ptr_other (w := w) (a := ⟨q, p, none⟩) (b := ⟨q', p', none⟩) (fun e => by
    injection e with e1 e2
    obtain ⟨-, -, -, c2⟩ := h
    obtain ⟨-, -, -, c2'⟩ := h'
    subst e1 e2
    rw [c2] at c2'
    injection c2' with c2'
    injection c2' with c2'
    exact hne c2') h.1 h'.1
  obtain ⟨-, c0, c1, c2⟩ := h
  obtain ⟨-, c0', c1', c2'⟩ := h'
  obtain ⟨e2, f2⟩ := txt_ne hne
  clear hne
  go_enter Try.func37, Try.ntmps37
  go_wp2_with fail
  go_quiet (fail)
  go_wp2_with fail
  go_ret
  exact ⟨rfl, _, rfl⟩
set_option maxHeartbeats 1600000 in
set_option maxRecDepth 100000 in
theorem same_unlike {q p q' p' : Nat} {k n : Int} {a a' : ByteArray} {w : World} (h : Top w q p k n a) (h' : Top w q' p' k n a') (hne : a ≠ a') :
    Calls Try.prog 17 #[.pointer (some ⟨q, p, none⟩), .pointer (some ⟨q', p', none⟩)] w (SbPost false w) := by
  have hb := (Below.refl w.heap.size w).alloc (Nat.le_refl _) (.cells #[.int .i64 0, .map none] 68)
  have up : ∀ {q p : Nat} {k n : Int} {a : ByteArray}, Top w q p k n a → Top (w.alloc (.cells #[.int .i64 0, .map none] 68)) q p k n a := fun {q p k n a} ⟨⟨cs, e, hc⟩, h0, h1, h2⟩ =>
    ⟨⟨cs, e, heap_below hc hb⟩, (hb.cell (cell_lt h0)).trans h0, (hb.cell (cell_lt h1)).trans h1, (hb.cell (cell_lt h2)).trans h2⟩
  have key := ar_unlike (cb := w.heap.size) (up h) (up h') hne
  clear h h' up
  go_enter Try.func17, Try.ntmps17
  go_wp2_with fail
  refine key.mono ?_
  rintro e w1 ⟨rfl, m, rfl⟩
  go_wp2_with fail
  go_ret
  exact ⟨rfl, below_drewN' hb m⟩
end Go.Proofs.Ytmjdeadkekhpdaa
