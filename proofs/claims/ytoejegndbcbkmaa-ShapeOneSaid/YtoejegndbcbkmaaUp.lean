/-
  What is asked of each call of a tree's function: the world behind lies above one and the same world, and what a value leads to there it leads to still.
-/
import Derived.Test.YtoejegndbcbkmaaRtF
namespace Go.Proofs.Ytoejegndbcbkmaa
open Go.RowKit

/-- All that was there is as it was. -/
def Up (W w : World) : Prop := Below W.heap.size W w
theorem Up.refl (W : World) : Up W W := Below.refl _ _
theorem Up.trans {W a b : World} (h : Up W a) (k : Up a b) : Up W b := Below.trans h (Below.mono k h.size)
theorem Up.of {W a b : World} (h : Up W a) (k : Below a.heap.size a b) : Up W b := h.trans k
theorem Up.drew {W a : World} (h : Up W a) : Up W a.drew := Below.drew h
theorem Up.drew1 (W : World) : Up W W.drew := (Up.refl W).drew
theorem Up.drewN {W a : World} (h : Up W a) (q : Nat) : Up W (a.drewN q) := below_drewN' h q
theorem Up.alloc {W a : World} (h : Up W a) (o : Obj) : Up W (a.alloc o) := Below.alloc h h.size o
theorem Up.cell {W a : World} (h : Up W a) {p : Addr} {v : Value} (k : W.cell? p = some v) : a.cell? p = some v := (Below.cell h (cell_lt k)).trans k
theorem Up.row {W a : World} (h : Up W a) {b : Nat} {o : Obj} (k : W.heap[b]? = some o) : a.heap[b]? = some o := (h.block b (heap_lt k)).trans k
/-- The value leads to this tree, or to none. -/
def HasT (w : World) (v : Value) (o : Option Tr) : Prop := InO w (fun q => q < w.heap.size) v o
theorem HasT.of {w : World} {S : Nat → Prop} {v : Value} {o : Option Tr} (h : InO w S v o) (hb : Bel S w.heap.size) : HasT w v o := h.keep hb fun _ _ => rfl
theorem HasT.up {W w : World} {v : Value} {o : Option Tr} (h : HasT W v o) (u : Up W w) : HasT w v o := InO.keep h (fun _ hq => Nat.lt_of_lt_of_le hq u.size) fun b hb => u.block b hb
theorem HasT.bel {w : World} : Bel (fun q => q < w.heap.size) w.heap.size := fun _ h => h
theorem sin_bel' {S : Nat → Prop} {w w' : World} (hS : Bel S w.heap.size) (h : w.heap.size ≤ w'.heap.size) : Bel (Sin S w w') w'.heap.size := fun q hq => by
  rcases hq with hq | hq
  · exact Nat.lt_of_lt_of_le (hS q hq) h
  · exact hq.2
theorem no_bel (n : Nat) : Bel No n := fun _ h => h.elim

/-- A world above W. -/
structure Upw (W : World) where
  w : World
  h : Up W w
instance (W : World) : Nonempty (Upw W) := ⟨⟨W, Up.refl W⟩⟩
theorem Upw.cell {W : World} {p : Addr} {v : Value} (k : W.cell? p = some v) (u : Upw W) : u.w.cell? p = some v := u.h.cell k
/-- A callee's contract, met in a world above W. -/
theorem Calls.upw {P : Program} {f : FuncId} {args : Array Value} {W : World} {u : Upw W} {v : Value} (h : Calls P f args u.w fun e w' => e = .returned v ∧ Up W w') :
    Calls P f args u.w fun e w'' => e = .returned v ∧ ∃ u' : Upw W, w'' = u'.w := h.mono fun _ w' ⟨he, hu⟩ => ⟨he, ⟨w', hu⟩, rfl⟩
/-- A region that draws its order, all of whose operations yield the same in every world above W, and whose callees leave a world above W: one walk, in the order of the text, with 'go_big_quiet_step'. -/
theorem wp_region_up {P : Program} {id : Nat} {Q : Exit → Act → World → Prop} {a : Act} {W w : World} {l : List Oper} (hu : Up W w) (hm : P.follows .mixedOrders = true) (hB : Region.lexB .any l.toArray = true)
    (h : wpQuiet P l.toArray (fun w' => ∃ u : Upw W, w' = u.w) (fun a' => ∀ w', (∃ u : Upw W, w' = u.w) → Q .normal a' w') l a) : (Code.region id l.toArray true).wp P Q a w :=
  wp_region_quiet (C := fun w' => ∃ u : Upw W, w' = u.w) hm hB ⟨⟨_, hu.drew⟩, rfl⟩ (by simpa using h)
def BoP (b : Bool) (W : World) (e : Ending) (w' : World) : Prop := e = .returned (.bool b) ∧ Up W w'
def NuP (n : Nat) (W : World) (e : Ending) (w' : World) : Prop := e = .returned (.int .i64 (n : Int)) ∧ Up W w'
end Go.Proofs.Ytoejegndbcbkmaa
