/-
  The document's Put: what it tells.
-/
import Derived.Test.YtoejegndbcbkmaaRtD
namespace Go.Proofs.Ytoejegndbcbkmaa
open Go.RowKit

def putO (t : Option Tr) (p : List Int) (s : Option Tr) : Option Tr := match t with
  | none => none
  | some t => match atT t p with
    | none => none
    | some _ => match s with
      | none => none
      | some s => some (withT t p s)
def putE (t : Option Tr) (p : List Int) (s : Option Tr) : Int := if atE t p ≠ 0 then atE t p else match s with
  | none => 1
  | some _ => 0
def TePost (S : Nat → Prop) (o : Option Tr) (z : Int) (W : World) (e : Ending) (w' : World) : Prop := ∃ v, e = .returned (.tuple #[v, .int .i64 z]) ∧ InO w' (Sin S W w') v o ∧ Below W.heap.size W w'
theorem te_ret {S : Nat → Prop} {o : Option Tr} {z y : Int} {W w' : World} {v : Value} (hz : z = y) (h : InO w' (Sin S W w') v o) (hb : Below W.heap.size W w') : TePost S o z W (.returned (.tuple #[v, .int .i64 y])) w' := ⟨v, by rw [hz], h, hb⟩
theorem put_no {t : Option Tr} {p : List Int} {s : Option Tr} (h : atE t p ≠ 0) : putO t p s = none ∧ putE t p s = atE t p := by
  refine ⟨?_, by unfold putE; rw [if_pos h]⟩
  cases t with
  | none => rfl
  | some t =>
    cases ha : atT t p with
    | none => simp only [putO, ha]
    | some u => exact absurd (at_yes ha).2 h
theorem put_nil {t : Option Tr} {p : List Int} (h : atE t p = 0) : putO t p none = none ∧ putE t p none = 1 := by
  refine ⟨?_, by unfold putE; rw [if_neg (by rw [h]; simp)]⟩
  cases t with
  | none => rfl
  | some t =>
    cases ha : atT t p with
    | none => simp only [putO, ha]
    | some u => simp only [putO, ha]
theorem atE_zero {t : Option Tr} {p : List Int} (h : atE t p = 0) : ∃ t' u, t = some t' ∧ atT t' p = some u := by
  cases t with
  | none => have h : (1 : Int) = 0 := h; omega
  | some t =>
    cases ha : atT t p with
    | none => rw [(at_no ha).2] at h; omega
    | some u => exact ⟨t, u, rfl, ha⟩
theorem put_yes {t s u : Tr} {p : List Int} (h : atT t p = some u) : putO (some t) p (some s) = some (withT t p s) ∧ putE (some t) p (some s) = 0 := by
  refine ⟨?_, by unfold putE; rw [if_neg (by rw [(at_yes h).2]; simp)]⟩
  simp only [putO, h]
end Go.Proofs.Ytoejegndbcbkmaa
