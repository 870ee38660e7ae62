/-
  The document's Same and hole: what they tell of trees.
-/
import Derived.Test.YtoejegndbcbkmaaRtA
import Derived.Lib.Strings
namespace Go.Proofs.Ytoejegndbcbkmaa
open Go.RowKit

theorem ba_eq {s t : ByteArray} (h : s.data.toList = t.data.toList) : s = t := by
  apply ByteArray.ext
  exact Array.ext' h
theorem txt_eq {x y : ByteArray} (h : x = y) : (x.toList == y.toList) = true ∧ (x.toList != y.toList) = false := by subst h; simp
theorem txt_ne {x y : ByteArray} (h : x ≠ y) : (x.toList == y.toList) = false ∧ (x.toList != y.toList) = true := by
  have : (x.toList == y.toList) = false := by
    rw [beq_eq_false_iff_ne]
    intro e
    rw [Lib.toList_data, Lib.toList_data] at e
    exact h (ba_eq e)
  exact ⟨this, by unfold bne; rw [this]; rfl⟩
theorem int_eq {x y : Int} (h : x = y) : (x == y) = true ∧ (x != y) = false := by subst h; simp
theorem int_ne {x y : Int} (h : x ≠ y) : (x == y) = false ∧ (x != y) = true := by simp [h]
def SmPost (b : Bool) (w : World) (e : Ending) (w' : World) : Prop := e = .returned (.bool b) ∧ ∃ q, w' = w.drewN q
theorem sm_ret {a b : Bool} {w w' : World} (h : b = a) (hw : ∃ q, w' = w.drewN q) : SmPost b w (.returned (.bool a)) w' := ⟨by rw [h], hw⟩
theorem quiet_off {P : Program} {f : FuncId} {args : Array Value} {w : World} {q x : Nat} {v : Value} (h : Calls P f args (w.drewN (q + x)) fun e w' => e = .returned v ∧ ∃ m, w' = (w.drewN (q + x)).drewN m) :
    Calls P f args (w.drewN (q + x)) fun e w'' => e = .returned v ∧ ∃ n, w'' = w.drewN (q + n) := h.mono fun _ _ ⟨he, m, hm⟩ => ⟨he, x + m, by rw [hm, World.drewN_drewN, Nat.add_assoc]⟩
theorem bool_of (P : Prop) : ∃ b : Bool, b = true ↔ P := by
  by_cases h : P
  · exact ⟨true, ⟨fun _ => h, fun _ => rfl⟩⟩
  · exact ⟨false, ⟨fun e => (by cases e), fun hp => absurd hp h⟩⟩
theorem bool_no {b : Bool} {P : Prop} (h : b = true ↔ P) (hn : ¬ P) : b = false := by cases b; rfl; exact absurd (h.1 rfl) hn
theorem bool_yes {b : Bool} {P : Prop} (h : b = true ↔ P) (hp : P) : b = true := h.2 hp
theorem Fr.app_inj (a : Fr) {b c : Fr} (h : a.app b = a.app c) : b = c := by
  induction a with
  | nil => exact h
  | cons x k r _ ih => simp only [Fr.app, Fr.cons.injEq] at h; exact ih h.2.2
theorem nod_ext {x y : Nod} (h1 : x.k = y.k) (h2 : x.n = y.n) (h3 : x.a = y.a) (h4 : x.m = y.m) : x = y := by
  cases x; cases y; simp only at h1 h2 h3 h4; subst h1 h2 h3 h4; rfl

end Go.Proofs.Ytoejegndbcbkmaa
