/-
  Words for the walks of layers 1 and 2: small lemmas; what Check and Name leave.
-/
import Derived.Test.YtagocfifagnpkaaDoorUtfC
import Derived.Test.YtagocfifagnpkaaDoorRows
import Derived.WalkKit
import Derived.WalkSpells
import Derived.WalkLawsBesides
import Derived.Outline
import Derived.Deep.AppendLies
import Derived.Deep.QuietTactic
import Derived.BigQuiet
import Derived.Deep.DeepMust
import Derived.OwnWalk
import Derived.Lib.Hide
import Derived.Lib.OthersKept
import Derived.WalkSmall
import Derived.Test.YtagocfifagnpkaaDoorShelf
namespace Go.Proofs.YtagocfifagnpkaaDoor
open Go.RowKit

theorem addBlock (a : Addr) (n : Nat) : (a.add n).block = a.block := by unfold Addr.add; split <;> rfl
theorem chn {w w1 w2 : World} (h : Below w.heap.size w w1) (h' : Below w1.heap.size w1 w2) : Below w.heap.size w w2 := h.trans (h'.mono h.size)
/-- A row that the call owns is no iterator. -/
theorem own_ne_iter {w : World} {base : Nat} {e : TypeId} {size : Nat} {v : Value} {n : Nat} {xs : List Value} {b p : Nat} {s : ByteArray} (h : w.ownsRow base e size v n xs) (hb : w.heap[b]? = some (.stringIter s p)) :
    ∀ g, v.ownBlock = some g → g ≠ b := by
  rintro g hg rfl
  rcases h.2 with ⟨rfl, _⟩ | ⟨g', cap, cur, rfl, _, hh, _⟩
  · simp [Value.ownBlock] at hg
  · simp [Value.ownBlock] at hg
    subst hg
    rw [hh] at hb
    cases hb
theorem own_iterAt {w : World} {base : Nat} {e : TypeId} {size : Nat} {v : Value} {n : Nat} {xs : List Value} {b p : Nat} {s : ByteArray} (h : w.ownsRow base e size v n xs) (hb : w.heap[b]? = some (.stringIter s p)) (p' : Nat) :
    (w.iterAt b s p').ownsRow base e size v n xs := by
  have hne := own_ne_iter h hb
  refine ⟨h.1, ?_⟩
  rcases h.2 with h2 | ⟨g, cap, cur, hv, hbg, hh, d⟩
  · exact .inl h2
  · exact .inr ⟨g, cap, cur, hv, hbg, by rw [Lib.iterAt_other _ _ _ _ _ (hne g (by rw [hv]; rfl))]; exact hh, d⟩
theorem i64_eq {a b : Int} (h : a = b) : Value.int .i64 a = .int .i64 b := by rw [h]
theorem i32_eq {a b : Int} (h : a = b) : Value.int .i32 a = .int .i32 b := by rw [h]
theorem ret_i64 {a b : Int} (h : a = b) : Ending.returned (.int .i64 b) = .returned (.int .i64 a) := by rw [h]
theorem ret_b {a b : Bool} (h : a = b) : Ending.returned (.bool b) = .returned (.bool a) := by rw [h]
theorem below_drewN' {B : Nat} {a w : World} (h : Below B a w) (n : Nat) : Below B a (w.drewN n) := h.trans ⟨rfl, rfl, rfl, Nat.le_refl _, fun _ _ => rfl⟩
def CkPost (s : ByteArray) (w : World) (e : Ending) (w' : World) : Prop :=
  e = .returned (.tuple #[.int .i64 (if 16384 < s.size then (0, 3) else ck s 0).1, .int .i64 (if 16384 < s.size then ((0 : Int), (3 : Int)) else ck s 0).2]) ∧ Below w.heap.size w w'
theorem ck_long {s : ByteArray} {w w' : World} (h : 16384 < s.size) (hb : Below w.heap.size w w') : CkPost s w (.returned (.tuple #[.int .i64 0, .int .i64 3])) w' := by
  unfold CkPost
  exact ⟨by simp only [if_pos h], hb⟩
theorem ck_ret {s : ByteArray} {w w' : World} {a b : Int} (h : ¬ 16384 < s.size) (hc : ck s 0 = (a, b)) (hb : Below w.heap.size w w') : CkPost s w (.returned (.tuple #[.int .i64 a, .int .i64 b])) w' := by
  unfold CkPost
  exact ⟨by simp only [if_neg h, hc], hb⟩
/-! ### Name -/
def NmPost (b : Bool) (W : World) (e : Ending) (w' : World) : Prop := e = .returned (.bool b) ∧ Below W.heap.size W w'
theorem mst_true {r c : Int} {f : Bool} (hc : cls r = c) (h : c = 1 ∨ ((c = 2 ∨ r = 39) ∧ f = false)) : mst r f = true := by
  unfold mst
  rw [hc]
  rcases h with h | ⟨h, hf⟩
  · simp [h]
  · simp [h, hf]
theorem mst_false {r c : Int} {f : Bool} (hc : cls r = c) (h : c ≠ 1 ∧ (f = true ∨ (c ≠ 2 ∧ r ≠ 39))) : mst r f = false := by
  unfold mst
  rw [hc]
  obtain ⟨h1, h2⟩ := h
  rcases h2 with hf | ⟨h2, h3⟩
  · simp [h1, hf]
  · simp [h1, h2, h3]
theorem ret_s {a b : ByteArray} (h : a = b) : Ending.returned (.string b) = .returned (.string a) := by rw [h]
theorem extract_all (s : ByteArray) : s.extract 0 s.size = s := by
  apply ByteArray.ext
  apply Array.ext'
  rw [Lib.extract_data]
  rw [Nat.sub_zero, List.drop_zero, Lib.size_eq]
  exact List.take_length
end Go.Proofs.YtagocfifagnpkaaDoor
