/-
  A list of texts as it is handed in: its cells.
-/
import Derived.Test.YtagocfifagnpkaaDoorNFew
import Derived.Deep.Strs
import Derived.Carry
namespace Go.Proofs.YtagocfifagnpkaaDoor
open Go.ChangeShapes Go.WideShapes Go.Deep Go.RowKit

set_option maxRecDepth 100000 in
theorem open_texts {H : Type} {enc : TypeId × Value → H} {W : World} {base : Nat} {v : Value} {d : DataW H} {p : List MemPlace}
    (hv : Value.okWide Tryd.prog W .any base 22 v) (h : DataW.Trod enc Tryd.prog W 0 (fun _ => true) true 22 v d p) : ∃ l, Sg W v l ∧ ∀ y ∈ l, y.size ≤ maxLen := by
  obtain ⟨a0, len0, cap0, rfl⟩ := okWide_slice Tryd.underlying22 hv
  obtain ⟨fuel, hf⟩ := h
  have hcs : (Value.slice a0 len0 cap0).cells.toList = [.slice a0 len0 cap0] := rfl
  rw [hcs] at hf
  rcases open_strs Tryd.underlying22 Tryd.underlying9 (show Tryd.prog.cellsOf 9 = 1 by kernel_rfl) hf with ⟨h1, _⟩ | ⟨a, len, cap, m, S, h1, _, hl, _, hmm, _, hcell⟩
  · injection h1 with h1
    rw [h1]
    exact ⟨[], ⟨none, 0, rfl, fun j u hu => by simp at hu⟩, fun y hy => by cases hy⟩
  · injection h1 with h1
    rw [h1]
    have hlm : len ≤ m := by rw [hmm]; split <;> omega
    refine ⟨(List.range len).map S, ⟨some a, cap, by simp, fun j u hu => ?_⟩, fun y hy => ?_⟩
    · rw [List.getElem?_map] at hu
      obtain ⟨i, hi, rfl⟩ := Option.map_eq_some_iff.1 hu
      obtain ⟨hi1, hi2⟩ := List.getElem?_eq_some_iff.1 hi
      rw [List.getElem_range] at hi2
      subst hi2
      rw [List.length_range] at hi1
      have hc := (hcell j (by omega)).1
      exact ⟨a, rfl, by have := cell_lt hc; rwa [addBlock] at this, hc⟩
    · obtain ⟨i, hi, rfl⟩ := List.mem_map.1 hy
      exact (hcell i (by have := List.mem_range.1 hi; omega)).2
end Go.Proofs.YtagocfifagnpkaaDoor
