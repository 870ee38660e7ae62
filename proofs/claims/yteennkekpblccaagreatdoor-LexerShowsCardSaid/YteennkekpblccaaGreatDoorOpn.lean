/-
  A list of tokens as it is handed in: its cells.
-/
import Derived.Test.YteennkekpblccaaGreatDoorLawS
import Derived.Deep.Fields
import Derived.Carry
namespace Go.Proofs.YteennkekpblccaaGreatDoor
open Go.ChangeShapes Go.WideShapes Go.Deep Go.RowKit

theorem blk_lt {w : World} {a : Addr} {v : Value} (h : w.cell? a = some v) : a.block < w.heap.size := by
  rcases Nat.lt_or_ge a.block w.heap.size with h1 | h1
  · exact h1
  · have h2 : w.heap[a.block]? = none := Array.getElem?_eq_none h1
    unfold World.cell? at h
    rw [h2] at h
    cases h
theorem add_block (a : Addr) (i : Nat) : (a.add i).block = a.block := addBlock a i
theorem add_zero (a : Addr) : a.add 0 = a := by simp [Addr.add]

set_option maxRecDepth 100000 in
theorem one_tok {H : Type} {enc : TypeId × Value → H} {w : World} {base fuel : Nat} {spare : Nat → Bool} {held : Bool} {cs : List Value} {x : DataW H × List MemPlace}
    (h : DataW.trod enc Tryz.prog w base spare held fuel 24 cs = some x) : ∃ t : RTok, cs = rcl t ∧ t.s.size ≤ maxLen := by
  obtain ⟨ys, n, _, _, hlen, hyl, hf⟩ := DataW.trod_struct Tryz.underlying24 h
  have hC : Tryz.prog.cellsOf 24 = 4 := by kernel_rfl
  rw [hC] at hlen
  have hl4 : cs.length = 4 := hlen
  have hy4 : ys.length = 4 := hyl
  match cs, hl4 with
  | [c0, c1, c2, c3], _ =>
    match ys, hy4 with
    | [y0, y1, y2, y3], _ =>
      have g0 : DataW.trod enc Tryz.prog w base spare held n 3 [c0] = some y0 := hf 0 _ rfl
      have g1 : DataW.trod enc Tryz.prog w base spare held n 9 [c1] = some y1 := hf 1 _ rfl
      have g2 : DataW.trod enc Tryz.prog w base spare held n 3 [c2] = some y2 := hf 2 _ rfl
      have g3 : DataW.trod enc Tryz.prog w base spare held n 3 [c3] = some y3 := hf 3 _ rfl
      obtain ⟨k, e0, _⟩ := DataW.trod_int Tryz.underlying3 g0
      obtain ⟨s, e1, _, hs⟩ := DataW.trod_string Tryz.underlying9 g1
      obtain ⟨m, e2, _⟩ := DataW.trod_int Tryz.underlying3 g2
      obtain ⟨a, e3, _⟩ := DataW.trod_int Tryz.underlying3 g3
      injection e0 with e0
      injection e1 with e1
      injection e2 with e2
      injection e3 with e3
      exact ⟨⟨k, s, m, a⟩, by rw [e0, e1, e2, e3]; rfl, hs⟩

set_option maxRecDepth 100000 in
theorem open_toks {H : Type} {enc : TypeId × Value → H} {W : World} {base : Nat} {v : Value} {d : DataW H} {p : List MemPlace}
    (hv : Value.okWide Tryz.prog W .any base 22 v) (h : DataW.Trod enc Tryz.prog W 0 (fun _ => true) true 22 v d p) :
    ∃ l : List RTok, RTks W W.heap.size v l ∧ l.length ≤ maxLen ∧ ∀ t ∈ l, t.s.size ≤ maxLen := by
  obtain ⟨a0, len0, cap0, rfl⟩ := okWide_slice Tryz.underlying22 hv
  obtain ⟨fuel, hf⟩ := h
  have hcs : (Value.slice a0 len0 cap0).cells.toList = [.slice a0 len0 cap0] := rfl
  rw [hcs] at hf
  rcases open_slice Tryz.underlying22 hf with ⟨h0, _⟩ | ⟨a, len, cap, m, n, D, Pl, hc, _, hlc, hcm, hm, _, hi⟩
  · injection h0 with h0
    rw [h0]
    exact ⟨[], ⟨none, 0, rfl, fun j t ht => by simp at ht⟩, by simp, fun t ht => by cases ht⟩
  · injection hc with hc
    rw [hc]
    have hm2 : m = cap := by simpa using hm
    have hC : Tryz.prog.cellsOf 24 = 4 := by kernel_rfl
    have key : ∀ i, i < len → ∃ t : RTok, TokAt W (a.add (i * 4)) t.k t.s t.n t.a ∧ t.s.size ≤ maxLen := by
      intro i hil
      obtain ⟨cs', hce, htr⟩ := hi i (by omega)
      obtain ⟨t, rfl, hts⟩ := one_tok htr
      rw [hC] at hce
      obtain ⟨_, _, hat⟩ := World.cells?_some hce
      have e0 := hat 0 (by omega)
      rw [add_zero] at e0
      exact ⟨t, ⟨e0, hat 1 (by omega), hat 2 (by omega), hat 3 (by omega)⟩, hts⟩
    let f : Nat → RTok := fun i => if h : i < len then Classical.choose (key i h) else ⟨0, ⟨#[]⟩, 0, 0⟩
    have hfx : ∀ i, i < len → TokAt W (a.add (i * 4)) (f i).k (f i).s (f i).n (f i).a ∧ (f i).s.size ≤ maxLen := by
      intro i h
      have := Classical.choose_spec (key i h)
      show TokAt W _ (dite _ _ _ : RTok).k (dite _ _ _ : RTok).s (dite _ _ _ : RTok).n (dite _ _ _ : RTok).a ∧ (dite _ _ _ : RTok).s.size ≤ _
      rw [dif_pos h]
      exact this
    refine ⟨(List.range len).map f, ⟨some a, cap, by rw [List.length_map, List.length_range], fun j t ht => ?_⟩, by rw [List.length_map, List.length_range]; omega, fun t ht => ?_⟩
    · rw [List.getElem?_map] at ht
      obtain ⟨i, hi', rfl⟩ := Option.map_eq_some_iff.1 ht
      have hij : i = j ∧ j < len := by
        obtain ⟨h1, h2⟩ := List.getElem?_eq_some_iff.1 hi'
        rw [List.length_range] at h1
        rw [List.getElem_range] at h2
        omega
      obtain ⟨rfl, hlt⟩ := hij
      have := (hfx i hlt).1
      refine ⟨a, rfl, ?_, this⟩
      have hb := blk_lt this.1
      rw [addBlock] at hb
      exact hb
    · obtain ⟨i, hi', rfl⟩ := List.mem_map.1 ht
      exact (hfx i (List.mem_range.1 hi')).2
end Go.Proofs.YteennkekpblccaaGreatDoor
