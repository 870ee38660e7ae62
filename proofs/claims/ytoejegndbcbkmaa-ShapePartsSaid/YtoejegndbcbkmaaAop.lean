/-
  Cells and numbers as they are handed in.
-/
import Derived.Test.YtoejegndbcbkmaaRtM
import Derived.Deep.Fields
import Derived.Deep.Slices
import Derived.Carry
namespace Go.Proofs.Ytoejegndbcbkmaa
open Go.ChangeShapes Go.WideShapes Go.Deep Go.RowKit

theorem plain_of {w : World} {a : Addr} {v : Value} (h : w.cell? (a.add 0) = some v) : ∃ b o, a = ⟨b, o, none⟩ ∧ b < w.heap.size := by
  have hb := cell_lt h
  rw [addBlock] at hb
  obtain ⟨b, o, s⟩ := a
  cases s with
  | none => exact ⟨b, o, rfl, hb⟩
  | some s =>
    exfalso
    unfold Addr.add World.cell? at h
    split at h
    · simp at h
    · cases h
theorem open_nums {H : Type} {enc : TypeId × Value → H} {w : World} {base fuel : Nat} {spare : Nat → Bool} {held : Bool} {v : Value} {x : DataW H × List MemPlace}
    (h : DataW.trod enc Try.prog w base spare held fuel 44 [v] = some x) : ∃ l : List Int, Sp w w.heap.size v l ∧ l.length ≤ maxLen := by
  rcases open_slice1 Try.underlying44 (by kernel_rfl) h with ⟨h1, _⟩ | ⟨a, len, cap, m, n, V, D, Pl, h1, _, hl, hcm, hmm, _, hi⟩
  · injection h1 with h1
    rw [h1]
    exact ⟨[], ⟨none, 0, rfl, Nat.le_refl _, fun j u hu => by simp at hu⟩, Nat.zero_le _⟩
  · injection h1 with h1
    rw [h1]
    have hlm : len ≤ m := by rw [hmm]; split <;> omega
    have key : ∀ i, i < len → ∃ k : Int, w.cell? (a.add i) = some (.int .i64 k) := by
      intro i h
      obtain ⟨h2, h3⟩ := hi i (by omega)
      obtain ⟨k, e, _⟩ := DataW.trod_int Try.underlying3 h3
      injection e with e
      exact ⟨k, by rw [h2, e]⟩
    let f : Nat → Int := fun i => if h : i < len then Classical.choose (key i h) else 0
    have hf : ∀ i, i < len → w.cell? (a.add i) = some (.int .i64 (f i)) := by
      intro i h
      have := Classical.choose_spec (key i h)
      show w.cell? _ = some (.int .i64 (dite _ _ _))
      rw [dif_pos h]
      exact this
    refine ⟨(List.range len).map f, ⟨some a, cap, by rw [List.length_map, List.length_range], by rw [List.length_map, List.length_range]; exact hl, fun j u hu => ?_⟩, by rw [List.length_map, List.length_range]; omega⟩
    rw [List.getElem?_map] at hu
    obtain ⟨i, hi1, rfl⟩ := Option.map_eq_some_iff.1 hu
    obtain ⟨h2, h3⟩ := List.getElem?_eq_some_iff.1 hi1
    rw [List.length_range] at h2
    rw [List.getElem_range] at h3
    subst h3
    obtain ⟨b, o, rfl, e2⟩ := plain_of (hf 0 (by omega))
    have e3 := hf j h2
    rw [addAt] at e3
    exact ⟨b, o, rfl, e2, e3⟩
theorem add_zero' (a : Addr) : (a.add 0).add 0 = a.add 0 := by simp [Addr.add]
/-- A cell's five values at an address. -/
def w5 (w : World) (a : Addr) (c : Cel) (kv : Value) : Prop := w.cell? (a.add 0) = some (.int .i64 c.x.k) ∧ w.cell? (a.add 1) = some (.int .i64 c.x.n) ∧ w.cell? (a.add 2) = some (.string c.x.a) ∧ w.cell? (a.add 3) = some (.string c.x.m) ∧ w.cell? (a.add 4) = some kv
def fitC (c : Cel) : Prop := c.x.a.size ≤ maxLen ∧ c.x.m.size ≤ maxLen ∧ c.ks.length ≤ maxLen
set_option maxRecDepth 100000 in
theorem one_cel {H : Type} {enc : TypeId × Value → H} {w : World} {base fuel : Nat} {spare : Nat → Bool} {held : Bool} {cs : List Value} {x : DataW H × List MemPlace}
    (h : DataW.trod enc Try.prog w base spare held fuel 50 cs = some x) : ∃ (c : Cel) (kv : Value), cs = [.int .i64 c.x.k, .int .i64 c.x.n, .string c.x.a, .string c.x.m, kv] ∧ Sp w w.heap.size kv c.ks ∧ fitC c := by
  obtain ⟨ys, n, _, _, hlen, hyl, hf⟩ := DataW.trod_struct Try.underlying50 h
  have hC : Try.prog.cellsOf 50 = 5 := by kernel_rfl
  rw [hC] at hlen
  have hl5 : cs.length = 5 := hlen
  have hy5 : ys.length = 5 := hyl
  match cs, hl5 with
  | [c0, c1, c2, c3, c4], _ =>
    match ys, hy5 with
    | [y0, y1, y2, y3, y4], _ =>
      have g0 : DataW.trod enc Try.prog w base spare held n 3 [c0] = some y0 := hf 0 _ rfl
      have g1 : DataW.trod enc Try.prog w base spare held n 3 [c1] = some y1 := hf 1 _ rfl
      have g2 : DataW.trod enc Try.prog w base spare held n 9 [c2] = some y2 := hf 2 _ rfl
      have g3 : DataW.trod enc Try.prog w base spare held n 9 [c3] = some y3 := hf 3 _ rfl
      have g4 : DataW.trod enc Try.prog w base spare held n 44 [c4] = some y4 := hf 4 _ rfl
      obtain ⟨k, e0, _⟩ := DataW.trod_int Try.underlying3 g0
      obtain ⟨m, e1, _⟩ := DataW.trod_int Try.underlying3 g1
      obtain ⟨s, e2, _, hs⟩ := DataW.trod_string Try.underlying9 g2
      obtain ⟨t, e3, _, ht⟩ := DataW.trod_string Try.underlying9 g3
      obtain ⟨l, hsp, hl⟩ := open_nums g4
      injection e0 with e0
      injection e1 with e1
      injection e2 with e2
      injection e3 with e3
      exact ⟨⟨⟨k, m, s, t⟩, l⟩, c4, by rw [e0, e1, e2, e3], hsp, hs, ht, hl⟩
set_option maxRecDepth 100000 in
theorem open_tree {H : Type} {enc : TypeId × Value → H} {W : World} {base : Nat} {v : Value} {d : DataW H} {p : List MemPlace}
    (hv : Value.okWide Try.prog W .any base 24 v) (h : DataW.Trod enc Try.prog W 0 (fun _ => true) true 24 v d p) :
    ∃ (cv : Value) (cs : List Cel), v = .agg #[cv] ∧ Cls W W.heap.size cv cs ∧ cs.length ≤ maxLen ∧ ∀ c ∈ cs, fitC c := by
  obtain ⟨cv0, rfl, hsz⟩ := okWide_struct Try.underlying24 hv
  have hC1 : Try.prog.cellsOf 24 = 1 := by kernel_rfl
  rw [hC1] at hsz
  obtain ⟨l0⟩ := cv0
  have hl1 : l0.length = 1 := hsz
  match l0, hl1 with
  | [cv], _ =>
  obtain ⟨fuel, hf⟩ := h
  obtain ⟨ys, n, _, _, hlen, hyl, hff⟩ := DataW.trod_struct Try.underlying24 hf
  have hy1 : ys.length = 1 := hyl
  match ys, hy1 with
  | [y0], _ =>
  have g0 : DataW.trod enc Try.prog W 0 (fun _ => true) true n 22 [cv] = some y0 := hff 0 _ rfl
  refine ⟨cv, ?_⟩
  rcases open_slice Try.underlying22 g0 with ⟨h0, _⟩ | ⟨a, len, cap, m, n, D, Pl, hc, _, hlc, hcm, hm, _, hi⟩
  · injection h0 with h0
    rw [h0]
    exact ⟨[], rfl, ⟨none, 0, rfl, Nat.le_refl _, fun j t ht => by simp at ht⟩, Nat.zero_le _, fun t ht => by cases ht⟩
  · injection hc with hc
    rw [hc]
    have hm2 : m = cap := by simpa using hm
    have hC : Try.prog.cellsOf 50 = 5 := by kernel_rfl
    have key : ∀ i, i < len → ∃ (c : Cel) (kv : Value), w5 W (a.add (i * 5)) c kv ∧ Sp W W.heap.size kv c.ks ∧ fitC c := by
      intro i hil
      obtain ⟨cs', hce, htr⟩ := hi i (by omega)
      obtain ⟨c, kv, rfl, hsp, hfit⟩ := one_cel htr
      rw [hC] at hce
      obtain ⟨_, _, hat⟩ := World.cells?_some hce
      exact ⟨c, kv, ⟨hat 0 (by omega), hat 1 (by omega), hat 2 (by omega), hat 3 (by omega), hat 4 (by omega)⟩, hsp, hfit⟩
    have key2 : ∀ i, i < len → ∃ c : Cel, (∃ b o, a = ⟨b, o, none⟩ ∧ b < W.heap.size ∧ CelAt W W.heap.size b (o + i * 5) c) ∧ fitC c := by
      intro i hil
      obtain ⟨_, _, hw0, _, _⟩ := key 0 (by omega)
      have h00 := hw0.1
      rw [Nat.zero_mul] at h00
      obtain ⟨b, o, rfl, hb⟩ := plain_of (a := a) (by rw [add_zero'] at h00; exact h00)
      obtain ⟨c, kv, ⟨q0, q1, q2, q3, q4⟩, hsp, hfit⟩ := key i hil
      simp only [addAt] at q0 q1 q2 q3 q4
      exact ⟨c, ⟨b, o, rfl, hb, q0, q1, q2, q3, kv, q4, hsp⟩, hfit⟩
    let f : Nat → Cel := fun i => if h : i < len then Classical.choose (key2 i h) else ⟨⟨0, 0, ⟨#[]⟩, ⟨#[]⟩⟩, []⟩
    have hfx : ∀ i, i < len → (∃ b o, a = ⟨b, o, none⟩ ∧ b < W.heap.size ∧ CelAt W W.heap.size b (o + i * 5) (f i)) ∧ fitC (f i) := by
      intro i h
      have := Classical.choose_spec (key2 i h)
      show (∃ b o, _ ∧ _ ∧ CelAt W _ _ _ (dite _ _ _)) ∧ fitC (dite _ _ _)
      rw [dif_pos h]
      exact this
    refine ⟨(List.range len).map f, rfl, ⟨some a, cap, by rw [List.length_map, List.length_range], by rw [List.length_map, List.length_range]; exact hlc, fun j t ht => ?_⟩, by rw [List.length_map, List.length_range]; omega, fun t ht => ?_⟩
    · rw [List.getElem?_map] at ht
      obtain ⟨i, hi', rfl⟩ := Option.map_eq_some_iff.1 ht
      obtain ⟨h1, h2⟩ := List.getElem?_eq_some_iff.1 hi'
      rw [List.length_range] at h1
      rw [List.getElem_range] at h2
      subst h2
      obtain ⟨⟨b, o, rfl, e2, e3⟩, _⟩ := hfx j h1
      exact ⟨b, o, rfl, e2, e3⟩
    · obtain ⟨i, hi', rfl⟩ := List.mem_map.1 ht
      exact (hfx i (List.mem_range.1 hi')).2
end Go.Proofs.Ytoejegndbcbkmaa
