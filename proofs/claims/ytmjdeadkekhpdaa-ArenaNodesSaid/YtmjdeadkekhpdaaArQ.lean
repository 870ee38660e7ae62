/-
  The program's Paths: what its closure finds and leaves.
-/
import Derived.Test.YtmjdeadkekhpdaaPtu
import Derived.Test.YtmjdeadkekhpdaaArC
import Derived.ArgAppend
import Derived.Deep.RegionLaw
import Derived.Deep.AppendLies
import Derived.Laws.OwnMore
namespace Go.Proofs.Ytmjdeadkekhpdaa
open Go.RowKit

/-- Blocks from B on that are neither row's. -/
def Sq2 (B : Nat) (w : World) (vo vp : Value) (q : Nat) : Prop := B ≤ q ∧ q < w.heap.size ∧ vo.ownBlock ≠ some q ∧ vp.ownBlock ≠ some q
/-- What the closure finds and leaves: the variables of the kind, of the list, of the path, its own; the list's row and the path's, from B on. -/
structure PaSt (w : World) (kb lb pb wb B : Nat) (kind : Int) (vo : Value) (L : List (List Int)) (vp : Value) (P : List Int) : Prop where
  hk : w.heap[kb]? = some (.cells #[.int .i64 kind] 3 (0, 0))
  hl : w.heap[lb]? = some (.cells #[vo] 51 (0, 0))
  hp : w.heap[pb]? = some (.cells #[vp] 45 (0, 0))
  hw : w.heap[wb]? = some (.cells #[.func (.func 42) #[] #[.pointer (some ⟨kb, 0, none⟩), .pointer (some ⟨lb, 0, none⟩), .pointer (some ⟨pb, 0, none⟩), .pointer (some ⟨wb, 0, none⟩)]] 72 (0, 0))
  row : ∃ ps, w.ownsRow B 45 1 vo L.length ps ∧ PpF w (Sq2 B w vo vp) ps L
  path : w.ownsRow B 3 1 vp P.length (ints P)
  ap : ∀ g, vo.ownBlock = some g → vp.ownBlock ≠ some g
/-- The four variables lie in four blocks ahead of B. -/
def Four (kb lb pb wb B0 B : Nat) : Prop := (B0 ≤ kb ∧ B0 ≤ lb ∧ B0 ≤ pb ∧ B0 ≤ wb) ∧ (kb < B ∧ lb < B ∧ pb < B ∧ wb < B) ∧ kb ≠ lb ∧ kb ≠ pb ∧ lb ≠ pb ∧ wb ≠ lb ∧ wb ≠ pb
theorem PpF.keepB {w w' : World} {S S' : Nat → Prop} (hS : ∀ q, S q → S' q) (hk : ∀ b, S b → w'.heap[b]? = w.heap[b]?) {vs : List Value} {f : List (List Int)} (h : PpF w S vs f) : PpF w' S' vs f :=
  h.keep hS fun p hp => World.cell?_of_block (w := w) (hk p.block hp)
theorem Sl1.keepB {w w' : World} {S S' : Nat → Prop} {v : Value} {l : List Int} (h : Sl1 w S v l) (hS : ∀ q, S q → S' q) (hk : ∀ b, S b → w'.heap[b]? = w.heap[b]?) : Sl1 w' S' v l :=
  h.keep hS fun p hp => World.cell?_of_block (w := w) (hk p.block hp)
/-- One path more. -/
theorem PaSt.put {w w1 w4 : World} {kb lb pb wb B0 B : Nat} {kind : Int} {vo vp u v4 : Value} {L : List (List Int)} {P : List Int} {ps : List Value} {ob : Obj} (h : PaSt w kb lb pb wb B kind vo L vp P) (h4 : Four kb lb pb wb B0 B) (hB : B ≤ w.heap.size)
    (hr : w.ownsRow B 45 1 vo L.length ps) (hf : PpF w (Sq2 B w vo vp) ps L) (hg1 : w.grownBy w1 none) (hu : Sl1 w1 (fun q => w.heap.size ≤ q ∧ q < w1.heap.size) u P)
    (ho4 : w4.ownsRow B 45 1 v4 (L.length + 1) (ps ++ [u])) (hg4 : (w1.alloc ob).grownBy w4 vo.ownBlock) (hat4 : v4.ownBlock = vo.ownBlock ∨ v4.ownBlock = some (w1.heap.size + 1)) :
    PaSt (w4.setCell ⟨lb, 0, none⟩ v4) kb lb pb wb B kind v4 (L ++ [P]) vp P ∧ Below B0 w (w4.setCell ⟨lb, 0, none⟩ v4) := by
  obtain ⟨hk, hl, hp, hw, _, path, ap⟩ := h
  obtain ⟨⟨b1, b2, b3, b4⟩, ⟨c1, c2, c3, c4⟩, d1, d2, d3, d4, d5⟩ := h4
  have hs1 := hg1.size
  have hsa : (w1.alloc ob).heap.size = w1.heap.size + 1 := by simp
  have hs4 := hg4.size
  have hsz : (w4.setCell ⟨lb, 0, none⟩ v4).heap.size = w4.heap.size := by simp [World.setCell]
  have hrl := hr.lt
  have hpl := path.lt
  have h4l := ho4.lt
  have hst : ∀ b, b < w1.heap.size → b ≠ lb → vo.ownBlock ≠ some b → (w4.setCell ⟨lb, 0, none⟩ v4).heap[b]? = w1.heap[b]? := by
    intro b h1 h2 h3
    rw [Below.heap_setCell _ _ _ _ h2, hg4.block b (by omega) (fun e => h3 e.symm), Below.heap_alloc _ _ _ h1]
  have hst0 : ∀ b, b < w.heap.size → b ≠ lb → vo.ownBlock ≠ some b → (w4.setCell ⟨lb, 0, none⟩ v4).heap[b]? = w.heap[b]? := fun b h1 h2 h3 => (hst b (by omega) h2 h3).trans (hg1.block b h1 (by simp))
  have hvo : ∀ b, b < B → vo.ownBlock ≠ some b := fun b hb e => by have := (hrl b e).1; omega
  have hl4 : w4.heap[lb]? = some (.cells #[vo] 51 (0, 0)) := by
    rw [hg4.block lb (by have := heap_lt hl; omega) (fun e => hvo lb c2 e.symm), Below.heap_alloc _ _ _ (by have := heap_lt hl; omega), hg1.block lb (heap_lt hl) (by simp)]
    exact hl
  have hap : ∀ g, v4.ownBlock = some g → vp.ownBlock ≠ some g := by
    intro g hg
    rcases hat4 with h | h
    · exact ap g (by rw [← h]; exact hg)
    · rw [h] at hg; injection hg with hg; intro e; have := (hpl g e).2; omega
  have hv4 : ∀ q, q < w1.heap.size → vo.ownBlock ≠ some q → v4.ownBlock ≠ some q := by
    intro q h1 h2
    rcases hat4 with h | h
    · rw [h]; exact h2
    · rw [h]; intro e; injection e with e; omega
  refine ⟨⟨?_, ?_, ?_, ?_, ⟨ps ++ [u], ?_, ?_⟩, ?_, hap⟩, ?_⟩
  · rw [hst0 kb (heap_lt hk) d1 (hvo kb c1)]; exact hk
  · rw [block_set _ hl4]; rfl
  · rw [hst0 pb (heap_lt hp) (Ne.symm d3) (hvo pb c3)]; exact hp
  · rw [hst0 wb (heap_lt hw) d4 (hvo wb c4)]; exact hw
  · rw [List.length_append]
    exact own_setCell ho4 _ _ fun g hg => by have := (h4l g hg).1; simp only; omega
  · refine PpF.snoc (hu.keepB (fun q hq => ⟨by omega, by omega, hv4 q hq.2 (fun e => by have := (hrl q e).2; omega), fun e => by have := (hpl q e).2; omega⟩) fun b hb => hst b hb.2 (by omega) (fun e => by have := (hrl b e).2; omega)) (hf.keepB (fun q hq => ⟨hq.1, by have := hq.2.1; omega, hv4 q (by have := hq.2.1; omega) hq.2.2.1, hq.2.2.2⟩) fun b hb => hst0 b hb.2.1 (by have := hb.1; omega) hb.2.2.1)
  · have h1 : w4.ownsRow B 3 1 vp P.length (ints P) := ((path.kept hg1 (by
      cases vp.ownBlock with
      | none => exact .inl rfl
      | some g => exact .inr (by simp))).alloc ob).kept hg4 (by
      cases hv : vp.ownBlock with
      | none => exact .inl rfl
      | some g => exact .inr fun e => ap g e.symm hv)
    exact own_setCell h1 _ _ fun g hg => by have := (hpl g hg).1; simp only; omega
  · exact (((Below.refl B0 w).grown hg1 (by omega) (by simp)).alloc (by omega) ob |>.grown hg4 (by omega) (fun g hg => by have := (hrl g hg).1; omega)).setCell b2 _
/-- One step down. -/
theorem PaSt.push {w w4 : World} {kb lb pb wb B0 B : Nat} {kind i : Int} {vo vp v4 : Value} {L : List (List Int)} {P : List Int} {ob : Obj} (h : PaSt w kb lb pb wb B kind vo L vp P) (h4 : Four kb lb pb wb B0 B) (hB : B ≤ w.heap.size)
    (ho4 : w4.ownsRow B 3 1 v4 (P.length + 1) (ints P ++ [.int .i64 i])) (hg4 : (w.alloc ob).grownBy w4 vp.ownBlock) (hat4 : v4.ownBlock = vp.ownBlock ∨ v4.ownBlock = some (w.heap.size + 1)) :
    PaSt (w4.setCell ⟨pb, 0, none⟩ v4) kb lb pb wb B kind vo L v4 (P ++ [i]) ∧ Below B0 w (w4.setCell ⟨pb, 0, none⟩ v4) := by
  obtain ⟨hk, hl, hp, hw, ⟨ps, hr, hf⟩, path, ap⟩ := h
  obtain ⟨⟨b1, b2, b3, b4⟩, ⟨c1, c2, c3, c4⟩, d1, d2, d3, d4, d5⟩ := h4
  have hsa : (w.alloc ob).heap.size = w.heap.size + 1 := by simp
  have hs4 := hg4.size
  have hsz : (w4.setCell ⟨pb, 0, none⟩ v4).heap.size = w4.heap.size := by simp [World.setCell]
  have hrl := hr.lt
  have hpl := path.lt
  have h4l := ho4.lt
  have hst : ∀ b, b < w.heap.size → b ≠ pb → vp.ownBlock ≠ some b → (w4.setCell ⟨pb, 0, none⟩ v4).heap[b]? = w.heap[b]? := by
    intro b h1 h2 h3
    rw [Below.heap_setCell _ _ _ _ h2, hg4.block b (by omega) (fun e => h3 e.symm), Below.heap_alloc _ _ _ h1]
  have hvp : ∀ b, b < B → vp.ownBlock ≠ some b := fun b hb e => by have := (hpl b e).1; omega
  have hp4 : w4.heap[pb]? = some (.cells #[vp] 45 (0, 0)) := by
    rw [hg4.block pb (by have := heap_lt hp; omega) (fun e => hvp pb c3 e.symm), Below.heap_alloc _ _ _ (heap_lt hp)]
    exact hp
  have hv4 : ∀ q, q < w.heap.size → vp.ownBlock ≠ some q → v4.ownBlock ≠ some q := by
    intro q h1 h2
    rcases hat4 with h | h
    · rw [h]; exact h2
    · rw [h]; intro e; injection e with e; omega
  refine ⟨⟨?_, ?_, ?_, ?_, ⟨ps, ?_, ?_⟩, ?_, fun g hg => hv4 g (hrl g hg).2 (ap g hg)⟩, ?_⟩
  · rw [hst kb (heap_lt hk) d2 (hvp kb c1)]; exact hk
  · rw [hst lb (heap_lt hl) d3 (hvp lb c2)]; exact hl
  · rw [block_set _ hp4]; rfl
  · rw [hst wb (heap_lt hw) d5 (hvp wb c4)]; exact hw
  · have h1 : w4.ownsRow B 45 1 vo L.length ps := (hr.alloc ob).kept hg4 (by
      cases hv : vo.ownBlock with
      | none => exact .inl rfl
      | some g => exact .inr fun e => ap g hv e.symm)
    exact own_setCell h1 _ _ fun g hg => by have := (hrl g hg).1; simp only; omega
  · exact hf.keepB (fun q hq => ⟨hq.1, by have := hq.2.1; omega, hq.2.2.1, hv4 q hq.2.1 hq.2.2.2⟩) fun b hb => hst b hb.2.1 (by have := hb.1; omega) hb.2.2.2
  · have e : ints (P ++ [i]) = ints P ++ [.int .i64 i] := by simp [ints]
    rw [e, List.length_append]
    exact own_setCell ho4 _ _ fun g hg => by have := (h4l g hg).1; simp only; omega
  · exact (((Below.refl B0 w).alloc (by omega) ob).grown hg4 (by omega) (fun g hg => by have := (hpl g hg).1; omega)).setCell b3 _
/-- One step up. -/
theorem PaSt.pop {w : World} {kb lb pb wb B0 B g cap : Nat} {kind i : Int} {vo : Value} {L : List (List Int)} {P : List Int} (h : PaSt w kb lb pb wb B kind vo L (.slice (some ⟨g, 0, none⟩) (P.length + 1) cap) (P ++ [i])) (h4 : Four kb lb pb wb B0 B) :
    PaSt (w.setCell ⟨pb, 0, none⟩ (.slice (some ⟨g, 0, none⟩) P.length cap)) kb lb pb wb B kind vo L (.slice (some ⟨g, 0, none⟩) P.length cap) P ∧ Below B0 w (w.setCell ⟨pb, 0, none⟩ (.slice (some ⟨g, 0, none⟩) P.length cap)) := by
  obtain ⟨hk, hl, hp, hw, ⟨ps, hr, hf⟩, path, ap⟩ := h
  obtain ⟨⟨b1, b2, b3, b4⟩, ⟨c1, c2, c3, c4⟩, d1, d2, d3, d4, d5⟩ := h4
  have hsz : (w.setCell ⟨pb, 0, none⟩ (.slice (some ⟨g, 0, none⟩) P.length cap)).heap.size = w.heap.size := by simp [World.setCell]
  have hrl := hr.lt
  have hpl := path.lt
  have e : ints (P ++ [i]) = ints P ++ [.int .i64 i] := by simp [ints]
  have hgB := (hpl g rfl).1
  have path2 : w.ownsRow B 3 1 (.slice (some ⟨g, 0, none⟩) P.length cap) P.length (ints P) := by
    refine ⟨by simp [ints], ?_⟩
    rcases path.2 with ⟨h1, _⟩ | ⟨g', cap', cur, h1, hb, hh, hn, hm, hcs, ht⟩
    · simp at h1
    · injection h1 with h1 _ h2
      injection h1 with h1
      injection h1 with h1
      subst h1 h2
      refine .inr ⟨g, cap, cur, rfl, hb, hh, by rw [List.length_append] at hn; omega, hm, hcs, ?_⟩
      have h3 := congrArg (List.take (P.length * 1)) ht
      rw [List.take_take, e] at h3
      have h4 : min (P.length * 1) ((P ++ [i]).length * 1) = P.length * 1 := by simp
      rw [h4] at h3
      rw [h3]
      have h5 : P.length * 1 = (ints P).length := by simp [ints]
      rw [h5, List.take_left]
  refine ⟨⟨?_, ?_, ?_, ?_, ⟨ps, ?_, ?_⟩, ?_, ap⟩, ?_⟩
  · rw [Below.heap_setCell _ _ _ _ d2]; exact hk
  · rw [Below.heap_setCell _ _ _ _ d3]; exact hl
  · rw [block_set _ hp]; rfl
  · rw [Below.heap_setCell _ _ _ _ d5]; exact hw
  · exact own_setCell hr _ _ fun g hg => by have := (hrl g hg).1; simp only; omega
  · exact hf.keepB (fun q hq => ⟨hq.1, by have := hq.2.1; omega, hq.2.2.1, hq.2.2.2⟩) fun b hb => Below.heap_setCell _ _ _ _ (by have := hb.1; simp only; omega)
  · exact own_setCell path2 _ _ fun g' hg' => by injection hg' with hg'; simp only at hg' ⊢; omega
  · exact (Below.refl B0 w).setCell b3 _
/-- A copy of a path: in a block of its own. -/
theorem path_copy {w : World} {B g cap : Nat} {P : List Int} (ty : TypeId) (h : w.ownsRow B 3 1 (.slice (some ⟨g, 0, none⟩) P.length cap) P.length (ints P)) (hP : P.length ≤ 1000000000) (h0 : 0 < P.length) :
    ∃ b c w', (Builtin.append_ #[45, 45] ty #[.slice (some ⟨g, 0, none⟩) 0 0, .slice (some ⟨g, 0, none⟩) P.length cap]).run Try.prog w = .ok (.slice (some ⟨b, 0, none⟩) P.length c) w' ∧ Sl1 w' (fun q => w.heap.size ≤ q ∧ q < w'.heap.size) (.slice (some ⟨b, 0, none⟩) P.length c) P ∧ w.grownBy w' none := by
  obtain ⟨i0, hi, hz0, hz1, hz2⟩ := info_parts infoI
  obtain ⟨v', w', h1, h2, h3⟩ := run_append_arg_grows (P := Try.prog) w 45 ty 3 i0 _ 1 8 Try.underlying45 hi hz0 hz1 hz2 rfl (by omega) ⟨g, 0, none⟩ 0 0 [] rfl (fun j u hu => by simp at hu) ⟨g, 0, none⟩ P.length cap (ints P) (by simp [ints]) (fun j u hu => h.cells (g := g) rfl j u hu) (by omega) (by unfold maxLen; omega) (by omega)
  rw [Nat.zero_add, List.nil_append] at h2
  obtain ⟨b, c, hv, _, _⟩ := h2.form h0
  subst hv
  exact ⟨b, c, w', h1, Sl1.made h2 h0 fun g' hg' => h2.lt g' hg', h3⟩
/-- .. as a step of a region that draws. -/
theorem step_copy {ops : Array Oper} {o : Oper} {a : Act} {w : World} {K : Act → World → Prop} {Q : Exit → Act → World → Prop} {E : Prop} (hg : o.guard = none) (s x : Operand) (hop : o.op = Op.call { callee := Callee.builtin Builtin.append, args := #[s, x], argTypes := #[45, 45] })
    (B g cap : Nat) (P : List Int) (hs : a.eval s = .slice (some ⟨g, 0, none⟩) 0 0) (hx : a.eval x = .slice (some ⟨g, 0, none⟩) P.length cap) (h : w.ownsRow B 3 1 (.slice (some ⟨g, 0, none⟩) P.length cap) P.length (ints P)) (hP : P.length ≤ 1000000000) (h0 : 0 < P.length)
    (hK : ∀ b c w', Sl1 w' (fun q => w.heap.size ≤ q ∧ q < w'.heap.size) (.slice (some ⟨b, 0, none⟩) P.length c) P → w.grownBy w' none → K (a.put o.dst (.slice (some ⟨b, 0, none⟩) P.length c)) w') : if Region.wanted o (yielded ops a.tmps) = true then Oper.wp Try.prog o a w K Q else E := by
  have hw : Region.wanted o (yielded ops a.tmps) = true := by simp [Region.wanted, hg]
  rw [if_pos hw]
  obtain ⟨b, c, w', hr, h1, h2⟩ := path_copy o.type h hP h0
  unfold Oper.wp
  simp [execOp, hop, resolve, invoke, builtin, hs, hx, hr, Result.andThen]
  exact hK b c w' h1 h2
theorem step_copy_nil {ops : Array Oper} {o : Oper} {a : Act} {w : World} {K : Act → World → Prop} {Q : Exit → Act → World → Prop} {E : Prop} (hg : o.guard = none) (s x : Operand) (hop : o.op = Op.call { callee := Callee.builtin Builtin.append, args := #[s, x], argTypes := #[45, 45] })
    (hs : a.eval s = .slice none 0 0) (hx : a.eval x = .slice none 0 0) (hK : K (a.put o.dst (.slice none 0 0)) w) : if Region.wanted o (yielded ops a.tmps) = true then Oper.wp Try.prog o a w K Q else E := by
  have hw : Region.wanted o (yielded ops a.tmps) = true := by simp [Region.wanted, hg]
  rw [if_pos hw]
  obtain ⟨i0, hi, hz0, hz1, hz2⟩ := info_parts infoI
  have hr := run_append_owned_none (P := Try.prog) (w := w) 0 45 o.type 3 i0 1 Try.underlying45 hi (.slice none 0 0) 0 [] (World.ownsRow_nil _ _ _ _)
  unfold Oper.wp
  simp [execOp, hop, resolve, invoke, builtin, hs, hx, hr, Result.andThen]
  exact hK
end Go.Proofs.Ytmjdeadkekhpdaa
