/-
  The program's Paths: what its closure finds and leaves.
-/
import Derived.Test.YtoejegndbcbkmaaPtu
import Derived.Test.YtoejegndbcbkmaaArC
import Derived.Test.YtoejegndbcbkmaaMgM
import Derived.ArgAppend
import Derived.Deep.AppendLies
import Derived.Deep.DeepCutAuto
import Derived.Deep.RegionLaw
import Derived.Laws.EntriesVeiled
import Derived.Laws.OwnMore
namespace Go.Proofs.Ytoejegndbcbkmaa
open Go.RowKit

/-- Blocks from B on that are neither row's. -/
def Sq2 (B : Nat) (w : World) (vo vp : Value) (q : Nat) : Prop := B ≤ q ∧ q < w.heap.size ∧ vo.ownBlock ≠ some q ∧ vp.ownBlock ≠ some q
/-- What the closure finds and leaves: the variables of the kind, of the list, of the path, its own; the list's row and the path's, from B on. -/
structure PaSt (w : World) (kb lb pb wb B : Nat) (kind : Int) (vo : Value) (L : List (List Int)) (vp : Value) (P : List Int) : Prop where
  hk : w.heap[kb]? = some (.cells #[.int .i64 kind] 3 (0, 0))
  hl : w.heap[lb]? = some (.cells #[vo] 42 (0, 0))
  hp : w.heap[pb]? = some (.cells #[vp] 44 (0, 0))
  hw : w.heap[wb]? = some (.cells #[.func (.func 34) #[] #[.pointer (some ⟨kb, 0, none⟩), .pointer (some ⟨lb, 0, none⟩), .pointer (some ⟨pb, 0, none⟩), .pointer (some ⟨wb, 0, none⟩)]] 58 (0, 0))
  row : ∃ ps, w.ownsRow B 44 1 vo L.length ps ∧ PpF w (Sq2 B w vo vp) ps L
  path : w.ownsRow B 3 1 vp P.length (ints P)
  ap : ∀ g, vo.ownBlock = some g → vp.ownBlock ≠ some g
/-- The four variables lie in four blocks ahead of B. -/
def Four (kb lb pb wb B0 B : Nat) : Prop := (B0 ≤ kb ∧ B0 ≤ lb ∧ B0 ≤ pb ∧ B0 ≤ wb) ∧ (kb < B ∧ lb < B ∧ pb < B ∧ wb < B) ∧ kb ≠ lb ∧ kb ≠ pb ∧ lb ≠ pb ∧ wb ≠ lb ∧ wb ≠ pb
theorem PpF.keepB {w w' : World} {S S' : Nat → Prop} (hS : ∀ q, S q → S' q) (hk : ∀ b, S b → w'.heap[b]? = w.heap[b]?) {vs : List Value} {f : List (List Int)} (h : PpF w S vs f) : PpF w' S' vs f :=
  h.keep hS fun p hp => World.cell?_of_block (w := w) (hk p.block hp)
theorem Sl1.keepB {w w' : World} {S S' : Nat → Prop} {v : Value} {l : List Int} (h : Sl1 w S v l) (hS : ∀ q, S q → S' q) (hk : ∀ b, S b → w'.heap[b]? = w.heap[b]?) : Sl1 w' S' v l :=
  h.keep hS fun p hp => World.cell?_of_block (w := w) (hk p.block hp)
/-- One path more. -/
theorem PaSt.put {w w1 w4 : World} {kb lb pb wb B0 B : Nat} {kind : Int} {vo vp u v4 : Value} {L : List (List Int)} {P : List Int} {ps : List Value} {ob : Obj} (h : PaSt w kb lb pb wb B kind vo L vp P) (h4 : Four kb lb pb wb B0 B) (hB : B ≤ w.heap.size)
    (hr : w.ownsRow B 44 1 vo L.length ps) (hf : PpF w (Sq2 B w vo vp) ps L) (hg1 : w.grownBy w1 none) (hu : Sl1 w1 (fun q => w.heap.size ≤ q ∧ q < w1.heap.size) u P)
    (ho4 : w4.ownsRow B 44 1 v4 (L.length + 1) (ps ++ [u])) (hg4 : (w1.alloc ob).grownBy w4 vo.ownBlock) (hat4 : v4.ownBlock = vo.ownBlock ∨ v4.ownBlock = some (w1.heap.size + 1)) :
    PaSt (w4.setCell ⟨lb, 0, none⟩ v4) kb lb pb wb B kind v4 (L ++ [P]) vp P ∧ Below B0 w (w4.setCell ⟨lb, 0, none⟩ v4) := by
  obtain ⟨hk, hl, hp, hw, _, path, ap⟩ := h
  obtain ⟨⟨b1, b2, b3, b4⟩, ⟨c1, c2, c3, c4⟩, d1, d2, d3, d4, d5⟩ := h4
  have hs1 := hg1.size
  have hsa : (w1.alloc ob).heap.size = w1.heap.size + 1 := by simp
  have hs4 := hg4.size
  have hsz : (w4.setCell ⟨lb, 0, none⟩ v4).heap.size = w4.heap.size := by simp [World.setCell]
  have hrl := hr.lt
  have hpl := path.lt
  have h4l := ho4.lt
  have hst : ∀ b, b < w1.heap.size → b ≠ lb → vo.ownBlock ≠ some b → (w4.setCell ⟨lb, 0, none⟩ v4).heap[b]? = w1.heap[b]? := by
    intro b h1 h2 h3
    rw [Below.heap_setCell _ _ _ _ h2, hg4.block b (by omega) (fun e => h3 e.symm), Below.heap_alloc _ _ _ h1]
  have hst0 : ∀ b, b < w.heap.size → b ≠ lb → vo.ownBlock ≠ some b → (w4.setCell ⟨lb, 0, none⟩ v4).heap[b]? = w.heap[b]? := fun b h1 h2 h3 => (hst b (by omega) h2 h3).trans (hg1.block b h1 (by simp))
  have hvo : ∀ b, b < B → vo.ownBlock ≠ some b := fun b hb e => by have := (hrl b e).1; omega
  have hl4 : w4.heap[lb]? = some (.cells #[vo] 42 (0, 0)) := by
    rw [hg4.block lb (by have := heap_lt hl; omega) (fun e => hvo lb c2 e.symm), Below.heap_alloc _ _ _ (by have := heap_lt hl; omega), hg1.block lb (heap_lt hl) (by simp)]
    exact hl
  have hap : ∀ g, v4.ownBlock = some g → vp.ownBlock ≠ some g := by
    intro g hg
    rcases hat4 with h | h
    · exact ap g (by rw [← h]; exact hg)
    · rw [h] at hg; injection hg with hg; intro e; have := (hpl g e).2; omega
  have hv4 : ∀ q, q < w1.heap.size → vo.ownBlock ≠ some q → v4.ownBlock ≠ some q := by
    intro q h1 h2
    rcases hat4 with h | h
    · rw [h]; exact h2
    · rw [h]; intro e; injection e with e; omega
  refine ⟨⟨?_, ?_, ?_, ?_, ⟨ps ++ [u], ?_, ?_⟩, ?_, hap⟩, ?_⟩
  · rw [hst0 kb (heap_lt hk) d1 (hvo kb c1)]; exact hk
  · rw [block_set _ hl4]; rfl
  · rw [hst0 pb (heap_lt hp) (Ne.symm d3) (hvo pb c3)]; exact hp
  · rw [hst0 wb (heap_lt hw) d4 (hvo wb c4)]; exact hw
  · rw [List.length_append]
    exact own_setCell ho4 _ _ fun g hg => by have := (h4l g hg).1; simp only; omega
  · refine PpF.snoc (hu.keepB (fun q hq => ⟨by omega, by omega, hv4 q hq.2 (fun e => by have := (hrl q e).2; omega), fun e => by have := (hpl q e).2; omega⟩) fun b hb => hst b hb.2 (by omega) (fun e => by have := (hrl b e).2; omega)) (hf.keepB (fun q hq => ⟨hq.1, by have := hq.2.1; omega, hv4 q (by have := hq.2.1; omega) hq.2.2.1, hq.2.2.2⟩) fun b hb => hst0 b hb.2.1 (by have := hb.1; omega) hb.2.2.1)
  · have h1 : w4.ownsRow B 3 1 vp P.length (ints P) := ((path.kept hg1 (by
      cases vp.ownBlock with
      | none => exact .inl rfl
      | some g => exact .inr (by simp))).alloc ob).kept hg4 (by
      cases hv : vp.ownBlock with
      | none => exact .inl rfl
      | some g => exact .inr fun e => ap g e.symm hv)
    exact own_setCell h1 _ _ fun g hg => by have := (hpl g hg).1; simp only; omega
  · exact (((Below.refl B0 w).grown hg1 (by omega) (by simp)).alloc (by omega) ob |>.grown hg4 (by omega) (fun g hg => by have := (hrl g hg).1; omega)).setCell b2 _
/-- One step down. -/
theorem PaSt.push {w w4 : World} {kb lb pb wb B0 B : Nat} {kind i : Int} {vo vp v4 : Value} {L : List (List Int)} {P : List Int} {ob : Obj} (h : PaSt w kb lb pb wb B kind vo L vp P) (h4 : Four kb lb pb wb B0 B) (hB : B ≤ w.heap.size)
    (ho4 : w4.ownsRow B 3 1 v4 (P.length + 1) (ints P ++ [.int .i64 i])) (hg4 : (w.alloc ob).grownBy w4 vp.ownBlock) (hat4 : v4.ownBlock = vp.ownBlock ∨ v4.ownBlock = some (w.heap.size + 1)) :
    PaSt (w4.setCell ⟨pb, 0, none⟩ v4) kb lb pb wb B kind vo L v4 (P ++ [i]) ∧ Below B0 w (w4.setCell ⟨pb, 0, none⟩ v4) := by
  obtain ⟨hk, hl, hp, hw, ⟨ps, hr, hf⟩, path, ap⟩ := h
  obtain ⟨⟨b1, b2, b3, b4⟩, ⟨c1, c2, c3, c4⟩, d1, d2, d3, d4, d5⟩ := h4
  have hsa : (w.alloc ob).heap.size = w.heap.size + 1 := by simp
  have hs4 := hg4.size
  have hsz : (w4.setCell ⟨pb, 0, none⟩ v4).heap.size = w4.heap.size := by simp [World.setCell]
  have hrl := hr.lt
  have hpl := path.lt
  have h4l := ho4.lt
  have hst : ∀ b, b < w.heap.size → b ≠ pb → vp.ownBlock ≠ some b → (w4.setCell ⟨pb, 0, none⟩ v4).heap[b]? = w.heap[b]? := by
    intro b h1 h2 h3
    rw [Below.heap_setCell _ _ _ _ h2, hg4.block b (by omega) (fun e => h3 e.symm), Below.heap_alloc _ _ _ h1]
  have hvp : ∀ b, b < B → vp.ownBlock ≠ some b := fun b hb e => by have := (hpl b e).1; omega
  have hp4 : w4.heap[pb]? = some (.cells #[vp] 44 (0, 0)) := by
    rw [hg4.block pb (by have := heap_lt hp; omega) (fun e => hvp pb c3 e.symm), Below.heap_alloc _ _ _ (heap_lt hp)]
    exact hp
  have hv4 : ∀ q, q < w.heap.size → vp.ownBlock ≠ some q → v4.ownBlock ≠ some q := by
    intro q h1 h2
    rcases hat4 with h | h
    · rw [h]; exact h2
    · rw [h]; intro e; injection e with e; omega
  refine ⟨⟨?_, ?_, ?_, ?_, ⟨ps, ?_, ?_⟩, ?_, fun g hg => hv4 g (hrl g hg).2 (ap g hg)⟩, ?_⟩
  · rw [hst kb (heap_lt hk) d2 (hvp kb c1)]; exact hk
  · rw [hst lb (heap_lt hl) d3 (hvp lb c2)]; exact hl
  · rw [block_set _ hp4]; rfl
  · rw [hst wb (heap_lt hw) d5 (hvp wb c4)]; exact hw
  · have h1 : w4.ownsRow B 44 1 vo L.length ps := (hr.alloc ob).kept hg4 (by
      cases hv : vo.ownBlock with
      | none => exact .inl rfl
      | some g => exact .inr fun e => ap g hv e.symm)
    exact own_setCell h1 _ _ fun g hg => by have := (hrl g hg).1; simp only; omega
  · exact hf.keepB (fun q hq => ⟨hq.1, by have := hq.2.1; omega, hq.2.2.1, hv4 q hq.2.1 hq.2.2.2⟩) fun b hb => hst b hb.2.1 (by have := hb.1; omega) hb.2.2.2
  · have e : ints (P ++ [i]) = ints P ++ [.int .i64 i] := by simp [ints]
    rw [e, List.length_append]
    exact own_setCell ho4 _ _ fun g hg => by have := (h4l g hg).1; simp only; omega
  · exact (((Below.refl B0 w).alloc (by omega) ob).grown hg4 (by omega) (fun g hg => by have := (hpl g hg).1; omega)).setCell b3 _
/-- One step up. -/
theorem PaSt.pop {w : World} {kb lb pb wb B0 B g cap : Nat} {kind i : Int} {vo : Value} {L : List (List Int)} {P : List Int} (h : PaSt w kb lb pb wb B kind vo L (.slice (some ⟨g, 0, none⟩) (P.length + 1) cap) (P ++ [i])) (h4 : Four kb lb pb wb B0 B) :
    PaSt (w.setCell ⟨pb, 0, none⟩ (.slice (some ⟨g, 0, none⟩) P.length cap)) kb lb pb wb B kind vo L (.slice (some ⟨g, 0, none⟩) P.length cap) P ∧ Below B0 w (w.setCell ⟨pb, 0, none⟩ (.slice (some ⟨g, 0, none⟩) P.length cap)) := by
  obtain ⟨hk, hl, hp, hw, ⟨ps, hr, hf⟩, path, ap⟩ := h
  obtain ⟨⟨b1, b2, b3, b4⟩, ⟨c1, c2, c3, c4⟩, d1, d2, d3, d4, d5⟩ := h4
  have hsz : (w.setCell ⟨pb, 0, none⟩ (.slice (some ⟨g, 0, none⟩) P.length cap)).heap.size = w.heap.size := by simp [World.setCell]
  have hrl := hr.lt
  have hpl := path.lt
  have e : ints (P ++ [i]) = ints P ++ [.int .i64 i] := by simp [ints]
  have hgB := (hpl g rfl).1
  have path2 : w.ownsRow B 3 1 (.slice (some ⟨g, 0, none⟩) P.length cap) P.length (ints P) := by
    refine ⟨by simp [ints], ?_⟩
    rcases path.2 with ⟨h1, _⟩ | ⟨g', cap', cur, h1, hb, hh, hn, hm, hcs, ht⟩
    · simp at h1
    · injection h1 with h1 _ h2
      injection h1 with h1
      injection h1 with h1
      subst h1 h2
      refine .inr ⟨g, cap, cur, rfl, hb, hh, by rw [List.length_append] at hn; omega, hm, hcs, ?_⟩
      have h3 := congrArg (List.take (P.length * 1)) ht
      rw [List.take_take, e] at h3
      have h4 : min (P.length * 1) ((P ++ [i]).length * 1) = P.length * 1 := by simp
      rw [h4] at h3
      rw [h3]
      have h5 : P.length * 1 = (ints P).length := by simp [ints]
      rw [h5, List.take_left]
  refine ⟨⟨?_, ?_, ?_, ?_, ⟨ps, ?_, ?_⟩, ?_, ap⟩, ?_⟩
  · rw [Below.heap_setCell _ _ _ _ d2]; exact hk
  · rw [Below.heap_setCell _ _ _ _ d3]; exact hl
  · rw [block_set _ hp]; rfl
  · rw [Below.heap_setCell _ _ _ _ d5]; exact hw
  · exact own_setCell hr _ _ fun g hg => by have := (hrl g hg).1; simp only; omega
  · exact hf.keepB (fun q hq => ⟨hq.1, by have := hq.2.1; omega, hq.2.2.1, hq.2.2.2⟩) fun b hb => Below.heap_setCell _ _ _ _ (by have := hb.1; simp only; omega)
  · exact own_setCell path2 _ _ fun g' hg' => by injection hg' with hg'; simp only at hg' ⊢; omega
  · exact (Below.refl B0 w).setCell b3 _
/-- A copy of a path: in a block of its own. -/
theorem path_copy {w : World} {B g cap : Nat} {P : List Int} (ty : TypeId) (h : w.ownsRow B 3 1 (.slice (some ⟨g, 0, none⟩) P.length cap) P.length (ints P)) (hP : P.length ≤ 1000000000) (h0 : 0 < P.length) :
    ∃ b c w', (Builtin.append_ #[44, 44] ty #[.slice (some ⟨g, 0, none⟩) 0 0, .slice (some ⟨g, 0, none⟩) P.length cap]).run Try.prog w = .ok (.slice (some ⟨b, 0, none⟩) P.length c) w' ∧ Sl1 w' (fun q => w.heap.size ≤ q ∧ q < w'.heap.size) (.slice (some ⟨b, 0, none⟩) P.length c) P ∧ w.grownBy w' none := by
  obtain ⟨i0, hi, hz0, hz1, hz2⟩ := info_parts infoI
  obtain ⟨v', w', h1, h2, h3⟩ := run_append_arg_grows (P := Try.prog) w 44 ty 3 i0 _ 1 8 Try.underlying44 hi hz0 hz1 hz2 rfl (by omega) ⟨g, 0, none⟩ 0 0 [] rfl (fun j u hu => by simp at hu) ⟨g, 0, none⟩ P.length cap (ints P) (by simp [ints]) (fun j u hu => h.cells (g := g) rfl j u hu) (by omega) (by unfold maxLen; omega) (by omega)
  rw [Nat.zero_add, List.nil_append] at h2
  obtain ⟨b, c, hv, _, _⟩ := h2.form h0
  subst hv
  exact ⟨b, c, w', h1, Sl1.made h2 h0 fun g' hg' => h2.lt g' hg', h3⟩
/-- .. as a step of a region that draws. -/
theorem step_copy {ops : Array Oper} {o : Oper} {a : Act} {w : World} {K : Act → World → Prop} {Q : Exit → Act → World → Prop} {E : Prop} (hg : o.guard = none) (s x : Operand) (hop : o.op = Op.call { callee := Callee.builtin Builtin.append, args := #[s, x], argTypes := #[44, 44] })
    (B g cap : Nat) (P : List Int) (hs : a.eval s = .slice (some ⟨g, 0, none⟩) 0 0) (hx : a.eval x = .slice (some ⟨g, 0, none⟩) P.length cap) (h : w.ownsRow B 3 1 (.slice (some ⟨g, 0, none⟩) P.length cap) P.length (ints P)) (hP : P.length ≤ 1000000000) (h0 : 0 < P.length)
    (hK : ∀ b c w', Sl1 w' (fun q => w.heap.size ≤ q ∧ q < w'.heap.size) (.slice (some ⟨b, 0, none⟩) P.length c) P → w.grownBy w' none → K (a.put o.dst (.slice (some ⟨b, 0, none⟩) P.length c)) w') : if Region.wanted o (yielded ops a.tmps) = true then Oper.wp Try.prog o a w K Q else E := by
  have hw : Region.wanted o (yielded ops a.tmps) = true := by simp [Region.wanted, hg]
  rw [if_pos hw]
  obtain ⟨b, c, w', hr, h1, h2⟩ := path_copy o.type h hP h0
  unfold Oper.wp
  simp [execOp, hop, resolve, invoke, builtin, hs, hx, hr, Result.andThen]
  exact hK b c w' h1 h2
theorem step_copy_nil {ops : Array Oper} {o : Oper} {a : Act} {w : World} {K : Act → World → Prop} {Q : Exit → Act → World → Prop} {E : Prop} (hg : o.guard = none) (s x : Operand) (hop : o.op = Op.call { callee := Callee.builtin Builtin.append, args := #[s, x], argTypes := #[44, 44] })
    (hs : a.eval s = .slice none 0 0) (hx : a.eval x = .slice none 0 0) (hK : K (a.put o.dst (.slice none 0 0)) w) : if Region.wanted o (yielded ops a.tmps) = true then Oper.wp Try.prog o a w K Q else E := by
  have hw : Region.wanted o (yielded ops a.tmps) = true := by simp [Region.wanted, hg]
  rw [if_pos hw]
  obtain ⟨i0, hi, hz0, hz1, hz2⟩ := info_parts infoI
  have hr := run_append_owned_none (P := Try.prog) (w := w) 0 44 o.type 3 i0 1 Try.underlying44 hi (.slice none 0 0) 0 [] (World.ownsRow_nil _ _ _ _)
  unfold Oper.wp
  simp [execOp, hop, resolve, invoke, builtin, hs, hx, hr, Result.andThen]
  exact hK
end Go.Proofs.Ytoejegndbcbkmaa
/-
  The program's Paths: what its closure tells of trees.
-/
namespace Go.Proofs.Ytoejegndbcbkmaa
open Go.RowKit

theorem own_cap {w : World} {base : Nat} {e : TypeId} {g n cap : Nat} {xs : List Value} (h : w.ownsRow base e 1 (.slice (some ⟨g, 0, none⟩) n cap) n xs) : n ≤ cap := by
  rcases h.2 with ⟨h1, _⟩ | ⟨g', cap', cur, h1, _, _, h2, _⟩
  · simp at h1
  · injection h1 with _ _ h1
    rw [h1]
    exact h2
theorem kept_none {w w' : World} {base s n : Nat} {e : TypeId} {v : Value} {xs : List Value} (h : w.ownsRow base e s v n xs) (hg : w.grownBy w' none) : w'.ownsRow base e s v n xs := h.kept hg (by
  cases v.ownBlock with
  | none => exact .inl rfl
  | some g => exact .inr (by simp))
theorem PaSt.drew {w : World} {kb lb pb wb B : Nat} {kind : Int} {vo vp : Value} {L : List (List Int)} {P : List Int} (h : PaSt w kb lb pb wb B kind vo L vp P) (n : Nat) : PaSt (w.drewN n) kb lb pb wb B kind vo L vp P := by
  obtain ⟨a, b, c, d, ⟨ps, e, f⟩, g, i⟩ := h
  exact ⟨a, b, c, d, ⟨ps, e, PpF.keepB (w := w) (w' := w.drewN n) (S := Sq2 B w vo vp) (S' := Sq2 B (w.drewN n) vo vp) (fun _ h => h) (fun _ _ => rfl) f⟩, g, i⟩
def WaPost (kb lb pb wb B0 B : Nat) (kind : Int) (L : List (List Int)) (P : List Int) (t : Tr) (w : World) (e : Ending) (w' : World) : Prop :=
  e = .returned (.tuple #[]) ∧ ∃ vo' vp', PaSt w' kb lb pb wb B kind vo' (L ++ (pathsT kind t).map fun p => P ++ p) vp' P ∧ Below B0 w w'
/-- The contract, for trees of up to so many nodes. -/
def WalkAt (n : Nat) : Prop := ∀ (t : Tr), szT t ≤ n → ∀ (w : World) (Sq : Nat → Prop) (v : Value) (kb lb pb wb B0 B : Nat) (kind : Int) (vo vp : Value) (L : List (List Int)) (P : List Int), Four kb lb pb wb B0 B → B ≤ w.heap.size → Bel Sq B0 → InT w Sq v t →
    PaSt w kb lb pb wb B kind vo L vp P → (P = [] → vp = .slice none 0 0) → L.length + szT t ≤ 1000000 → P.length + szT t ≤ 1000000 →
    Calls Try.prog 34 #[v, .pointer (some ⟨kb, 0, none⟩), .pointer (some ⟨lb, 0, none⟩), .pointer (some ⟨pb, 0, none⟩), .pointer (some ⟨wb, 0, none⟩)] w (WaPost kb lb pb wb B0 B kind L P t w)
set_option maxHeartbeats 12800000 in
set_option maxRecDepth 100000 in
theorem walk_all : ∀ n, n ≤ 1000000 → WalkAt n
  | 0, _ => fun t h => absurd h (by unfold szT; omega)
  | n + 1, hbig => by
    have ih := walk_all n (by omega)
    rintro ⟨x, ks⟩ hn w Sq v kb lb pb wb B0 B kind vo vp L P h4 hB hS hin hst hP0 hLn hPn
    obtain ⟨q, p, A, c, rfl, hq1, c0, c1, c2, c3, c4, hc, hkid⟩ := hin.open
    have hqB := hS q hq1
    have hnil := ptr_nil2 w ⟨q, p, none⟩
    have hsz : szT (x, ks) = 1 + ks.sz := rfl
    have hll := Fr.len_le ks
    obtain ⟨N, hN⟩ : ∃ N, ks.len = N := ⟨_, rfl⟩
    rw [hN] at c4 hll
    have hN1 : N ≤ 1000000 := by omega
    have hst' := hst
    obtain ⟨gk, gl, gp, gw, ⟨ps, hr, hf⟩, path, ap⟩ := hst'
    have ck : w.cell? ⟨kb, 0, none⟩ = some (.int .i64 kind) := cell_of_row w kb 0 _ _ _ gk
    have cl : w.cell? ⟨lb, 0, none⟩ = some vo := cell_of_row w lb 0 _ _ _ gl
    have fl := frozen_of_row w lb 0 _ _ gl
    have cl2 : ∀ n ob, ((w.drewN n).alloc ob).cell? ⟨lb, 0, none⟩ = some vo := fun n ob => (((Below.refl w.heap.size (w.drewN n)).alloc (Nat.le_refl _) ob).cell (p := ⟨lb, 0, none⟩) (heap_lt gl)).trans cl
    have cp : w.cell? ⟨pb, 0, none⟩ = some vp := cell_of_row w pb 0 _ _ _ gp
    have hkw := heap_lt gk
    have hlw := heap_lt gl
    have hpw := heap_lt gp
    have hqw : q < w.heap.size := by have := h4.1.1; omega
    have hcase : kind < 0 ∨ (¬ kind < 0 ∧ x.k = kind ∧ (x.k == kind) = true) ∨ (¬ kind < 0 ∧ x.k ≠ kind ∧ (x.k == kind) = false) := by
      by_cases h1 : kind < 0
      · exact .inl h1
      · by_cases h2 : x.k = kind
        · exact .inr (.inl ⟨h1, h2, by simpa using h2⟩)
        · exact .inr (.inr ⟨h1, h2, by simpa using h2⟩)
    have hvp : (vp = .slice none 0 0 ∧ P = []) ∨ ∃ g cap, vp = .slice (some ⟨g, 0, none⟩) P.length cap ∧ 0 < P.length := by
      rcases path.2 with ⟨h1, h2⟩ | ⟨g, cap, cur, h1, _⟩
      · exact .inl ⟨h1, List.length_eq_zero_iff.1 h2⟩
      · rcases Nat.eq_zero_or_pos P.length with h | h
        · have := hP0 (List.length_eq_zero_iff.1 h)
          rw [this] at h1
          cases h1
        · exact .inr ⟨g, cap, h1, h⟩
    obtain ⟨⟨B1x, B2x, B3x, B4x⟩, ⟨D1x, D2x, D3x, D4x⟩, -⟩ := id h4
    have hopt : (kind < 0 ∨ x.k = kind → optT kind x = [[]]) ∧ (¬ (kind < 0 ∨ x.k = kind) → optT kind x = []) := ⟨fun h => if_pos h, fun h => if_neg h⟩
    have HOPT := Lib.hid hopt
    have HPT := Lib.hid (show pathsT kind (x, ks) = optT kind x ++ pathsF kind ks 0 from rfl)
    have HST := Lib.hid hst
    have HIH := Lib.hid ih
    have HS := Lib.hid hS
    have HR := Lib.hid hr
    have HF := Lib.hid hf
    have HPA := Lib.hid path
    have HAP := Lib.hid ap
    have HKID := Lib.hid hkid
    have HNN := Lib.hid hN
    have HSZ := Lib.hid hsz
    have HN0 := Lib.hid hn
    have HP0 := Lib.hid hP0
    have H4 := Lib.hid h4
    have hLn2 : L.length + 1 ≤ 1000000 := by omega
    have hPn2 : P.length ≤ 1000000 := by omega
    have HLN := Lib.hid hLn
    have HPN := Lib.hid hPn
    have hor := hr.lt
    have HOR := Lib.hid hor
    obtain ⟨i0, hi, hz0, hz1, hz2⟩ := info_parts infoSl
    obtain ⟨j0, hj0', hy0, hy1, hy2⟩ := info_parts infoI
    clear hin hkid hst ih hS hr hf path ap hN hsz hn hP0 h4 hLn hPn gk gl gp gw hc hor hopt
    rcases hcase with hk0 | ⟨hk0, hk1, hk2⟩ | ⟨hk0, hk1, hk2⟩
    · have e1 : decide (kind < 0) = true := by simpa using hk0
      go_enter Try.func34, Try.ntmps34
      go_wp2_with fail
      go_quiet (fail)
      go_upto_if 19 with (fail)
      go_cut [] (fun wx => ∃ vo1, PaSt wx kb lb pb wb B kind vo1 (L ++ (optT kind x).map fun p => P ++ p) vp P ∧ Below B0 w wx)
      case first =>
        rcases hvp with ⟨hv, hPe⟩ | ⟨gp', cap', hv, hPp⟩
        · subst hv
          have HPE := Lib.hid hPe
          clear hPe
          go_wp2_with fail
          go_region_law (first
            | (refine step_copy_nil (by rfl) _ _ (by rfl) (by rfl) (by rfl) ?_)
            | (refine step_append_lies _ (by rfl) _ _ _ (by rfl) B 44 i0 _ 1 24 Try.underlying42 hi hz0 hz1 hz2 rfl (by omega) vo L.length ps (by rfl) (by exact World.ownsRow.alloc (by exact HR.out) _) ⟨w.heap.size, 0, none⟩ 1 1 [.slice none 0 0] (by rfl) (by rfl) (by exact cell_one_new _ _ _) (fun x hx => by simp at hx; subst hx; rfl) (by omega) (by unfold maxLen; omega) (by omega) (by simp; omega) (w.heap.size + 1) (by simp) ?_; intro g4 cap4 w4 hown4 hgrow4 hat4 hlt4; have hgrow4 : (w.alloc (.cells #[.slice none 0 0] 44)).grownBy w4 vo.ownBlock := ⟨hgrow4.os, hgrow4.tape, hgrow4.output, hgrow4.size, hgrow4.block⟩; have HOWN4 := Lib.hid hown4; have HG4 := Lib.hid hgrow4; have HAT4 := Lib.hid hat4; have kl4 := (hgrow4.cell_far ⟨lb, 0, none⟩ (by simp; omega) (fun e => by have := (HOR.out lb e.symm).1; omega)).trans ((((Below.refl w.heap.size w).alloc (Nat.le_refl _) _).cell (p := ⟨lb, 0, none⟩) hlw).trans cl); have fl4 := (hgrow4.frozen_far ⟨lb, 0, none⟩ (by simp; omega) (fun e => by have := (HOR.out lb e.symm).1; omega)).trans ((((Below.refl w.heap.size w).alloc (Nat.le_refl _) _).frozen (p := ⟨lb, 0, none⟩) hlw).trans fl); clear hown4 hgrow4 hat4))
          all_goals
            go_wp2_with fail
            go_meet
            have hput := PaSt.put (w1 := w) (u := .slice none 0 0) HST.out H4.out hB HR.out HF.out (gb_refl w none) (.inl ⟨HPE.out, rfl⟩) HOWN4.out HG4.out (by
              rcases HAT4.out with h | h
              · exact .inl h.symm
              · exact .inr (by rw [← h]; rfl))
            rw [HOPT.out.1 (.inl (by omega))]
            exact ⟨_, by simpa using hput.1, hput.2⟩
        · subst hv
          go_wp2_with fail
          go_region_law (first
            | (refine step_copy (by rfl) _ _ (by rfl) B gp' cap' P (by rfl) (by rfl) (by exact HPA.out) (by omega) hPp ?_; intro b1 c1' w1 hu1 hg1; have hu1 : Sl1 w1 (fun q => w.heap.size ≤ q ∧ q < w1.heap.size) (.slice (some ⟨b1, 0, none⟩) P.length c1') P := hu1; have hg1 : w.grownBy w1 none := ⟨hg1.os, hg1.tape, hg1.output, hg1.size, hg1.block⟩; have HU1 := Lib.hid hu1; have HG1 := Lib.hid hg1; have hs1 := hg1.size; have cl1 := (hg1.cell_far ⟨lb, 0, none⟩ hlw (by simp)).trans cl; have fl1 := (hg1.frozen_far ⟨lb, 0, none⟩ hlw (by simp)).trans fl; have hlw1 : lb < w1.heap.size := (by omega); have cl3 : ∀ n ob, ((w1.drewN n).alloc ob).cell? ⟨lb, 0, none⟩ = some vo := fun n ob => (((Below.refl w1.heap.size (w1.drewN n)).alloc (Nat.le_refl _) ob).cell (p := ⟨lb, 0, none⟩) hlw1).trans cl1; have cl4 : ∀ ob, (w1.alloc ob).cell? ⟨lb, 0, none⟩ = some vo := fun ob => (((Below.refl w1.heap.size w1).alloc (Nat.le_refl _) ob).cell (p := ⟨lb, 0, none⟩) hlw1).trans cl1; have HR1 := Lib.hid (kept_none HR.out hg1); clear hu1 hg1)
            | (refine step_append_lies _ (by rfl) _ _ _ (by rfl) B 44 i0 _ 1 24 Try.underlying42 hi hz0 hz1 hz2 rfl (by omega) vo L.length ps (by rfl) (by exact World.ownsRow.alloc (by exact HR1.out) _) ⟨w1.heap.size, 0, none⟩ 1 1 [.slice (some ⟨b1, 0, none⟩) P.length c1'] (by rfl) (by rfl) (by exact cell_one_new _ _ _) (fun x hx => by simp at hx; subst hx; rfl) (by omega) (by unfold maxLen; omega) (by omega) (by simp; omega) (w1.heap.size + 1) (by simp) ?_; intro g4 cap4 w4 hown4 hgrow4 hat4 hlt4; have hgrow4 : (w1.alloc (.cells #[.slice (some ⟨b1, 0, none⟩) P.length c1'] 44)).grownBy w4 vo.ownBlock := ⟨hgrow4.os, hgrow4.tape, hgrow4.output, hgrow4.size, hgrow4.block⟩; have HOWN4 := Lib.hid hown4; have HG4 := Lib.hid hgrow4; have HAT4 := Lib.hid hat4; have kl4 := (hgrow4.cell_far ⟨lb, 0, none⟩ (by simp; omega) (fun e => by have := (HOR.out lb e.symm).1; omega)).trans ((((Below.refl w1.heap.size w1).alloc (Nat.le_refl _) _).cell (p := ⟨lb, 0, none⟩) hlw1).trans cl1); have fl4 := (hgrow4.frozen_far ⟨lb, 0, none⟩ (by simp; omega) (fun e => by have := (HOR.out lb e.symm).1; omega)).trans ((((Below.refl w1.heap.size w1).alloc (Nat.le_refl _) _).frozen (p := ⟨lb, 0, none⟩) hlw1).trans fl1); clear hown4 hgrow4 hat4))
          all_goals
            go_wp2_with fail
            go_meet
            have hput := PaSt.put (w1 := w1) HST.out H4.out hB HR.out HF.out HG1.out HU1.out HOWN4.out HG4.out (by
              rcases HAT4.out with h | h
              · exact .inl h.symm
              · exact .inr (by rw [← h]; rfl))
            rw [HOPT.out.1 (.inl (by omega))]
            exact ⟨_, by simpa using hput.1, hput.2⟩
      case rest =>
        obtain ⟨vo1, hst1, hb1⟩ := hcut
        obtain ⟨L1, hL1⟩ : ∃ L1, (L ++ (optT kind x).map fun p => P ++ p) = L1 := ⟨_, rfl⟩
        rw [hL1] at hst1
        have hL1n : L1.length ≤ L.length + 1 := by
          rw [← hL1, List.length_append, List.length_map]
          unfold optT
          split <;> simp
        have c4w := (hb1.cell (p := ⟨q, p + 4, none⟩) hqB).trans c4
        have hwc := hb1.size
        have hqc : q < wc.heap.size := by omega
        have HL1 := Lib.hid hL1
        have HST1 := Lib.hid hst1
        have HB1 := Lib.hid hb1
        have hini : Hid (Kid wc Sq A ks 0) := Lib.hid (HKID.out.keep (fun _ h => h) fun b hb => HB1.out.block b (HS.out b hb))
        clear hL1 hst1 hb1 c0 c1 c2 c3 c4 ck cl fl cp cl2
        go_wp2_with fail
        go_loopw [6, 7, 32] (fun _ _ i wr => ∃ (j : Nat) (done rest : Fr) (vo2 vp2 : Value), i = .int .i64 j ∧ j = done.len ∧ ks = done.app rest ∧ Kid wr Sq A rest j ∧ PaSt wr kb lb pb wb B kind vo2 (L1 ++ (pathsF kind done 0).map fun p => P ++ p) vp2 P ∧ Below B0 w wr) (fun _ _ i _ => N - (intOf i).toNat)
        case atStart => exact ⟨0, .nil, ks, vo1, vp, rfl, rfl, rfl, hini.out, by simpa [pathsF] using HST1.out, HB1.out⟩
        case round =>
          obtain ⟨j, done, rest, vo2, vp2, rfl, hj, hks, hkid, hst2, hbw⟩ := hrel
          have hl : N = done.len + rest.len := by rw [← HNN.out, hks, Fr.len_app]
          have hss : ks.sz = done.sz + rest.sz := by rw [hks, Fr.sz_app]
          have hsz := HSZ.out
          have hn := HN0.out
          have hln := HLN.out
          have hpn := HPN.out
          have hwr := hbw.size
          have hpd := (pathsF_num kind done 0).1
          have HKS := Lib.hid hks
          have HST2 := Lib.hid hst2
          have HBW := Lib.hid hbw
          obtain ⟨gk, gl, gp, gw, ⟨ps2, hr2, hf2⟩, path2, ap2⟩ := hst2
          have cp2 : wr.cell? ⟨pb, 0, none⟩ = some vp2 := cell_of_row wr pb 0 _ _ _ gp
          have fp2 := frozen_of_row wr pb 0 _ _ gp
          have cw2 : wr.cell? ⟨wb, 0, none⟩ = some (.func (.func 34) #[] #[.pointer (some ⟨kb, 0, none⟩), .pointer (some ⟨lb, 0, none⟩), .pointer (some ⟨pb, 0, none⟩), .pointer (some ⟨wb, 0, none⟩)]) := cell_of_row wr wb 0 _ _ _ gw
          have hpr := heap_lt gp
          have hwr2 := heap_lt gw
          have h4 := H4.out
          obtain ⟨⟨b1, b2, b3, b4⟩, ⟨d1, d2, d3, d4⟩, e1', e2', e3', e4', e5'⟩ := h4
          have hpl2 := path2.lt
          by_cases hlt : 0 < rest.len
          · obtain ⟨y, l, r, rfl⟩ := Fr.cut hlt
            obtain ⟨kb2, ko, u, rfl, hkb, hcell, hu, hnext⟩ := hkid.next
            have hyl : szT (y, l) = 1 + l.sz := rfl
            have hsr : (Fr.cons y l r).sz = 1 + l.sz + r.sz := rfl
            have hlr2 : (Fr.cons y l r).len = r.len + 1 := rfl
            have hjN : j < N := by omega
            have hjz : (j : Int) < (N : Int) := by omega
            have hkbr : kb2 < wr.heap.size := by have := HS.out kb2 hkb; omega
            obtain ⟨q1, o1, rfl⟩ := hu.ptr
            obtain ⟨PN, hPN⟩ : ∃ PN, P.length = PN := ⟨_, rfl⟩
            rw [hPN] at path2 hpn
            obtain ⟨PAd, PC, rfl⟩ := own_slice path2
            have hPNb : PN ≤ 1000000 := by omega
            have hBr : B ≤ wr.heap.size := by omega
            have HIHY := Lib.hid (HIH.out (y, l) (by omega))
            have HU := Lib.hid hu
            have HN := Lib.hid hnext
            have HLL : Hid ((L1 ++ (pathsF kind done 0).map fun p => P ++ p).length + szT (y, l) ≤ 1000000) := Lib.hid (by rw [List.length_append, List.length_map]; omega)
            have HPP : Hid ((P ++ [(j : Int)]).length + szT (y, l) ≤ 1000000) := Lib.hid (by rw [List.length_append, hPN]; simp only [List.length_singleton]; omega)
            have HPA2 := Lib.hid path2
            have HPN2 := Lib.hid hPN
            have HPL2 := Lib.hid hpl2
            have HLEN : Hid (j + 1 = (done.app (.cons y l .nil)).len) := Lib.hid (by rw [Fr.len_app]; simp only [Fr.len]; omega)
            have HJ := Lib.hid hj
            have HGW := Lib.hid gw
            have HNX := Lib.hid (pathsF_snoc kind y l done 0)
            clear hkid hks hj hl hss hsz hn hln hpn hpd hu hnext hsr hlr2 hyl hPN gk gl gp gw hr2 hf2 path2 ap2 hpl2 hbw
            go_wp2_with (at_builtin; (refine wpList_append_own_at _ rfl _ _ 44 rfl B 3 j0 _ 1 8 Try.underlying44 hj0' hy0 hy1 hy2 rfl (by decide) (.slice PAd PN PC) PN (ints P) rfl (HPA2.out.alloc _) ⟨wr.heap.size, 0, none⟩ 1 1 [.int .i64 (j : Int)] rfl rfl (cell_one_new _ _ _) (fun x hx => by simp at hx; subst hx; rfl) (by unfold maxLen; omega) (by omega) (by simp; omega) ?_); intro v4 w4 hown4 hgrow4 _ hat4; obtain ⟨g4, cap4, hv4, _, _⟩ := hown4.form (by omega); subst hv4; have HOWN4 := Lib.hid hown4; have HG4 := Lib.hid hgrow4; have HAT4 := Lib.hid hat4; have kp4 := (hgrow4.cell_far ⟨pb, 0, none⟩ (by simp; omega) (fun e => by have := (HPL2.out pb e.symm).1; omega)).trans ((((Below.refl wr.heap.size wr).alloc (Nat.le_refl _) _).cell (p := ⟨pb, 0, none⟩) hpr).trans cp2); have fp4 := (hgrow4.frozen_far ⟨pb, 0, none⟩ (by simp; omega) (fun e => by have := (HPL2.out pb e.symm).1; omega)).trans ((((Below.refl wr.heap.size wr).alloc (Nat.le_refl _) _).frozen (p := ⟨pb, 0, none⟩) hpr).trans fp2); have kw4 := (hgrow4.cell_far ⟨wb, 0, none⟩ (by simp; omega) (fun e => by have := (HPL2.out wb e.symm).1; omega)).trans ((((Below.refl wr.heap.size wr).alloc (Nat.le_refl _) _).cell (p := ⟨wb, 0, none⟩) hwr2).trans cw2); clear hown4 hgrow4 hat4)
            have hpush := PaSt.push HST2.out H4.out hBr (by rw [HPN2.out]; exact HOWN4.out) HG4.out (by have := HAT4.out; simpa using this)
            obtain ⟨hst5, hb5⟩ := hpush
            have HST5 := Lib.hid hst5
            have HB5 := Lib.hid hb5
            have hs5 := hb5.size
            have hbw5 := HBW.out.trans hb5
            have cI := HIHY.out (w4.setCell ⟨pb, 0, none⟩ (.slice (some ⟨g4, 0, none⟩) (PN + 1) cap4)) Sq (.pointer (some ⟨q1, o1, none⟩)) kb lb pb wb B0 B kind vo2 (.slice (some ⟨g4, 0, none⟩) (PN + 1) cap4) (L1 ++ (pathsF kind done 0).map fun p => P ++ p) (P ++ [(j : Int)]) H4.out (by omega) HS.out (HU.out.keep (fun _ h => h) fun b hb => hb5.block b (HS.out b hb)) hst5 (fun e => by simp at e) HLL.out HPP.out
            clear hst5 hb5 hbw5 kp4 fp4 kw4
            refine cI.mono ?_
            rintro e w6 ⟨rfl, vo3, vp3, hst6, hb6⟩
            have HST6 := Lib.hid hst6
            have HB6 := Lib.hid hb6
            obtain ⟨fk, fl', fp, fw, -, path6, -⟩ := hst6
            have hlen6 : (P ++ [(j : Int)]).length = PN + 1 := by rw [List.length_append, HPN2.out]; rfl
            rw [hlen6] at path6
            obtain ⟨g6, cap6, hv6, _, _⟩ := path6.form (by omega)
            subst hv6
            have hcap6 := own_cap path6
            have cp6 : w6.cell? ⟨pb, 0, none⟩ = some (.slice (some ⟨g6, 0, none⟩) (PN + 1) cap6) := cell_of_row w6 pb 0 _ _ _ fp
            have fp6 := frozen_of_row w6 pb 0 _ _ fp
            have hpr6 := heap_lt fp
            clear cI hb6 fk fl' fp fw path6 hlen6
            go_wp2_with fail
            go_roundw
            case rel =>
              have hst7 := HST6.out
              rw [← HPN2.out] at hst7
              obtain ⟨hst8, hb8⟩ := PaSt.pop hst7 H4.out
              rw [HPN2.out] at hst8 hb8
              have hball := HB5.out.trans (HB6.out.trans hb8)
              refine ⟨j + 1, done.app (.cons y l .nil), r, vo3, .slice (some ⟨g6, 0, none⟩) PN cap6, by go_num, HLEN.out, by rw [HKS.out, Fr.app_cons], HN.out.keep (fun _ h => h) fun b hb => hball.block b (HS.out b hb), ?_, HBW.out.trans hball⟩
              have hE : (L1 ++ (pathsF kind (done.app (.cons y l .nil)) 0).map fun p => P ++ p) = (L1 ++ (pathsF kind done 0).map fun p => P ++ p) ++ (pathsT kind (y, l)).map fun p => (P ++ [(j : Int)]) ++ p := by
                rw [HNX.out, List.map_append, List.map_map, List.append_assoc]
                congr 2
                refine List.map_congr_left fun p _ => ?_
                have := HJ.out
                simp [this]
              rw [hE]
              exact hst8
            case measure => simp [intOf]; omega
          · have h0 : rest = .nil := by
              cases rest with
              | nil => rfl
              | cons y l r => exact absurd (Nat.succ_pos _) hlt
            subst h0
            have hjz : ¬ (j : Int) < (N : Int) := by have : (Fr.nil).len = 0 := rfl; omega
            have hfin : ks = done := by rw [hks, Fr.app_nil]
            have HFIN := Lib.hid hfin
            clear hkid hks hj hl hss hsz hn hln hpn hpd gk gl gp gw hr2 hf2 path2 ap2 hpl2 hbw hfin
            go_wp2_with fail
            go_end0
            refine ⟨rfl, vo2, vp2, ?_, HBW.out⟩
            have hE : (L ++ (pathsT kind (x, ks)).map fun p => P ++ p) = L1 ++ (pathsF kind done 0).map fun p => P ++ p := by
              rw [HPT.out, HFIN.out, List.map_append, ← List.append_assoc, HL1.out]
            rw [hE]
            exact HST2.out
    · have e1 : decide (kind < 0) = false := by simp; omega
      go_enter Try.func34, Try.ntmps34
      go_wp2_with fail
      go_quiet (fail)
      go_upto_if 19 with (fail)
      go_cut [] (fun wx => ∃ vo1, PaSt wx kb lb pb wb B kind vo1 (L ++ (optT kind x).map fun p => P ++ p) vp P ∧ Below B0 w wx)
      case first =>
        rcases hvp with ⟨hv, hPe⟩ | ⟨gp', cap', hv, hPp⟩
        · subst hv
          have HPE := Lib.hid hPe
          clear hPe
          go_wp2_with fail
          go_region_law (first
            | (refine step_copy_nil (by rfl) _ _ (by rfl) (by rfl) (by rfl) ?_)
            | (refine step_append_lies _ (by rfl) _ _ _ (by rfl) B 44 i0 _ 1 24 Try.underlying42 hi hz0 hz1 hz2 rfl (by omega) vo L.length ps (by rfl) (by exact World.ownsRow.alloc (by exact HR.out) _) ⟨w.heap.size, 0, none⟩ 1 1 [.slice none 0 0] (by rfl) (by rfl) (by exact cell_one_new _ _ _) (fun x hx => by simp at hx; subst hx; rfl) (by omega) (by unfold maxLen; omega) (by omega) (by simp; omega) (w.heap.size + 1) (by simp) ?_; intro g4 cap4 w4 hown4 hgrow4 hat4 hlt4; have hgrow4 : (w.alloc (.cells #[.slice none 0 0] 44)).grownBy w4 vo.ownBlock := ⟨hgrow4.os, hgrow4.tape, hgrow4.output, hgrow4.size, hgrow4.block⟩; have HOWN4 := Lib.hid hown4; have HG4 := Lib.hid hgrow4; have HAT4 := Lib.hid hat4; have kl4 := (hgrow4.cell_far ⟨lb, 0, none⟩ (by simp; omega) (fun e => by have := (HOR.out lb e.symm).1; omega)).trans ((((Below.refl w.heap.size w).alloc (Nat.le_refl _) _).cell (p := ⟨lb, 0, none⟩) hlw).trans cl); have fl4 := (hgrow4.frozen_far ⟨lb, 0, none⟩ (by simp; omega) (fun e => by have := (HOR.out lb e.symm).1; omega)).trans ((((Below.refl w.heap.size w).alloc (Nat.le_refl _) _).frozen (p := ⟨lb, 0, none⟩) hlw).trans fl); clear hown4 hgrow4 hat4))
          all_goals
            go_wp2_with fail
            go_meet
            have hput := PaSt.put (w1 := w) (u := .slice none 0 0) HST.out H4.out hB HR.out HF.out (gb_refl w none) (.inl ⟨HPE.out, rfl⟩) HOWN4.out HG4.out (by
              rcases HAT4.out with h | h
              · exact .inl h.symm
              · exact .inr (by rw [← h]; rfl))
            rw [HOPT.out.1 (.inr hk1)]
            exact ⟨_, by simpa using hput.1, hput.2⟩
        · subst hv
          go_wp2_with fail
          go_region_law (first
            | (refine step_copy (by rfl) _ _ (by rfl) B gp' cap' P (by rfl) (by rfl) (by exact HPA.out) (by omega) hPp ?_; intro b1 c1' w1 hu1 hg1; have hu1 : Sl1 w1 (fun q => w.heap.size ≤ q ∧ q < w1.heap.size) (.slice (some ⟨b1, 0, none⟩) P.length c1') P := hu1; have hg1 : w.grownBy w1 none := ⟨hg1.os, hg1.tape, hg1.output, hg1.size, hg1.block⟩; have HU1 := Lib.hid hu1; have HG1 := Lib.hid hg1; have hs1 := hg1.size; have cl1 := (hg1.cell_far ⟨lb, 0, none⟩ hlw (by simp)).trans cl; have fl1 := (hg1.frozen_far ⟨lb, 0, none⟩ hlw (by simp)).trans fl; have hlw1 : lb < w1.heap.size := (by omega); have cl3 : ∀ n ob, ((w1.drewN n).alloc ob).cell? ⟨lb, 0, none⟩ = some vo := fun n ob => (((Below.refl w1.heap.size (w1.drewN n)).alloc (Nat.le_refl _) ob).cell (p := ⟨lb, 0, none⟩) hlw1).trans cl1; have cl4 : ∀ ob, (w1.alloc ob).cell? ⟨lb, 0, none⟩ = some vo := fun ob => (((Below.refl w1.heap.size w1).alloc (Nat.le_refl _) ob).cell (p := ⟨lb, 0, none⟩) hlw1).trans cl1; have HR1 := Lib.hid (kept_none HR.out hg1); clear hu1 hg1)
            | (refine step_append_lies _ (by rfl) _ _ _ (by rfl) B 44 i0 _ 1 24 Try.underlying42 hi hz0 hz1 hz2 rfl (by omega) vo L.length ps (by rfl) (by exact World.ownsRow.alloc (by exact HR1.out) _) ⟨w1.heap.size, 0, none⟩ 1 1 [.slice (some ⟨b1, 0, none⟩) P.length c1'] (by rfl) (by rfl) (by exact cell_one_new _ _ _) (fun x hx => by simp at hx; subst hx; rfl) (by omega) (by unfold maxLen; omega) (by omega) (by simp; omega) (w1.heap.size + 1) (by simp) ?_; intro g4 cap4 w4 hown4 hgrow4 hat4 hlt4; have hgrow4 : (w1.alloc (.cells #[.slice (some ⟨b1, 0, none⟩) P.length c1'] 44)).grownBy w4 vo.ownBlock := ⟨hgrow4.os, hgrow4.tape, hgrow4.output, hgrow4.size, hgrow4.block⟩; have HOWN4 := Lib.hid hown4; have HG4 := Lib.hid hgrow4; have HAT4 := Lib.hid hat4; have kl4 := (hgrow4.cell_far ⟨lb, 0, none⟩ (by simp; omega) (fun e => by have := (HOR.out lb e.symm).1; omega)).trans ((((Below.refl w1.heap.size w1).alloc (Nat.le_refl _) _).cell (p := ⟨lb, 0, none⟩) hlw1).trans cl1); have fl4 := (hgrow4.frozen_far ⟨lb, 0, none⟩ (by simp; omega) (fun e => by have := (HOR.out lb e.symm).1; omega)).trans ((((Below.refl w1.heap.size w1).alloc (Nat.le_refl _) _).frozen (p := ⟨lb, 0, none⟩) hlw1).trans fl1); clear hown4 hgrow4 hat4))
          all_goals
            go_wp2_with fail
            go_meet
            have hput := PaSt.put (w1 := w1) HST.out H4.out hB HR.out HF.out HG1.out HU1.out HOWN4.out HG4.out (by
              rcases HAT4.out with h | h
              · exact .inl h.symm
              · exact .inr (by rw [← h]; rfl))
            rw [HOPT.out.1 (.inr hk1)]
            exact ⟨_, by simpa using hput.1, hput.2⟩
      case rest =>
        obtain ⟨vo1, hst1, hb1⟩ := hcut
        obtain ⟨L1, hL1⟩ : ∃ L1, (L ++ (optT kind x).map fun p => P ++ p) = L1 := ⟨_, rfl⟩
        rw [hL1] at hst1
        have hL1n : L1.length ≤ L.length + 1 := by
          rw [← hL1, List.length_append, List.length_map]
          unfold optT
          split <;> simp
        have c4w := (hb1.cell (p := ⟨q, p + 4, none⟩) hqB).trans c4
        have hwc := hb1.size
        have hqc : q < wc.heap.size := by omega
        have HL1 := Lib.hid hL1
        have HST1 := Lib.hid hst1
        have HB1 := Lib.hid hb1
        have hini : Hid (Kid wc Sq A ks 0) := Lib.hid (HKID.out.keep (fun _ h => h) fun b hb => HB1.out.block b (HS.out b hb))
        clear hL1 hst1 hb1 c0 c1 c2 c3 c4 ck cl fl cp cl2
        go_wp2_with fail
        go_loopw [6, 7, 32] (fun _ _ i wr => ∃ (j : Nat) (done rest : Fr) (vo2 vp2 : Value), i = .int .i64 j ∧ j = done.len ∧ ks = done.app rest ∧ Kid wr Sq A rest j ∧ PaSt wr kb lb pb wb B kind vo2 (L1 ++ (pathsF kind done 0).map fun p => P ++ p) vp2 P ∧ Below B0 w wr) (fun _ _ i _ => N - (intOf i).toNat)
        case atStart => exact ⟨0, .nil, ks, vo1, vp, rfl, rfl, rfl, hini.out, by simpa [pathsF] using HST1.out, HB1.out⟩
        case round =>
          obtain ⟨j, done, rest, vo2, vp2, rfl, hj, hks, hkid, hst2, hbw⟩ := hrel
          have hl : N = done.len + rest.len := by rw [← HNN.out, hks, Fr.len_app]
          have hss : ks.sz = done.sz + rest.sz := by rw [hks, Fr.sz_app]
          have hsz := HSZ.out
          have hn := HN0.out
          have hln := HLN.out
          have hpn := HPN.out
          have hwr := hbw.size
          have hpd := (pathsF_num kind done 0).1
          have HKS := Lib.hid hks
          have HST2 := Lib.hid hst2
          have HBW := Lib.hid hbw
          obtain ⟨gk, gl, gp, gw, ⟨ps2, hr2, hf2⟩, path2, ap2⟩ := hst2
          have cp2 : wr.cell? ⟨pb, 0, none⟩ = some vp2 := cell_of_row wr pb 0 _ _ _ gp
          have fp2 := frozen_of_row wr pb 0 _ _ gp
          have cw2 : wr.cell? ⟨wb, 0, none⟩ = some (.func (.func 34) #[] #[.pointer (some ⟨kb, 0, none⟩), .pointer (some ⟨lb, 0, none⟩), .pointer (some ⟨pb, 0, none⟩), .pointer (some ⟨wb, 0, none⟩)]) := cell_of_row wr wb 0 _ _ _ gw
          have hpr := heap_lt gp
          have hwr2 := heap_lt gw
          have h4 := H4.out
          obtain ⟨⟨b1, b2, b3, b4⟩, ⟨d1, d2, d3, d4⟩, e1', e2', e3', e4', e5'⟩ := h4
          have hpl2 := path2.lt
          by_cases hlt : 0 < rest.len
          · obtain ⟨y, l, r, rfl⟩ := Fr.cut hlt
            obtain ⟨kb2, ko, u, rfl, hkb, hcell, hu, hnext⟩ := hkid.next
            have hyl : szT (y, l) = 1 + l.sz := rfl
            have hsr : (Fr.cons y l r).sz = 1 + l.sz + r.sz := rfl
            have hlr2 : (Fr.cons y l r).len = r.len + 1 := rfl
            have hjN : j < N := by omega
            have hjz : (j : Int) < (N : Int) := by omega
            have hkbr : kb2 < wr.heap.size := by have := HS.out kb2 hkb; omega
            obtain ⟨q1, o1, rfl⟩ := hu.ptr
            obtain ⟨PN, hPN⟩ : ∃ PN, P.length = PN := ⟨_, rfl⟩
            rw [hPN] at path2 hpn
            obtain ⟨PAd, PC, rfl⟩ := own_slice path2
            have hPNb : PN ≤ 1000000 := by omega
            have hBr : B ≤ wr.heap.size := by omega
            have HIHY := Lib.hid (HIH.out (y, l) (by omega))
            have HU := Lib.hid hu
            have HN := Lib.hid hnext
            have HLL : Hid ((L1 ++ (pathsF kind done 0).map fun p => P ++ p).length + szT (y, l) ≤ 1000000) := Lib.hid (by rw [List.length_append, List.length_map]; omega)
            have HPP : Hid ((P ++ [(j : Int)]).length + szT (y, l) ≤ 1000000) := Lib.hid (by rw [List.length_append, hPN]; simp only [List.length_singleton]; omega)
            have HPA2 := Lib.hid path2
            have HPN2 := Lib.hid hPN
            have HPL2 := Lib.hid hpl2
            have HLEN : Hid (j + 1 = (done.app (.cons y l .nil)).len) := Lib.hid (by rw [Fr.len_app]; simp only [Fr.len]; omega)
            have HJ := Lib.hid hj
            have HGW := Lib.hid gw
            have HNX := Lib.hid (pathsF_snoc kind y l done 0)
            clear hkid hks hj hl hss hsz hn hln hpn hpd hu hnext hsr hlr2 hyl hPN gk gl gp gw hr2 hf2 path2 ap2 hpl2 hbw
            go_wp2_with (at_builtin; (refine wpList_append_own_at _ rfl _ _ 44 rfl B 3 j0 _ 1 8 Try.underlying44 hj0' hy0 hy1 hy2 rfl (by decide) (.slice PAd PN PC) PN (ints P) rfl (HPA2.out.alloc _) ⟨wr.heap.size, 0, none⟩ 1 1 [.int .i64 (j : Int)] rfl rfl (cell_one_new _ _ _) (fun x hx => by simp at hx; subst hx; rfl) (by unfold maxLen; omega) (by omega) (by simp; omega) ?_); intro v4 w4 hown4 hgrow4 _ hat4; obtain ⟨g4, cap4, hv4, _, _⟩ := hown4.form (by omega); subst hv4; have HOWN4 := Lib.hid hown4; have HG4 := Lib.hid hgrow4; have HAT4 := Lib.hid hat4; have kp4 := (hgrow4.cell_far ⟨pb, 0, none⟩ (by simp; omega) (fun e => by have := (HPL2.out pb e.symm).1; omega)).trans ((((Below.refl wr.heap.size wr).alloc (Nat.le_refl _) _).cell (p := ⟨pb, 0, none⟩) hpr).trans cp2); have fp4 := (hgrow4.frozen_far ⟨pb, 0, none⟩ (by simp; omega) (fun e => by have := (HPL2.out pb e.symm).1; omega)).trans ((((Below.refl wr.heap.size wr).alloc (Nat.le_refl _) _).frozen (p := ⟨pb, 0, none⟩) hpr).trans fp2); have kw4 := (hgrow4.cell_far ⟨wb, 0, none⟩ (by simp; omega) (fun e => by have := (HPL2.out wb e.symm).1; omega)).trans ((((Below.refl wr.heap.size wr).alloc (Nat.le_refl _) _).cell (p := ⟨wb, 0, none⟩) hwr2).trans cw2); clear hown4 hgrow4 hat4)
            have hpush := PaSt.push HST2.out H4.out hBr (by rw [HPN2.out]; exact HOWN4.out) HG4.out (by have := HAT4.out; simpa using this)
            obtain ⟨hst5, hb5⟩ := hpush
            have HST5 := Lib.hid hst5
            have HB5 := Lib.hid hb5
            have hs5 := hb5.size
            have hbw5 := HBW.out.trans hb5
            have cI := HIHY.out (w4.setCell ⟨pb, 0, none⟩ (.slice (some ⟨g4, 0, none⟩) (PN + 1) cap4)) Sq (.pointer (some ⟨q1, o1, none⟩)) kb lb pb wb B0 B kind vo2 (.slice (some ⟨g4, 0, none⟩) (PN + 1) cap4) (L1 ++ (pathsF kind done 0).map fun p => P ++ p) (P ++ [(j : Int)]) H4.out (by omega) HS.out (HU.out.keep (fun _ h => h) fun b hb => hb5.block b (HS.out b hb)) hst5 (fun e => by simp at e) HLL.out HPP.out
            clear hst5 hb5 hbw5 kp4 fp4 kw4
            refine cI.mono ?_
            rintro e w6 ⟨rfl, vo3, vp3, hst6, hb6⟩
            have HST6 := Lib.hid hst6
            have HB6 := Lib.hid hb6
            obtain ⟨fk, fl', fp, fw, -, path6, -⟩ := hst6
            have hlen6 : (P ++ [(j : Int)]).length = PN + 1 := by rw [List.length_append, HPN2.out]; rfl
            rw [hlen6] at path6
            obtain ⟨g6, cap6, hv6, _, _⟩ := path6.form (by omega)
            subst hv6
            have hcap6 := own_cap path6
            have cp6 : w6.cell? ⟨pb, 0, none⟩ = some (.slice (some ⟨g6, 0, none⟩) (PN + 1) cap6) := cell_of_row w6 pb 0 _ _ _ fp
            have fp6 := frozen_of_row w6 pb 0 _ _ fp
            have hpr6 := heap_lt fp
            clear cI hb6 fk fl' fp fw path6 hlen6
            go_wp2_with fail
            go_roundw
            case rel =>
              have hst7 := HST6.out
              rw [← HPN2.out] at hst7
              obtain ⟨hst8, hb8⟩ := PaSt.pop hst7 H4.out
              rw [HPN2.out] at hst8 hb8
              have hball := HB5.out.trans (HB6.out.trans hb8)
              refine ⟨j + 1, done.app (.cons y l .nil), r, vo3, .slice (some ⟨g6, 0, none⟩) PN cap6, by go_num, HLEN.out, by rw [HKS.out, Fr.app_cons], HN.out.keep (fun _ h => h) fun b hb => hball.block b (HS.out b hb), ?_, HBW.out.trans hball⟩
              have hE : (L1 ++ (pathsF kind (done.app (.cons y l .nil)) 0).map fun p => P ++ p) = (L1 ++ (pathsF kind done 0).map fun p => P ++ p) ++ (pathsT kind (y, l)).map fun p => (P ++ [(j : Int)]) ++ p := by
                rw [HNX.out, List.map_append, List.map_map, List.append_assoc]
                congr 2
                refine List.map_congr_left fun p _ => ?_
                have := HJ.out
                simp [this]
              rw [hE]
              exact hst8
            case measure => simp [intOf]; omega
          · have h0 : rest = .nil := by
              cases rest with
              | nil => rfl
              | cons y l r => exact absurd (Nat.succ_pos _) hlt
            subst h0
            have hjz : ¬ (j : Int) < (N : Int) := by have : (Fr.nil).len = 0 := rfl; omega
            have hfin : ks = done := by rw [hks, Fr.app_nil]
            have HFIN := Lib.hid hfin
            clear hkid hks hj hl hss hsz hn hln hpn hpd gk gl gp gw hr2 hf2 path2 ap2 hpl2 hbw hfin
            go_wp2_with fail
            go_end0
            refine ⟨rfl, vo2, vp2, ?_, HBW.out⟩
            have hE : (L ++ (pathsT kind (x, ks)).map fun p => P ++ p) = L1 ++ (pathsF kind done 0).map fun p => P ++ p := by
              rw [HPT.out, HFIN.out, List.map_append, ← List.append_assoc, HL1.out]
            rw [hE]
            exact HST2.out
    · have e1 : decide (kind < 0) = false := by simp; omega
      go_enter Try.func34, Try.ntmps34
      go_wp2_with fail
      go_quiet (fail)
      go_upto_if 19 with (fail)
      go_cut [] (fun wx => ∃ vo1, PaSt wx kb lb pb wb B kind vo1 (L ++ (optT kind x).map fun p => P ++ p) vp P ∧ Below B0 w wx)
      case first =>
        go_wp2_with fail
        go_meet
        rw [HOPT.out.2 (by omega)]
        exact ⟨vo, by simpa using HST.out.drew _, below_drewN' (Below.refl _ _) _⟩
      case rest =>
        obtain ⟨vo1, hst1, hb1⟩ := hcut
        obtain ⟨L1, hL1⟩ : ∃ L1, (L ++ (optT kind x).map fun p => P ++ p) = L1 := ⟨_, rfl⟩
        rw [hL1] at hst1
        have hL1n : L1.length ≤ L.length + 1 := by
          rw [← hL1, List.length_append, List.length_map]
          unfold optT
          split <;> simp
        have c4w := (hb1.cell (p := ⟨q, p + 4, none⟩) hqB).trans c4
        have hwc := hb1.size
        have hqc : q < wc.heap.size := by omega
        have HL1 := Lib.hid hL1
        have HST1 := Lib.hid hst1
        have HB1 := Lib.hid hb1
        have hini : Hid (Kid wc Sq A ks 0) := Lib.hid (HKID.out.keep (fun _ h => h) fun b hb => HB1.out.block b (HS.out b hb))
        clear hL1 hst1 hb1 c0 c1 c2 c3 c4 ck cl fl cp cl2
        go_wp2_with fail
        go_loopw [6, 7, 32] (fun _ _ i wr => ∃ (j : Nat) (done rest : Fr) (vo2 vp2 : Value), i = .int .i64 j ∧ j = done.len ∧ ks = done.app rest ∧ Kid wr Sq A rest j ∧ PaSt wr kb lb pb wb B kind vo2 (L1 ++ (pathsF kind done 0).map fun p => P ++ p) vp2 P ∧ Below B0 w wr) (fun _ _ i _ => N - (intOf i).toNat)
        case atStart => exact ⟨0, .nil, ks, vo1, vp, rfl, rfl, rfl, hini.out, by simpa [pathsF] using HST1.out, HB1.out⟩
        case round =>
          obtain ⟨j, done, rest, vo2, vp2, rfl, hj, hks, hkid, hst2, hbw⟩ := hrel
          have hl : N = done.len + rest.len := by rw [← HNN.out, hks, Fr.len_app]
          have hss : ks.sz = done.sz + rest.sz := by rw [hks, Fr.sz_app]
          have hsz := HSZ.out
          have hn := HN0.out
          have hln := HLN.out
          have hpn := HPN.out
          have hwr := hbw.size
          have hpd := (pathsF_num kind done 0).1
          have HKS := Lib.hid hks
          have HST2 := Lib.hid hst2
          have HBW := Lib.hid hbw
          obtain ⟨gk, gl, gp, gw, ⟨ps2, hr2, hf2⟩, path2, ap2⟩ := hst2
          have cp2 : wr.cell? ⟨pb, 0, none⟩ = some vp2 := cell_of_row wr pb 0 _ _ _ gp
          have fp2 := frozen_of_row wr pb 0 _ _ gp
          have cw2 : wr.cell? ⟨wb, 0, none⟩ = some (.func (.func 34) #[] #[.pointer (some ⟨kb, 0, none⟩), .pointer (some ⟨lb, 0, none⟩), .pointer (some ⟨pb, 0, none⟩), .pointer (some ⟨wb, 0, none⟩)]) := cell_of_row wr wb 0 _ _ _ gw
          have hpr := heap_lt gp
          have hwr2 := heap_lt gw
          have h4 := H4.out
          obtain ⟨⟨b1, b2, b3, b4⟩, ⟨d1, d2, d3, d4⟩, e1', e2', e3', e4', e5'⟩ := h4
          have hpl2 := path2.lt
          by_cases hlt : 0 < rest.len
          · obtain ⟨y, l, r, rfl⟩ := Fr.cut hlt
            obtain ⟨kb2, ko, u, rfl, hkb, hcell, hu, hnext⟩ := hkid.next
            have hyl : szT (y, l) = 1 + l.sz := rfl
            have hsr : (Fr.cons y l r).sz = 1 + l.sz + r.sz := rfl
            have hlr2 : (Fr.cons y l r).len = r.len + 1 := rfl
            have hjN : j < N := by omega
            have hjz : (j : Int) < (N : Int) := by omega
            have hkbr : kb2 < wr.heap.size := by have := HS.out kb2 hkb; omega
            obtain ⟨q1, o1, rfl⟩ := hu.ptr
            obtain ⟨PN, hPN⟩ : ∃ PN, P.length = PN := ⟨_, rfl⟩
            rw [hPN] at path2 hpn
            obtain ⟨PAd, PC, rfl⟩ := own_slice path2
            have hPNb : PN ≤ 1000000 := by omega
            have hBr : B ≤ wr.heap.size := by omega
            have HIHY := Lib.hid (HIH.out (y, l) (by omega))
            have HU := Lib.hid hu
            have HN := Lib.hid hnext
            have HLL : Hid ((L1 ++ (pathsF kind done 0).map fun p => P ++ p).length + szT (y, l) ≤ 1000000) := Lib.hid (by rw [List.length_append, List.length_map]; omega)
            have HPP : Hid ((P ++ [(j : Int)]).length + szT (y, l) ≤ 1000000) := Lib.hid (by rw [List.length_append, hPN]; simp only [List.length_singleton]; omega)
            have HPA2 := Lib.hid path2
            have HPN2 := Lib.hid hPN
            have HPL2 := Lib.hid hpl2
            have HLEN : Hid (j + 1 = (done.app (.cons y l .nil)).len) := Lib.hid (by rw [Fr.len_app]; simp only [Fr.len]; omega)
            have HJ := Lib.hid hj
            have HGW := Lib.hid gw
            have HNX := Lib.hid (pathsF_snoc kind y l done 0)
            clear hkid hks hj hl hss hsz hn hln hpn hpd hu hnext hsr hlr2 hyl hPN gk gl gp gw hr2 hf2 path2 ap2 hpl2 hbw
            go_wp2_with (at_builtin; (refine wpList_append_own_at _ rfl _ _ 44 rfl B 3 j0 _ 1 8 Try.underlying44 hj0' hy0 hy1 hy2 rfl (by decide) (.slice PAd PN PC) PN (ints P) rfl (HPA2.out.alloc _) ⟨wr.heap.size, 0, none⟩ 1 1 [.int .i64 (j : Int)] rfl rfl (cell_one_new _ _ _) (fun x hx => by simp at hx; subst hx; rfl) (by unfold maxLen; omega) (by omega) (by simp; omega) ?_); intro v4 w4 hown4 hgrow4 _ hat4; obtain ⟨g4, cap4, hv4, _, _⟩ := hown4.form (by omega); subst hv4; have HOWN4 := Lib.hid hown4; have HG4 := Lib.hid hgrow4; have HAT4 := Lib.hid hat4; have kp4 := (hgrow4.cell_far ⟨pb, 0, none⟩ (by simp; omega) (fun e => by have := (HPL2.out pb e.symm).1; omega)).trans ((((Below.refl wr.heap.size wr).alloc (Nat.le_refl _) _).cell (p := ⟨pb, 0, none⟩) hpr).trans cp2); have fp4 := (hgrow4.frozen_far ⟨pb, 0, none⟩ (by simp; omega) (fun e => by have := (HPL2.out pb e.symm).1; omega)).trans ((((Below.refl wr.heap.size wr).alloc (Nat.le_refl _) _).frozen (p := ⟨pb, 0, none⟩) hpr).trans fp2); have kw4 := (hgrow4.cell_far ⟨wb, 0, none⟩ (by simp; omega) (fun e => by have := (HPL2.out wb e.symm).1; omega)).trans ((((Below.refl wr.heap.size wr).alloc (Nat.le_refl _) _).cell (p := ⟨wb, 0, none⟩) hwr2).trans cw2); clear hown4 hgrow4 hat4)
            have hpush := PaSt.push HST2.out H4.out hBr (by rw [HPN2.out]; exact HOWN4.out) HG4.out (by have := HAT4.out; simpa using this)
            obtain ⟨hst5, hb5⟩ := hpush
            have HST5 := Lib.hid hst5
            have HB5 := Lib.hid hb5
            have hs5 := hb5.size
            have hbw5 := HBW.out.trans hb5
            have cI := HIHY.out (w4.setCell ⟨pb, 0, none⟩ (.slice (some ⟨g4, 0, none⟩) (PN + 1) cap4)) Sq (.pointer (some ⟨q1, o1, none⟩)) kb lb pb wb B0 B kind vo2 (.slice (some ⟨g4, 0, none⟩) (PN + 1) cap4) (L1 ++ (pathsF kind done 0).map fun p => P ++ p) (P ++ [(j : Int)]) H4.out (by omega) HS.out (HU.out.keep (fun _ h => h) fun b hb => hb5.block b (HS.out b hb)) hst5 (fun e => by simp at e) HLL.out HPP.out
            clear hst5 hb5 hbw5 kp4 fp4 kw4
            refine cI.mono ?_
            rintro e w6 ⟨rfl, vo3, vp3, hst6, hb6⟩
            have HST6 := Lib.hid hst6
            have HB6 := Lib.hid hb6
            obtain ⟨fk, fl', fp, fw, -, path6, -⟩ := hst6
            have hlen6 : (P ++ [(j : Int)]).length = PN + 1 := by rw [List.length_append, HPN2.out]; rfl
            rw [hlen6] at path6
            obtain ⟨g6, cap6, hv6, _, _⟩ := path6.form (by omega)
            subst hv6
            have hcap6 := own_cap path6
            have cp6 : w6.cell? ⟨pb, 0, none⟩ = some (.slice (some ⟨g6, 0, none⟩) (PN + 1) cap6) := cell_of_row w6 pb 0 _ _ _ fp
            have fp6 := frozen_of_row w6 pb 0 _ _ fp
            have hpr6 := heap_lt fp
            clear cI hb6 fk fl' fp fw path6 hlen6
            go_wp2_with fail
            go_roundw
            case rel =>
              have hst7 := HST6.out
              rw [← HPN2.out] at hst7
              obtain ⟨hst8, hb8⟩ := PaSt.pop hst7 H4.out
              rw [HPN2.out] at hst8 hb8
              have hball := HB5.out.trans (HB6.out.trans hb8)
              refine ⟨j + 1, done.app (.cons y l .nil), r, vo3, .slice (some ⟨g6, 0, none⟩) PN cap6, by go_num, HLEN.out, by rw [HKS.out, Fr.app_cons], HN.out.keep (fun _ h => h) fun b hb => hball.block b (HS.out b hb), ?_, HBW.out.trans hball⟩
              have hE : (L1 ++ (pathsF kind (done.app (.cons y l .nil)) 0).map fun p => P ++ p) = (L1 ++ (pathsF kind done 0).map fun p => P ++ p) ++ (pathsT kind (y, l)).map fun p => (P ++ [(j : Int)]) ++ p := by
                rw [HNX.out, List.map_append, List.map_map, List.append_assoc]
                congr 2
                refine List.map_congr_left fun p _ => ?_
                have := HJ.out
                simp [this]
              rw [hE]
              exact hst8
            case measure => simp [intOf]; omega
          · have h0 : rest = .nil := by
              cases rest with
              | nil => rfl
              | cons y l r => exact absurd (Nat.succ_pos _) hlt
            subst h0
            have hjz : ¬ (j : Int) < (N : Int) := by have : (Fr.nil).len = 0 := rfl; omega
            have hfin : ks = done := by rw [hks, Fr.app_nil]
            have HFIN := Lib.hid hfin
            clear hkid hks hj hl hss hsz hn hln hpn hpd gk gl gp gw hr2 hf2 path2 ap2 hpl2 hbw hfin
            go_wp2_with fail
            go_end0
            refine ⟨rfl, vo2, vp2, ?_, HBW.out⟩
            have hE : (L ++ (pathsT kind (x, ks)).map fun p => P ++ p) = L1 ++ (pathsF kind done 0).map fun p => P ++ p := by
              rw [HPT.out, HFIN.out, List.map_append, ← List.append_assoc, HL1.out]
            rw [hE]
            exact HST2.out
end Go.Proofs.Ytoejegndbcbkmaa
/-
  The program's Paths: what it tells of trees.
-/
namespace Go.Proofs.Ytoejegndbcbkmaa
open Go.RowKit

/-- Paths handed back: a slice that reads as this list. -/
def PhPost (L : List (List Int)) (W : World) (e : Ending) (w' : World) : Prop := ∃ v, e = .returned v ∧ Spp w' w'.heap.size v L ∧ Below W.heap.size W w'
theorem PaSt.spp {w : World} {kb lb pb wb B : Nat} {kind : Int} {vo vp : Value} {L : List (List Int)} {P : List Int} (h : PaSt w kb lb pb wb B kind vo L vp P) : Spp w w.heap.size vo L := by
  obtain ⟨ps, h1, h2⟩ := h.row
  rcases h1.2 with ⟨hv, h0⟩ | ⟨g, cap, cur, hv, hg, hh, hc, _⟩
  · have : L = [] := List.length_eq_zero_iff.1 h0
    subst this
    exact ⟨none, 0, hv, Nat.le_refl _, fun j u hu => by simp at hu⟩
  · refine ⟨_, cap, hv, hc, fun j u hu => ?_⟩
    obtain ⟨pv, hp1, hp2⟩ := h2.at hu
    have h3 := h1.cells (g := g) (by rw [hv]; rfl) j pv hp1
    rw [addAt] at h3
    exact ⟨g, 0, pv, rfl, heap_lt hh, h3, hp2.sp fun q hq => hq.2.1⟩
set_option maxHeartbeats 3200000 in
set_option maxRecDepth 100000 in
theorem arPathsSome (t : Tr) (hsz : szT t ≤ 60000) (kind : Int) (w : World) (Sq : Nat → Prop) (v : Value) (hS : Bel Sq w.heap.size) (hin : InT w Sq v t) :
    Calls Try.prog 16 #[v, .int .i64 kind] w (PhPost (pathsT kind t) w) := by
  have hb := (Below.refl w.heap.size w).alloc (Nat.le_refl _) (.cells #[.int .i64 kind] 3)
  have hs : (w.alloc (.cells #[.int .i64 kind] 3)).heap.size = w.heap.size + 1 := by simp
  have hszo : szO (some t) = szT t := rfl
  have cE := endless_any (some t) (w.alloc (.cells #[.int .i64 kind] 3)) Sq v (fun q h => by have := hS q h; omega) (hin.below hS hb) (by omega)
  have hk : (w.alloc (.cells #[.int .i64 kind] 3)).heap[w.heap.size]? = some (.cells #[.int .i64 kind] 3 (0, 0)) := heap_alloc_new w _
  obtain ⟨q0, p0, rfl⟩ := hin.ptr
  have HS := Lib.hid hs
  have HB := Lib.hid hb
  have HK := Lib.hid hk
  have HIN := Lib.hid hin
  have HBEL := Lib.hid hS
  have HSZ := Lib.hid hsz
  clear hin hS hb hk hs hszo hsz
  go_enter Try.func16, Try.ntmps16
  go_wp2_with fail
  refine cE.mono ?_
  rintro e w1 ⟨rfl, hb1⟩
  rw [HS.out] at hb1
  obtain ⟨H, hH⟩ : ∃ H, w.heap.size = H := ⟨_, rfl⟩
  have hk1 : w1.heap[H]? = some (.cells #[.int .i64 kind] 3 (0, 0)) := by rw [← hH]; exact (hb1.block w.heap.size (by omega)).trans HK.out
  have hb2 : Below H w w1 := (hH ▸ HB.out : Below H w _).trans (hb1.mono (by omega))
  have hs1 := hb1.size
  rw [HS.out] at hs1
  have HH := Lib.hid hH
  have HK1 := Lib.hid hk1
  have HB2 := Lib.hid hb2
  clear cE hb1 hk1 hb2 hH
  rw [HH.out]
  go_wp2_with fail
  obtain ⟨C, hC⟩ : ∃ C, w1.heap.size = C := ⟨_, rfl⟩
  have hHC : H + 1 ≤ C := by have := HH.out; omega
  have three := three_blocks w1 (.cells #[.slice none 0 0] 42) (.cells #[.slice none 0 0] 44) (.cells #[.func (.func 34) #[] #[.pointer (some ⟨H, 0, none⟩), .pointer (some ⟨C, 0, none⟩), .pointer (some ⟨C + 1, 0, none⟩), .pointer (some ⟨C + 1 + 1, 0, none⟩)]] 58) hC
  rw [hC]
  obtain ⟨W5, hW5⟩ : ∃ W5, W5 = ((w1.alloc (.cells #[.slice none 0 0] 42)).alloc (.cells #[.slice none 0 0] 44)).alloc (.cells #[.func (.func 34) #[] #[.pointer (some ⟨H, 0, none⟩), .pointer (some ⟨C, 0, none⟩), .pointer (some ⟨C + 1, 0, none⟩), .pointer (some ⟨C + 1 + 1, 0, none⟩)]] 58) := ⟨_, rfl⟩
  rw [← hW5] at three ⊢
  obtain ⟨t1, t2, t3, hb5, s5⟩ := three
  have hst : PaSt W5 H C (C + 1) (C + 1 + 1) (C + 3) kind (.slice none 0 0) [] (.slice none 0 0) [] := ⟨(hb5.block H (by omega)).trans HK1.out, t1, t2, t3, ⟨[], World.ownsRow_nil _ _ _ _, trivial⟩, World.ownsRow_nil _ _ _ _, by intro g hg; simp [Value.ownBlock] at hg⟩
  have hbw : Below H w W5 := HB2.out.trans (hb5.mono (by omega))
  have cW := walk_all 1000000 (Nat.le_refl _) t (by have := HSZ.out; omega) W5 Sq (.pointer (some ⟨q0, p0, none⟩)) H C (C + 1) (C + 1 + 1) H (C + 3) kind (.slice none 0 0) (.slice none 0 0) [] [] ⟨⟨by omega, by omega, by omega, by omega⟩, ⟨by omega, by omega, by omega, by omega⟩, by omega, by omega, by omega, by omega, by omega⟩ (by omega) (fun q h => by have := HBEL.out q h; rw [HH.out] at this; exact this) (HIN.out.below HBEL.out (by rw [HH.out]; exact hbw)) hst (fun _ => rfl) (by have := HSZ.out; simp; omega) (by have := HSZ.out; simp; omega)
  have HBW := Lib.hid hbw
  clear hW5 t1 t2 t3 hb5 s5 hst hbw hC
  refine cW.mono ?_
  rintro e w6 ⟨rfl, vo', vp', hst6, hb6⟩
  rw [List.nil_append] at hst6
  have e1 : ((pathsT kind t).map fun p => ([] : List Int) ++ p) = pathsT kind t := by simp
  rw [e1] at hst6
  have cl : w6.cell? ⟨C, 0, none⟩ = some vo' := cell_of_row w6 C 0 _ _ _ hst6.hl
  have HSP := Lib.hid hst6.spp
  have HB6 := Lib.hid (HBW.out.trans hb6)
  clear hst6 hb6 cW e1
  go_wp2_with fail
  go_ret
  exact ⟨vo', rfl, HSP.out, by rw [HH.out]; exact HB6.out⟩
theorem walk_nil (a b c d : Addr) (w : World) : Calls Try.prog 34 #[.pointer none, .pointer (some a), .pointer (some b), .pointer (some c), .pointer (some d)] w fun e w' => e = .returned (.tuple #[]) ∧ w = w' := by
  go_enter Try.func34, Try.ntmps34
  go_wp2_with fail
  exact bodyPost_ret (v := .tuple #[]) (by simp [results, Try.results34, go_sem]) rfl ⟨rfl, rfl⟩
set_option maxHeartbeats 3200000 in
set_option maxRecDepth 100000 in
theorem arPathsNone (kind : Int) (w : World) : Calls Try.prog 16 #[.pointer none, .int .i64 kind] w (PhPost [] w) := by
  have hb := (Below.refl w.heap.size w).alloc (Nat.le_refl _) (.cells #[.int .i64 kind] 3)
  have hs : (w.alloc (.cells #[.int .i64 kind] 3)).heap.size = w.heap.size + 1 := by simp
  have hin : InO (w.alloc (.cells #[.int .i64 kind] 3)) No (.pointer none) none := rfl
  have cE := endless_any none (w.alloc (.cells #[.int .i64 kind] 3)) No (.pointer none) (fun q h => h.elim) hin (Nat.zero_le _)
  have HS := Lib.hid hs
  have HB := Lib.hid hb
  clear hin hb hs
  go_enter Try.func16, Try.ntmps16
  go_wp2_with fail
  refine cE.mono ?_
  rintro e w1 ⟨rfl, hb1⟩
  rw [HS.out] at hb1
  obtain ⟨H, hH⟩ : ∃ H, w.heap.size = H := ⟨_, rfl⟩
  have hb2 : Below H w w1 := (hH ▸ HB.out : Below H w _).trans (hb1.mono (by omega))
  have hs1 := hb1.size
  rw [HS.out] at hs1
  have HH := Lib.hid hH
  have HB2 := Lib.hid hb2
  clear cE hb1 hb2 hH
  rw [HH.out]
  go_wp2_with fail
  obtain ⟨C, hC⟩ : ∃ C, w1.heap.size = C := ⟨_, rfl⟩
  have hHC : H + 1 ≤ C := by have := HH.out; omega
  have three := three_blocks w1 (.cells #[.slice none 0 0] 42) (.cells #[.slice none 0 0] 44) (.cells #[.func (.func 34) #[] #[.pointer (some ⟨H, 0, none⟩), .pointer (some ⟨C, 0, none⟩), .pointer (some ⟨C + 1, 0, none⟩), .pointer (some ⟨C + 1 + 1, 0, none⟩)]] 58) hC
  rw [hC]
  obtain ⟨W5, hW5⟩ : ∃ W5, W5 = ((w1.alloc (.cells #[.slice none 0 0] 42)).alloc (.cells #[.slice none 0 0] 44)).alloc (.cells #[.func (.func 34) #[] #[.pointer (some ⟨H, 0, none⟩), .pointer (some ⟨C, 0, none⟩), .pointer (some ⟨C + 1, 0, none⟩), .pointer (some ⟨C + 1 + 1, 0, none⟩)]] 58) := ⟨_, rfl⟩
  rw [← hW5] at three ⊢
  obtain ⟨t1, t2, t3, hb5, s5⟩ := three
  have cl : W5.cell? ⟨C, 0, none⟩ = some (.slice none 0 0) := cell_of_row W5 C 0 _ _ _ t1
  have HBW := Lib.hid (HB2.out.trans (hb5.mono (by omega)))
  clear hW5 t1 t2 t3 hb5 s5 hC
  refine (walk_nil _ _ _ _ W5).mono ?_
  rintro e w6 ⟨rfl, rfl⟩
  go_wp2_with fail
  go_ret
  exact ⟨_, rfl, ⟨none, 0, rfl, Nat.le_refl _, fun j u hu => by simp at hu⟩, by rw [HH.out]; exact HBW.out⟩
theorem arPaths (o : Option Tr) (hsz : szO o ≤ 60000) (kind : Int) (w : World) (Sq : Nat → Prop) (v : Value) (hS : Bel Sq w.heap.size) (hin : InO w Sq v o) :
    Calls Try.prog 16 #[v, .int .i64 kind] w (PhPost (pathsO kind o) w) := by
  cases o with
  | some t => exact arPathsSome t hsz kind w Sq v hS hin
  | none =>
    have hv : v = .pointer none := hin
    subst hv
    exact arPathsNone kind w
end Go.Proofs.Ytoejegndbcbkmaa
