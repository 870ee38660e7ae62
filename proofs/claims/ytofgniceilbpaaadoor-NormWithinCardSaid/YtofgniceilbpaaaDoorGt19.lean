/-
  The program's Pack: what its closure and it tell of trees.
-/
import Derived.Test.YtofgniceilbpaaaDoorGt06
namespace Go.Proofs.YtofgniceilbpaaaDoor
open Go.RowKit

def Sb (B : Nat) (X : Nat → Prop) (w : World) (v : Value) (q : Nat) : Prop := B ≤ q ∧ q < w.heap.size ∧ v.ownBlock ≠ some q ∧ ¬ X q
def PkSt (w : World) (lb cb B : Nat) (X : Nat → Prop) (vo : Value) (cs : List Cel) : Prop :=
  w.heap[lb]? = some (.cells #[.func (.func 75) #[] #[.pointer (some ⟨lb, 0, none⟩), .pointer (some ⟨cb, 0, none⟩)]] 53 (0, 0)) ∧ w.heap[cb]? = some (.cells #[vo] 22 (0, 0)) ∧
    (vo.ownBlock ≠ some lb ∧ vo.ownBlock ≠ some cb) ∧ ∃ vs, w.ownsRow B 51 5 vo cs.length (flat cs vs) ∧ CsF w (Sb B X w vo) vs cs
def PkEnd (w w' : World) (cb : Nat) (vo vo' : Value) : Prop :=
  w'.os = w.os ∧ w'.tape = w.tape ∧ w'.output = w.output ∧ w.heap.size ≤ w'.heap.size ∧ (∀ b, b < w.heap.size → b ≠ cb → vo.ownBlock ≠ some b → w'.heap[b]? = w.heap[b]?) ∧ (vo'.ownBlock = vo.ownBlock ∨ ∀ g, vo'.ownBlock = some g → w.heap.size ≤ g)
theorem PkEnd.refl (w : World) (cb : Nat) (vo : Value) : PkEnd w w cb vo vo := ⟨rfl, rfl, rfl, Nat.le_refl _, fun _ _ _ _ => rfl, .inl rfl⟩
theorem PkEnd.trans {a b c : World} {cb : Nat} {u v x : Value} (h : PkEnd a b cb u v) (k : PkEnd b c cb v x) : PkEnd a c cb u x := by
  obtain ⟨h1, h2, h3, h4, h5, h6⟩ := h
  obtain ⟨k1, k2, k3, k4, k5, k6⟩ := k
  refine ⟨k1.trans h1, k2.trans h2, k3.trans h3, Nat.le_trans h4 k4, fun i hi hc hv => ?_, ?_⟩
  · refine (k5 i (by omega) hc ?_).trans (h5 i hi hc hv)
    rcases h6 with h | h
    · rw [h]; exact hv
    · intro e; have := h i e; omega
  · rcases k6 with k | k
    · rw [k]
      exact h6
    · exact .inr fun g hg => by have := k g hg; omega
theorem PkEnd.below {a b c : World} {cb : Nat} {u v : Value} (h : PkEnd a b cb u v) (k : Below b.heap.size b c) : PkEnd a c cb u v := h.trans ⟨k.os, k.tape, k.output, k.size, fun i hi _ _ => k.block i hi, .inl rfl⟩
def Xc (X : Nat → Prop) (C : Nat) (vk : Value) (q : Nat) : Prop := X q ∨ q = C ∨ vk.ownBlock = some q
def LaRel (w : World) (lb cb B C : Nat) (X : Nat → Prop) (vo0 vo vk : Value) (x : Nod) (CS : List Cel) (RS : List Int) (wr : World) : Prop :=
  PkSt wr lb cb B (Xc X C vk) vo CS ∧ wr.ownsRow (C + 1) 3 1 vk RS.length (ints RS) ∧ wr.heap[C]? = some (.cells #[.int .i64 x.k, .int .i64 x.n, .string x.a, .string x.m, vk] 51 (0, 0)) ∧ PkEnd w wr cb vo0 vo ∧
    (∀ g, vo.ownBlock = some g → g ≠ C ∧ vk.ownBlock ≠ some g)
theorem LaRel.step {w wr w2 w6 : World} {lb cb B C : Nat} {X : Nat → Prop} {vo0 vo vo2 vk v6 : Value} {x : Nod} {CS CS2 : List Cel} {RS : List Int} {z : Int} {ob : Obj} (hC : w.heap.size = C) (hlc : lb < C ∧ cb < C ∧ B ≤ C)
    (h : LaRel w lb cb B C X vo0 vo vk x CS RS wr) (h2 : PkSt w2 lb cb B (Xc X C vk) vo2 CS2) (he : PkEnd wr w2 cb vo vo2)
    (ho6 : w6.ownsRow (C + 1) 3 1 v6 (RS.length + 1) (ints RS ++ [.int .i64 z])) (hg6 : (w2.alloc ob).grownBy w6 vk.ownBlock) (hat6 : v6.ownBlock = vk.ownBlock ∨ v6.ownBlock = some (w2.heap.size + 1)) :
    LaRel w lb cb B C X vo0 vo2 v6 x CS2 (RS ++ [z]) (w6.setCell ⟨C, 4, none⟩ v6) ∧ (∀ b, b < wr.heap.size → b ≠ cb → vo.ownBlock ≠ some b → b ≠ C → vk.ownBlock ≠ some b → (w6.setCell ⟨C, 4, none⟩ v6).heap[b]? = wr.heap[b]?) := by
  obtain ⟨⟨_, _, _, vs, ho, hf⟩, hk, hc, hend, hap⟩ := h
  obtain ⟨g1, g2, g3, vs2, ho2, hf2⟩ := h2
  obtain ⟨e1, e2, e3, hs2, hst, hvo⟩ := he
  have hCr := heap_lt hc
  have hkl := hk.lt
  have h6l := ho6.lt
  have hol2 := ho2.lt
  have hsa : (w2.alloc ob).heap.size = w2.heap.size + 1 := by simp
  have hs6 := hg6.size
  have hsz7 : (w6.setCell ⟨C, 4, none⟩ v6).heap.size = w6.heap.size := by simp [World.setCell]
  have hw : w.heap.size ≤ wr.heap.size := hend.2.2.2.1
  -- the row of cells is apart from the cell and its kids' row
  have hap2 : ∀ g, vo2.ownBlock = some g → g ≠ C ∧ vk.ownBlock ≠ some g := by
    intro g hg
    rcases hvo with h | h
    · exact hap g (by rw [← h]; exact hg)
    · have h1 := h g hg
      exact ⟨by omega, fun e => by have := (hkl g e).2; omega⟩
  have hcC : cb ≠ C := by omega
  have hlC : lb ≠ C := by omega
  have hck : vk.ownBlock ≠ some cb := fun e => by have := (hkl cb e).1; omega
  have hlk : vk.ownBlock ≠ some lb := fun e => by have := (hkl lb e).1; omega
  have h67 : ∀ b, b < w2.heap.size → b ≠ C → vk.ownBlock ≠ some b → (w6.setCell ⟨C, 4, none⟩ v6).heap[b]? = w2.heap[b]? := by
    intro b h1 h2 h3
    rw [Below.heap_setCell _ _ _ _ h2, hg6.block b (by omega) (fun e => h3 e.symm), Below.heap_alloc _ _ _ h1]
  have hC2 : w2.heap[C]? = some (.cells #[.int .i64 x.k, .int .i64 x.n, .string x.a, .string x.m, vk] 51 (0, 0)) := (hst C hCr (by omega) (fun e => (hap C e).1 rfl)).trans hc
  have hC6 : w6.heap[C]? = some (.cells #[.int .i64 x.k, .int .i64 x.n, .string x.a, .string x.m, vk] 51 (0, 0)) := by
    rw [hg6.block C (by omega) (fun e => by have := (hkl C e.symm).1; omega), Below.heap_alloc _ _ _ (by omega)]
    exact hC2
  refine ⟨⟨⟨?_, ?_, g3, vs2, ?_, ?_⟩, ?_, ?_, ?_, ?_⟩, ?_⟩
  · rw [h67 lb (heap_lt g1) hlC hlk]; exact g1
  · rw [h67 cb (heap_lt g2) hcC hck]; exact g2
  · have h1 : w6.ownsRow B 51 5 vo2 CS2.length (flat CS2 vs2) := (ho2.alloc ob).kept hg6 (by
      cases hv : vo2.ownBlock with
      | none => exact .inl rfl
      | some g => exact .inr fun e => (hap2 g hv).2 e.symm)
    exact own_setCell h1 _ _ fun g hg => (hap2 g hg).1
  · refine hf2.keep (fun q hq => ?_) fun b hb => ?_
    · obtain ⟨q1, q2, q3, q4⟩ := hq
      refine ⟨q1, by omega, q3, fun hx => q4 ?_⟩
      rcases hx with hx | hx | hx
      · exact .inl hx
      · exact .inr (.inl hx)
      · rcases hat6 with h | h
        · exact .inr (.inr (by rw [← h]; exact hx))
        · rw [h] at hx; injection hx with hx; omega
    · obtain ⟨q1, q2, q3, q4⟩ := hb
      exact h67 b q2 (fun e => q4 (.inr (.inl e))) (fun e => q4 (.inr (.inr e)))
  · rw [ints_snoc, List.length_append]
    exact own_setCell ho6 _ _ fun g hg => by have := (h6l g hg).1; simp only; omega
  · rw [block_set _ hC6]; rfl
  · obtain ⟨d1, d2, d3, d4, d5, d6⟩ := hend
    have hend2 : PkEnd w w2 cb vo0 vo2 := PkEnd.trans ⟨d1, d2, d3, d4, d5, d6⟩ ⟨e1, e2, e3, hs2, hst, hvo⟩
    obtain ⟨m1, m2, m3, m4, m5, m6⟩ := hend2
    refine ⟨(show w6.os = _ from hg6.os.trans m1), (show w6.tape = _ from hg6.tape.trans m2), (show w6.output = _ from hg6.output.trans m3), by omega, fun b hb hbc hbv => ?_, m6⟩
    rw [h67 b (by omega) (by omega) (fun e => by have := (hkl b e).1; omega)]
    exact m5 b hb hbc hbv
  · intro g hg
    refine ⟨(hap2 g hg).1, ?_⟩
    rcases hat6 with h | h
    · rw [h]; exact (hap2 g hg).2
    · rw [h]; intro e; injection e with e; have := (hol2 g hg).2; omega
  · intro b hb hbc hbv hbC hbk
    rw [h67 b (by omega) hbC hbk]
    exact hst b hb hbc hbv
theorem LaRel.end {w wr w4 : World} {lb cb B C : Nat} {X : Nat → Prop} {vo0 vo vk v4 : Value} {x : Nod} {CS : List Cel} {RS : List Int} {ob : Obj} {vs : List Value} (hC : w.heap.size = C) (hlc : lb < C ∧ cb < C ∧ B ≤ C) (hX : ∀ q, X q → q < C) (hXc : X cb) (hne : lb ≠ cb) (hvo : vo.ownBlock ≠ some lb ∧ vo.ownBlock ≠ some cb)
    (g1 : wr.heap[lb]? = some (.cells #[.func (.func 75) #[] #[.pointer (some ⟨lb, 0, none⟩), .pointer (some ⟨cb, 0, none⟩)]] 53 (0, 0))) (g2 : wr.heap[cb]? = some (.cells #[vo] 22 (0, 0)))
    (hf : CsF wr (Sb B (Xc X C vk) wr vo) vs CS)
    (hk : wr.ownsRow (C + 1) 3 1 vk RS.length (ints RS)) (hend : PkEnd w wr cb vo0 vo) (hap : ∀ g, vo.ownBlock = some g → g ≠ C ∧ vk.ownBlock ≠ some g)
    (ho4 : w4.ownsRow B 51 5 v4 (CS.length + 1) (flat CS vs ++ [.int .i64 x.k, .int .i64 x.n, .string x.a, .string x.m, vk])) (hg4 : (wr.alloc ob).grownBy w4 vo.ownBlock) (hat4 : v4.ownBlock = vo.ownBlock ∨ v4.ownBlock = some (wr.heap.size + 1)) :
    PkSt (w4.setCell ⟨cb, 0, none⟩ v4) lb cb B X v4 (CS ++ [⟨x, RS⟩]) ∧ PkEnd w (w4.setCell ⟨cb, 0, none⟩ v4) cb vo0 v4 := by
  have hkl := hk.lt
  have h4l := ho4.lt
  have hsa : (wr.alloc ob).heap.size = wr.heap.size + 1 := by simp
  have hs4 := hg4.size
  have hsz7 : (w4.setCell ⟨cb, 0, none⟩ v4).heap.size = w4.heap.size := by simp [World.setCell]
  have hw : w.heap.size ≤ wr.heap.size := hend.2.2.2.1
  have hst : ∀ b, b < wr.heap.size → b ≠ cb → vo.ownBlock ≠ some b → (w4.setCell ⟨cb, 0, none⟩ v4).heap[b]? = wr.heap[b]? := by
    intro b h1 h2 h3
    rw [Below.heap_setCell _ _ _ _ h2, hg4.block b (by omega) (fun e => h3 e.symm), Below.heap_alloc _ _ _ h1]
  obtain ⟨hvl, hvc⟩ := hvo
  have hlr := heap_lt g1
  have hcr := heap_lt g2
  have hc4 : w4.heap[cb]? = some (.cells #[vo] 22 (0, 0)) := by
    rw [hg4.block cb (by have := heap_lt g2; omega) (fun e => hvc e.symm), Below.heap_alloc _ _ _ (heap_lt g2)]
    exact g2
  have hS : ∀ q, B ≤ q → q < wr.heap.size → vo.ownBlock ≠ some q → ¬ X q → Sb B X (w4.setCell ⟨cb, 0, none⟩ v4) v4 q := by
    intro q h1 h2 h3 h4
    refine ⟨h1, by omega, ?_, h4⟩
    rcases hat4 with h | h
    · rw [h]; exact h3
    · rw [h]; intro e; injection e with e; omega
  refine ⟨⟨?_, ?_, ?_, vs ++ [vk], ?_, ?_⟩, ?_⟩
  · rw [hst lb (heap_lt g1) hne hvl]; exact g1
  · rw [block_set _ hc4]; rfl
  · rcases hat4 with h | h
    · rw [h]; exact ⟨hvl, hvc⟩
    · rw [h]
      exact ⟨fun e => by injection e with e; omega, fun e => by injection e with e; omega⟩
  · have h4c : v4.ownBlock ≠ some cb := by
      rcases hat4 with h | h
      · rw [h]; exact hvc
      · rw [h]; intro e; injection e with e; omega
    rw [flat_app _ _ hf.len, List.length_append]
    exact own_setCell ho4 _ _ fun g hg => fun e => h4c (by rw [hg, e])
  · refine CsF.app (hf.keep (fun q hq => hS q hq.1 hq.2.1 hq.2.2.1 fun hx => hq.2.2.2 (.inl hx)) fun b hb => hst b hb.2.1 (fun e => hb.2.2.2 (.inl (by rw [e]; exact hXc))) hb.2.2.1) ⟨?_, trivial⟩
    refine (SpS.own (S := fun q' => vk.ownBlock = some q') hk fun g hg => hg).keep (fun q' h => hS q' (by have := (hkl q' h).1; omega) (hkl q' h).2 (fun e => (hap q' e).2 h) fun hx => by have := (hkl q' h).1; have := hX q' hx; omega) fun b h => hst b (hkl b h).2 (by have := (hkl b h).1; omega) fun e => (hap b e).2 h
  · obtain ⟨m1, m2, m3, m4, m5, m6⟩ := hend
    refine ⟨(show w4.os = _ from hg4.os.trans m1), (show w4.tape = _ from hg4.tape.trans m2), (show w4.output = _ from hg4.output.trans m3), by omega, fun b hb hbc hbv => ?_, ?_⟩
    · rw [hst b (by omega) hbc ?_]
      · exact m5 b hb hbc hbv
      · rcases m6 with h | h
        · rw [h]; exact hbv
        · intro e; have := h b e; omega
    · rcases hat4 with h | h
      · rw [h]; exact m6
      · exact .inr fun g hg => by rw [h] at hg; injection hg with hg; omega
end Go.Proofs.YtofgniceilbpaaaDoor
namespace Go.Proofs.YtofgniceilbpaaaDoor
open Go.RowKit

theorem PkSt.below {w w' : World} {lb cb B : Nat} {X : Nat → Prop} {vo : Value} {cs : List Cel} (h : PkSt w lb cb B X vo cs) (hb : Below w.heap.size w w') : PkSt w' lb cb B X vo cs := by
  obtain ⟨h1, h2, h3, vs, ho, hf⟩ := h
  have hs := hb.size
  exact ⟨heap_below h1 hb, heap_below h2 hb, h3, vs, own_below ho hb, hf.keep (fun q hq => ⟨hq.1, by have := hq.2.1; omega, hq.2.2⟩) fun b hb' => hb.block b hb'.2.1⟩
theorem PkSt.more {w : World} {lb cb B : Nat} {X X' : Nat → Prop} {vo : Value} {cs : List Cel} (h : PkSt w lb cb B X vo cs) (hX : ∀ q, q < w.heap.size → X' q → X q) : PkSt w lb cb B X' vo cs := by
  obtain ⟨h1, h2, h3, vs, ho, hf⟩ := h
  exact ⟨h1, h2, h3, vs, ho, hf.keep (fun q hq => ⟨hq.1, hq.2.1, hq.2.2.1, fun hx => hq.2.2.2 (hX q hq.2.1 hx)⟩) fun _ _ => rfl⟩
end Go.Proofs.YtofgniceilbpaaaDoor
