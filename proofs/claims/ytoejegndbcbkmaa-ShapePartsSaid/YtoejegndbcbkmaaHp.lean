/-
  Trees in memory: what lies there reads as a tree.
-/
import Derived.Test.YtoejegndbcbkmaaCel
import Derived.Test.YtoejegndbcbkmaaRows
import Derived.WalkKit
import Derived.WalkSpells
import Derived.WalkLawsBesides
import Derived.Outline
import Derived.Deep.AppendLies
import Derived.Deep.QuietTactic
import Derived.BigQuiet
import Derived.Deep.DeepMust
import Derived.OwnWalk
import Derived.Lib.Hide
import Derived.Lib.OthersKept
import Derived.WalkSmall
import Derived.Laws.Rows
namespace Go.Proofs.Ytoejegndbcbkmaa
open Go.RowKit

/-! ### small words -/
theorem chn {w w1 w2 : World} (h : Below w.heap.size w w1) (h' : Below w1.heap.size w1 w2) : Below w.heap.size w w2 := h.trans (h'.mono h.size)
theorem i64_eq {a b : Int} (h : a = b) : Value.int .i64 a = .int .i64 b := by rw [h]
theorem ret_i64 {a b : Int} (h : a = b) : Ending.returned (.int .i64 b) = .returned (.int .i64 a) := by rw [h]
theorem ret_b {a b : Bool} (h : a = b) : Ending.returned (.bool b) = .returned (.bool a) := by rw [h]
theorem below_drewN' {B : Nat} {a w : World} (h : Below B a w) (n : Nat) : Below B a (w.drewN n) := h.trans ⟨rfl, rfl, rfl, Nat.le_refl _, fun _ _ => rfl⟩
theorem addBlock (a : Addr) (n : Nat) : (a.add n).block = a.block := by unfold Addr.add; split <;> rfl
theorem cell_lt {w : World} {a : Addr} {v : Value} (h : w.cell? a = some v) : a.block < w.heap.size := by
  rcases Nat.lt_or_ge a.block w.heap.size with h' | h'
  · exact h'
  · simp [World.cell?, Array.getElem?_eq_none h'] at h
theorem heap_lt {w : World} {g : Nat} {o : Obj} (h : w.heap[g]? = some o) : g < w.heap.size := by
  rcases Nat.lt_or_ge g w.heap.size with h' | h'
  · exact h'
  · rw [Array.getElem?_eq_none h'] at h; cases h
theorem heap_below {w w' : World} {g : Nat} {o : Obj} (h : w.heap[g]? = some o) (hb : Below w.heap.size w w') : w'.heap[g]? = some o := (hb.block g (heap_lt h)).trans h

/-- The block is a plain one: of cells, none of them held. -/
def Pln (w : World) (b : Nat) : Prop := ∃ cs e, w.heap[b]? = some (.cells cs e (0, 0))
/-- A node's five cells, all in blocks of S; of its n kids K tells. -/
def Nd (w : World) (S : Nat → Prop) (v : Value) (x : Nod) (n : Nat) (K : Nat → Nat → Prop) : Prop :=
  ∃ q p A c, v = .pointer (some ⟨q, p, none⟩) ∧ S q ∧ Pln w q ∧ w.cell? ⟨q, p, none⟩ = some (.int .i64 x.k) ∧ w.cell? ⟨q, p + 1, none⟩ = some (.int .i64 x.n) ∧ w.cell? ⟨q, p + 2, none⟩ = some (.string x.a) ∧
    w.cell? ⟨q, p + 3, none⟩ = some (.string x.m) ∧ w.cell? ⟨q, p + 4, none⟩ = some (.slice A n c) ∧ n ≤ c ∧ (0 < n → ∃ kb ko, A = some ⟨kb, ko, none⟩ ∧ S kb ∧ K kb ko)
/-- A row of pointers that lead to these trees. -/
def InF (w : World) (S : Nat → Prop) : Fr → Nat → Nat → Prop
  | .nil, _, _ => True
  | .cons x ks rs, b, o => (∃ v, w.cell? ⟨b, o, none⟩ = some v ∧ Nd w S v x ks.len (InF w S ks)) ∧ InF w S rs b (o + 1)
/-- The value leads to this tree. -/
def InT (w : World) (S : Nat → Prop) (v : Value) (t : Tr) : Prop := Nd w S v t.1 t.2.len (InF w S t.2)
def InO (w : World) (S : Nat → Prop) (v : Value) : Option Tr → Prop
  | none => v = .pointer none
  | some t => InT w S v t
theorem InF.keep {w w' : World} {S S' : Nat → Prop} {t : Fr} (hS : ∀ q, S q → S' q) (hk : ∀ b, S b → w'.heap[b]? = w.heap[b]?) : ∀ {b o : Nat}, S b → InF w S t b o → InF w' S' t b o := by
  induction t with
  | nil => intro b o _ _; trivial
  | cons x ks rs ihk ihr =>
    intro b o hb h
    have hk' := fun (p : Addr) (hp : S p.block) => World.cell?_of_block (w := w) (w' := w') (hk p.block hp)
    obtain ⟨⟨v, hv, q, p, A, c, e, hq, ⟨xs, te, hx⟩, h0, h1, h2, h3, h4, hc, hkids⟩, hr⟩ := h
    refine ⟨⟨v, (hk' ⟨b, o, none⟩ hb).trans hv, q, p, A, c, e, hS q hq, ⟨xs, te, (hk q hq).trans hx⟩, (hk' ⟨q, p, none⟩ hq).trans h0, (hk' ⟨q, p + 1, none⟩ hq).trans h1, (hk' ⟨q, p + 2, none⟩ hq).trans h2, (hk' ⟨q, p + 3, none⟩ hq).trans h3, (hk' ⟨q, p + 4, none⟩ hq).trans h4, hc, fun hn => ?_⟩, ihr hb hr⟩
    obtain ⟨kb, ko, hA, h5, h7⟩ := hkids hn
    exact ⟨kb, ko, hA, hS kb h5, ihk h5 h7⟩
theorem InT.keep {w w' : World} {S S' : Nat → Prop} {v : Value} {t : Tr} (h : InT w S v t) (hS : ∀ q, S q → S' q) (hk : ∀ b, S b → w'.heap[b]? = w.heap[b]?) : InT w' S' v t := by
  have hk' := fun (p : Addr) (hp : S p.block) => World.cell?_of_block (w := w) (w' := w') (hk p.block hp)
  obtain ⟨q, p, A, c, e, hq, ⟨xs, te, hx⟩, h0, h1, h2, h3, h4, hc, hkids⟩ := h
  refine ⟨q, p, A, c, e, hS q hq, ⟨xs, te, (hk q hq).trans hx⟩, (hk' ⟨q, p, none⟩ hq).trans h0, (hk' ⟨q, p + 1, none⟩ hq).trans h1, (hk' ⟨q, p + 2, none⟩ hq).trans h2, (hk' ⟨q, p + 3, none⟩ hq).trans h3, (hk' ⟨q, p + 4, none⟩ hq).trans h4, hc, fun hn => ?_⟩
  obtain ⟨kb, ko, hA, h5, h7⟩ := hkids hn
  exact ⟨kb, ko, hA, hS kb h5, InF.keep hS hk h5 h7⟩
/-- All blocks of S lie below B. -/
def Bel (S : Nat → Prop) (B : Nat) : Prop := ∀ q, S q → q < B
theorem InT.below {w w' : World} {S : Nat → Prop} {B : Nat} {v : Value} {t : Tr} (h : InT w S v t) (hS : Bel S B) (hb : Below B w w') : InT w' S v t := h.keep (fun _ h => h) fun _ hp => hb.block _ (hS _ hp)
theorem InO.keep {w w' : World} {S S' : Nat → Prop} {v : Value} {t : Option Tr} (h : InO w S v t) (hS : ∀ q, S q → S' q) (hk : ∀ b, S b → w'.heap[b]? = w.heap[b]?) : InO w' S' v t := by
  cases t with
  | none => exact h
  | some t => exact InT.keep h hS hk
theorem InO.below {w w' : World} {S : Nat → Prop} {B : Nat} {v : Value} {t : Option Tr} (h : InO w S v t) (hS : Bel S B) (hb : Below B w w') : InO w' S v t := h.keep (fun _ h => h) fun _ hp => hb.block _ (hS _ hp)
/-- Kids from a place on. -/
def Kid (w : World) (S : Nat → Prop) (A : Option Addr) (rest : Fr) (i : Nat) : Prop := 0 < rest.len → ∃ kb ko, A = some ⟨kb, ko, none⟩ ∧ S kb ∧ InF w S rest kb (ko + i)
theorem Kid.next {w : World} {S : Nat → Prop} {A : Option Addr} {x : Nod} {k r : Fr} {i : Nat} (h : Kid w S A (.cons x k r) i) :
    ∃ kb ko v, A = some ⟨kb, ko, none⟩ ∧ S kb ∧ w.cell? ⟨kb, ko + i, none⟩ = some v ∧ InT w S v (x, k) ∧ Kid w S A r (i + 1) := by
  obtain ⟨kb, ko, hA, h1, ⟨v, hv, hn⟩, hr⟩ := h (Nat.succ_pos _)
  exact ⟨kb, ko, v, hA, h1, hv, hn, fun _ => ⟨kb, ko, hA, h1, hr⟩⟩
theorem Kid.keep {w w' : World} {S S' : Nat → Prop} {A : Option Addr} {r : Fr} {i : Nat} (h : Kid w S A r i) (hS : ∀ q, S q → S' q) (hk : ∀ b, S b → w'.heap[b]? = w.heap[b]?) : Kid w' S' A r i := by
  intro h0
  obtain ⟨kb, ko, hA, h1, h3⟩ := h h0
  exact ⟨kb, ko, hA, hS kb h1, InF.keep hS hk h1 h3⟩
theorem Fr.cut {f : Fr} (h : 0 < f.len) : ∃ x k r, f = .cons x k r := by
  cases f with
  | nil => exact absurd h (Nat.lt_irrefl _)
  | cons x k r => exact ⟨x, k, r, rfl⟩
theorem Fr.app_cons (a : Fr) (x : Nod) (k r : Fr) : a.app (.cons x k r) = (a.app (.cons x k .nil)).app r := by rw [Fr.app_assoc]; rfl
theorem InT.open {w : World} {S : Nat → Prop} {v : Value} {x : Nod} {ks : Fr} (h : InT w S v (x, ks)) :
    ∃ q p A c, v = .pointer (some ⟨q, p, none⟩) ∧ S q ∧ w.cell? ⟨q, p, none⟩ = some (.int .i64 x.k) ∧ w.cell? ⟨q, p + 1, none⟩ = some (.int .i64 x.n) ∧ w.cell? ⟨q, p + 2, none⟩ = some (.string x.a) ∧
    w.cell? ⟨q, p + 3, none⟩ = some (.string x.m) ∧ w.cell? ⟨q, p + 4, none⟩ = some (.slice A ks.len c) ∧ ks.len ≤ c ∧ Kid w S A ks 0 := by
  obtain ⟨q, p, A, c, hv, hq, _, h⟩ := h
  exact ⟨q, p, A, c, hv, hq, h⟩
theorem InT.pln {w : World} {S : Nat → Prop} {q p : Nat} {t : Tr} (h : InT w S (.pointer (some ⟨q, p, none⟩)) t) : Pln w q := by
  obtain ⟨q', p', A, c, hv, _, hp, _⟩ := h
  injection hv with hv
  injection hv with hv
  injection hv with hv
  rw [hv]
  exact hp
theorem InT.ptr {w : World} {S : Nat → Prop} {v : Value} {t : Tr} (h : InT w S v t) : ∃ q p, v = .pointer (some ⟨q, p, none⟩) := by
  obtain ⟨q, p, _, _, hv, _⟩ := h
  exact ⟨q, p, hv⟩
theorem InT.drew {w : World} {S : Nat → Prop} {v : Value} {t : Tr} (h : InT w S v t) (q : Nat) : InT (w.drewN q) S v t := h.keep (fun _ h => h) fun _ _ => rfl
theorem InO.drew {w : World} {S : Nat → Prop} {v : Value} {t : Option Tr} (h : InO w S v t) (q : Nat) : InO (w.drewN q) S v t := h.keep (fun _ h => h) fun _ _ => rfl
theorem Kid.drew {w : World} {S : Nat → Prop} {A : Option Addr} {r : Fr} {i : Nat} (h : Kid w S A r i) (q : Nat) : Kid (w.drewN q) S A r i := h.keep (fun _ h => h) fun _ _ => rfl
end Go.Proofs.Ytoejegndbcbkmaa
