/-
  Lists of cells that a call makes: a row of structs of its own.
-/
import Derived.Test.YtoejegndbcbkmaaCls
import Derived.Test.YtoejegndbcbkmaaPth
import Derived.Test.YtoejegndbcbkmaaPtu
namespace Go.Proofs.Ytoejegndbcbkmaa
open Go.RowKit

/-- The value is a slice of these numbers, in a block of S. -/
def SpS (w : World) (S : Nat → Prop) (v : Value) (l : List Int) : Prop :=
  ∃ A c, v = .slice A l.length c ∧ l.length ≤ c ∧ ∀ (j : Nat) (u : Int), l[j]? = some u → ∃ b o, A = some ⟨b, o, none⟩ ∧ S b ∧ w.cell? ⟨b, o + j, none⟩ = some (.int .i64 u)
theorem SpS.keep {w w' : World} {S S' : Nat → Prop} {v : Value} {l : List Int} (h : SpS w S v l) (hS : ∀ q, S q → S' q) (hk : ∀ b, S b → w'.heap[b]? = w.heap[b]?) : SpS w' S' v l := by
  obtain ⟨A, c, hv, hc, hl⟩ := h
  refine ⟨A, c, hv, hc, fun j u hu => ?_⟩
  obtain ⟨b, o, hA, hb, hcell⟩ := hl j u hu
  exact ⟨b, o, hA, hS b hb, (World.cell?_of_block (w := w) (hk b hb)).trans hcell⟩
theorem SpS.sp {w : World} {S : Nat → Prop} {B : Nat} {v : Value} {l : List Int} (h : SpS w S v l) (hB : Bel S B) : Sp w B v l := by
  obtain ⟨A, c, hv, hc, hl⟩ := h
  refine ⟨A, c, hv, hc, fun j u hu => ?_⟩
  obtain ⟨b, o, hA, hb, hcell⟩ := hl j u hu
  exact ⟨b, o, hA, hB b hb, hcell⟩
theorem SpS.one {w : World} {S : Nat → Prop} {v : Value} {l : List Int} (h : SpS w S v l) : v.oneCell' = true := by
  obtain ⟨A, c, rfl, _⟩ := h
  rfl
theorem ints_at {l : List Int} {j : Nat} {u : Int} (h : l[j]? = some u) : (ints l)[j]? = some (.int .i64 u) := by
  unfold ints
  rw [List.getElem?_map, h]
  rfl
/-- A row of numbers that the call owns. -/
theorem SpS.own {w : World} {S : Nat → Prop} {B : Nat} {v : Value} {l : List Int} {e : TypeId} (h : w.ownsRow B e 1 v l.length (ints l)) (hS : ∀ g, v.ownBlock = some g → S g) : SpS w S v l := by
  rcases h.2 with ⟨rfl, h0⟩ | ⟨g, cap, cur, rfl, _, _, hc, _⟩
  · have : l = [] := List.length_eq_zero_iff.1 h0
    subst this
    exact ⟨none, 0, rfl, Nat.le_refl _, fun j u hu => by simp at hu⟩
  · refine ⟨_, cap, rfl, hc, fun j u hu => ⟨g, 0, rfl, hS g rfl, ?_⟩⟩
    have h1 := h.cells (g := g) rfl j _ (ints_at hu)
    have e1 : (⟨g, 0, none⟩ : Addr).add j = ⟨g, 0 + j, none⟩ := by unfold Addr.add; split <;> simp_all
    rwa [e1] at h1
/-- The cells' values, with these for the kids. -/
def flat : List Cel → List Value → List Value
  | [], _ => []
  | _ :: _, [] => []
  | c :: cs, kv :: vs => .int .i64 c.x.k :: .int .i64 c.x.n :: .string c.x.a :: .string c.x.m :: kv :: flat cs vs
def CsF (w : World) (S : Nat → Prop) : List Value → List Cel → Prop
  | [], [] => True
  | kv :: vs, c :: cs => SpS w S kv c.ks ∧ CsF w S vs cs
  | _, _ => False
theorem CsF.len {w : World} {S : Nat → Prop} : ∀ {vs : List Value} {cs : List Cel}, CsF w S vs cs → vs.length = cs.length
  | [], [], _ => rfl
  | [], _ :: _, h => h.elim
  | _ :: _, [], h => h.elim
  | _ :: vs, _ :: cs, h => by simp only [List.length_cons, CsF.len (vs := vs) (cs := cs) h.2]
theorem CsF.keep {w w' : World} {S S' : Nat → Prop} (hS : ∀ q, S q → S' q) (hk : ∀ b, S b → w'.heap[b]? = w.heap[b]?) : ∀ {vs : List Value} {cs : List Cel}, CsF w S vs cs → CsF w' S' vs cs
  | [], [], _ => trivial
  | [], _ :: _, h => h.elim
  | _ :: _, [], h => h.elim
  | _ :: vs, _ :: cs, h => ⟨h.1.keep hS hk, CsF.keep hS hk (vs := vs) (cs := cs) h.2⟩
theorem CsF.app {w : World} {S : Nat → Prop} : ∀ {vs us : List Value} {cs ds : List Cel}, CsF w S vs cs → CsF w S us ds → CsF w S (vs ++ us) (cs ++ ds)
  | [], _, [], _, _, h => h
  | [], _, _ :: _, _, h, _ => h.elim
  | _ :: _, _, [], _, h, _ => h.elim
  | _ :: vs, _, _ :: cs, _, h, h' => ⟨h.1, CsF.app (vs := vs) (cs := cs) h.2 h'⟩
theorem flat_app : ∀ {cs : List Cel} {vs : List Value} (ds : List Cel) (us : List Value), vs.length = cs.length → flat (cs ++ ds) (vs ++ us) = flat cs vs ++ flat ds us
  | [], [], _, _, _ => rfl
  | [], _ :: _, _, _, h => by simp at h
  | _ :: _, [], _, _, h => by simp at h
  | c :: cs, v :: vs, ds, us, h => by
    simp only [List.cons_append, flat, flat_app (cs := cs) (vs := vs) ds us (by simpa using h)]
theorem flat_len : ∀ {cs : List Cel} {vs : List Value}, vs.length = cs.length → (flat cs vs).length = cs.length * 5
  | [], _, _ => rfl
  | _ :: _, [], h => by simp at h
  | c :: cs, v :: vs, h => by simp only [flat, List.length_cons, flat_len (cs := cs) (vs := vs) (by simpa using h)]; omega
theorem CsF.one {w : World} {S : Nat → Prop} : ∀ {vs : List Value} {cs : List Cel}, CsF w S vs cs → ∀ u ∈ flat cs vs, u.oneCell' = true
  | [], [], _, u, hu => by cases hu
  | [], _ :: _, h, _, _ => h.elim
  | _ :: _, [], h, _, _ => h.elim
  | v :: vs, c :: cs, h, u, hu => by
    unfold flat at hu
    simp only [List.mem_cons] at hu
    rcases hu with rfl | rfl | rfl | rfl | rfl | hu
    · rfl
    · rfl
    · rfl
    · rfl
    · exact h.1.one
    · exact CsF.one (vs := vs) (cs := cs) h.2 u hu
theorem CsF.at {w : World} {S : Nat → Prop} : ∀ {vs : List Value} {cs : List Cel} {j : Nat} {c : Cel}, CsF w S vs cs → cs[j]? = some c → ∃ kv, SpS w S kv c.ks ∧ (flat cs vs)[j * 5]? = some (.int .i64 c.x.k) ∧ (flat cs vs)[j * 5 + 1]? = some (.int .i64 c.x.n) ∧ (flat cs vs)[j * 5 + 2]? = some (.string c.x.a) ∧
    (flat cs vs)[j * 5 + 3]? = some (.string c.x.m) ∧ (flat cs vs)[j * 5 + 4]? = some kv
  | [], [], _, _, _, h => by simp at h
  | [], _ :: _, _, _, h, _ => h.elim
  | _ :: _, [], _, _, h, _ => h.elim
  | v :: vs, c' :: cs, 0, c, h, hc => by
    simp at hc
    subst hc
    exact ⟨v, h.1, rfl, rfl, rfl, rfl, rfl⟩
  | v :: vs, c' :: cs, j + 1, c, h, hc => by
    obtain ⟨kv, h0, h1, h2, h3, h4, h5⟩ := CsF.at (vs := vs) (cs := cs) (j := j) (c := c) h.2 (by simpa using hc)
    have e : ∀ i, (flat (c' :: cs) (v :: vs))[(j + 1) * 5 + i]? = (flat cs vs)[j * 5 + i]? := by
      intro i
      rw [show (j + 1) * 5 + i = (j * 5 + i) + 1 + 1 + 1 + 1 + 1 by omega]
      simp only [flat, List.getElem?_cons_succ]
    exact ⟨kv, h0, (e 0).trans h1, (e 1).trans h2, (e 2).trans h3, (e 3).trans h4, (e 4).trans h5⟩
def OwnC (w : World) (H : Nat) (v : Value) (cs : List Cel) : Prop := ∃ vs, w.ownsRow H 50 5 v cs.length (flat cs vs) ∧ CsF w (So H w v) vs cs
theorem OwnC.nil (w : World) (H : Nat) : OwnC w H (.slice none 0 0) [] := ⟨[], World.ownsRow_nil _ _ _ _, trivial⟩
/-- Cells that the call owns read as a list. -/
theorem OwnC.cls {w : World} {H : Nat} {v : Value} {cs : List Cel} (h : OwnC w H v cs) : Cls w w.heap.size v cs := by
  obtain ⟨vs, ho, hf⟩ := h
  rcases ho.2 with ⟨rfl, h0⟩ | ⟨g, cap, cur, rfl, _, hh, hc, _⟩
  · have : cs = [] := List.length_eq_zero_iff.1 h0
    subst this
    exact ⟨none, 0, rfl, Nat.le_refl _, fun j u hu => by simp at hu⟩
  · refine ⟨_, cap, rfl, hc, fun j u hu => ⟨g, 0, rfl, heap_lt hh, ?_⟩⟩
    obtain ⟨kv, h0, h1, h2, h3, h4, h5⟩ := hf.at hu
    have hcell : ∀ i u, (flat cs vs)[i]? = some u → w.cell? ⟨g, i, none⟩ = some u := fun i u hu => by
      have h1 := ho.cells (g := g) rfl i u hu
      have e1 : (⟨g, 0, none⟩ : Addr).add i = ⟨g, i, none⟩ := by unfold Addr.add; split <;> simp_all
      rwa [e1] at h1
    rw [Nat.zero_add]
    exact ⟨hcell _ _ h1, hcell _ _ h2, hcell _ _ h3, hcell _ _ h4, kv, hcell _ _ h5, h0.sp fun q hq => hq.2.1⟩
theorem OwnC.below {w w' : World} {H : Nat} {v : Value} {cs : List Cel} (h : OwnC w H v cs) (hb : Below w.heap.size w w') : OwnC w' H v cs := by
  obtain ⟨vs, ho, hf⟩ := h
  have hs := hb.size
  exact ⟨vs, own_below ho hb, hf.keep (by rintro q ⟨a, b, c⟩; exact ⟨a, by omega, c⟩) fun b hb' => hb.block b hb'.2.1⟩
theorem infoCel : (Try.prog.info? 50).map (fun i => (i.zero, i.size, i.bytes)) = some (some (.agg #[.int .i64 0, .int .i64 0, .string ⟨#[]⟩, .string ⟨#[]⟩, .slice none 0 0]), 5, 72) := by kernel_rfl
/-- Cells handed back. -/
def CePost (cs : List Cel) (W : World) (e : Ending) (w' : World) : Prop := ∃ v, e = .returned v ∧ OwnC w' W.heap.size v cs ∧ Below W.heap.size W w'
end Go.Proofs.Ytoejegndbcbkmaa
