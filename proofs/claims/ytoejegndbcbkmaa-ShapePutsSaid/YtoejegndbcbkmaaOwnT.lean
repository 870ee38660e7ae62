/-
  Trees that a call makes: a row of pointers of its own, and the node that holds it.
-/
import Derived.Test.YtoejegndbcbkmaaHp
namespace Go.Proofs.Ytoejegndbcbkmaa
open Go.RowKit

theorem own_below {w w' : World} {base : Nat} {e : TypeId} {size : Nat} {v : Value} {n : Nat} {xs : List Value} (h : w.ownsRow base e size v n xs) (hb : Below w.heap.size w w') : w'.ownsRow base e size v n xs := by
  refine ⟨h.1, ?_⟩
  rcases h.2 with h2 | ⟨g, cap, cur, hv, hbg, hh, d⟩
  · exact .inl h2
  · exact .inr ⟨g, cap, cur, hv, hbg, heap_below hh hb, d⟩
/-- The values lead to these trees. -/
def PtF (w : World) (S : Nat → Prop) : List Value → Fr → Prop
  | [], .nil => True
  | v :: vs, .cons x ks rs => InT w S v (x, ks) ∧ PtF w S vs rs
  | _, _ => False
theorem PtF.len {w : World} {S : Nat → Prop} : ∀ {vs : List Value} {f : Fr}, PtF w S vs f → vs.length = f.len
  | [], .nil, _ => rfl
  | [], .cons _ _ _, h => h.elim
  | _ :: _, .nil, h => h.elim
  | v :: vs, .cons x ks rs, h => by simp only [List.length_cons, Fr.len, PtF.len (vs := vs) (f := rs) h.2]
theorem PtF.keep {w w' : World} {S S' : Nat → Prop} (hS : ∀ q, S q → S' q) (hk : ∀ b, S b → w'.heap[b]? = w.heap[b]?) : ∀ {vs : List Value} {f : Fr}, PtF w S vs f → PtF w' S' vs f
  | [], .nil, _ => trivial
  | [], .cons _ _ _, h => h.elim
  | _ :: _, .nil, h => h.elim
  | _ :: vs, .cons _ _ rs, h => ⟨h.1.keep hS hk, PtF.keep hS hk (vs := vs) (f := rs) h.2⟩
theorem PtF.snoc {w : World} {S : Nat → Prop} {v : Value} {t : Tr} (hv : InT w S v t) : ∀ {vs : List Value} {f : Fr}, PtF w S vs f → PtF w S (vs ++ [v]) (f.app (.cons t.1 t.2 .nil))
  | [], .nil, _ => ⟨hv, trivial⟩
  | [], .cons _ _ _, h => h.elim
  | _ :: _, .nil, h => h.elim
  | _ :: vs, .cons _ _ rs, h => ⟨h.1, PtF.snoc hv (vs := vs) (f := rs) h.2⟩
theorem PtF.one {w : World} {S : Nat → Prop} : ∀ {vs : List Value} {f : Fr}, PtF w S vs f → ∀ u ∈ vs, u.oneCell' = true
  | [], .nil, _, u, hu => by cases hu
  | [], .cons _ _ _, h, _, _ => h.elim
  | _ :: _, .nil, h, _, _ => h.elim
  | v :: vs, .cons x ks rs, h, u, hu => by
    rcases List.mem_cons.1 hu with rfl | hu
    · obtain ⟨q, p, rfl⟩ := h.1.ptr
      rfl
    · exact PtF.one (vs := vs) (f := rs) h.2 u hu
/-- Cells that hold the values make a row of trees. -/
theorem PtF.row {w : World} {S : Nat → Prop} {b : Nat} : ∀ {vs : List Value} {f : Fr} {o : Nat}, PtF w S vs f → (∀ (j : Nat) u, vs[j]? = some u → w.cell? ⟨b, o + j, none⟩ = some u) → InF w S f b o
  | [], .nil, _, _, _ => trivial
  | [], .cons _ _ _, _, h, _ => h.elim
  | _ :: _, .nil, _, h, _ => h.elim
  | v :: vs, .cons x ks rs, o, h, hc => by
    refine ⟨⟨v, by have := hc 0 v rfl; rwa [Nat.add_zero] at this, h.1⟩, PtF.row (vs := vs) (f := rs) h.2 fun j u hu => ?_⟩
    rw [show o + 1 + j = o + (j + 1) by omega]
    exact hc (j + 1) u hu
/-- A row of the call's own, of pointers that lead to trees. -/
def OwnT (w : World) (base : Nat) (e : TypeId) (v : Value) (S : Nat → Prop) (f : Fr) : Prop := ∃ ps, w.ownsRow base e 1 v f.len ps ∧ PtF w S ps f
theorem OwnT.nil (w : World) (base : Nat) (e : TypeId) (S : Nat → Prop) : OwnT w base e (.slice none 0 0) S .nil := ⟨[], World.ownsRow_nil _ _ _ _, trivial⟩
/-- A node of five cells in a block of its own, and its row: a tree. -/
theorem OwnT.tree {w : World} {base : Nat} {e e' : TypeId} {v : Value} {S : Nat → Prop} {f : Fr} {x : Nod} {b : Nat} (h : OwnT w base e v S f)
    (hb : w.heap[b]? = some (.cells #[.int .i64 x.k, .int .i64 x.n, .string x.a, .string x.m, v] e' (0, 0))) (hS : S b) (hg : ∀ g, v.ownBlock = some g → S g) : InT w S (.pointer (some ⟨b, 0, none⟩)) (x, f) := by
  have c : ∀ i u, (#[Value.int .i64 x.k, .int .i64 x.n, .string x.a, .string x.m, v] : Array Value)[i]? = some u → w.cell? ⟨b, i, none⟩ = some u := by
    intro i u hu
    rw [cell_of_row w b i _ _ _ hb]
    exact hu
  obtain ⟨ps, ho, hp⟩ := h
  have hl := ho.1
  rw [Nat.mul_one] at hl
  rcases ho.2 with ⟨hv, h0⟩ | ⟨g, cap, cur, hv, _, hh, hc, _⟩
  · subst hv
    refine ⟨b, 0, none, 0, rfl, hS, ⟨_, _, hb⟩, c 0 _ rfl, c 1 _ rfl, c 2 _ rfl, c 3 _ rfl, ?_, by simp only; omega, fun hn => ?_⟩
    · simp only
      rw [h0]
      exact c 4 _ rfl
    · simp only at hn; omega
  · subst hv
    refine ⟨b, 0, some ⟨g, 0, none⟩, cap, rfl, hS, ⟨_, _, hb⟩, c 0 _ rfl, c 1 _ rfl, c 2 _ rfl, c 3 _ rfl, c 4 _ rfl, hc, fun _ => ⟨g, 0, rfl, hg g rfl, hp.row fun j u hu => ?_⟩⟩
    have h1 := ho.cells (g := g) rfl j u hu
    have e1 : (⟨g, 0, none⟩ : Addr).add j = ⟨g, 0 + j, none⟩ := by unfold Addr.add; split <;> simp_all
    rwa [e1] at h1
/-- A node's block: its five cells. -/
def Nb (w : World) (b : Nat) (x : Nod) (v : Value) : Prop := w.heap[b]? = some (.cells #[.int .i64 x.k, .int .i64 x.n, .string x.a, .string x.m, v] 37 (0, 0))
theorem Nb.cell {w : World} {b : Nat} {x : Nod} {v : Value} (h : Nb w b x v) : w.cell? ⟨b, 4, none⟩ = some v ∧ w.frozen? ⟨b, 4, none⟩ = false := ⟨cell_of_row w b 4 _ _ _ h, frozen_of_row w b 4 _ _ h⟩
theorem Nb.far {w w4 : World} {b : Nat} {x : Nod} {v : Value} {ob : Obj} (h : Nb w b x v) (hg : (w.alloc ob).grownBy w4 v.ownBlock) (hv : v.ownBlock ≠ some b) : Nb w4 b x v := by
  have hb := heap_lt h
  have hasz : (w.alloc ob).heap.size = w.heap.size + 1 := by simp
  exact ((hg.block b (by omega) fun e => hv e.symm).trans (((Below.refl w.heap.size w).alloc (Nat.le_refl _) ob).block b hb)).trans h
theorem Nb.store {w : World} {b : Nat} {x : Nod} {v : Value} (h : Nb w b x v) (u : Value) : Nb (w.setCell ⟨b, 4, none⟩ u) b x u := by
  unfold Nb at h ⊢
  simp [World.setCell, Array.getElem?_modify, h]

/-! ### one more kid -/
/-- Blocks of S, and those laid from H on that are neither H nor the row's. -/
def Sk (S : Nat → Prop) (H : Nat) (w : World) (v : Value) (q : Nat) : Prop := S q ∨ (H < q ∧ q < w.heap.size ∧ v.ownBlock ≠ some q)
theorem own_setCell {w : World} {base : Nat} {e : TypeId} {size : Nat} {v : Value} {n : Nat} {xs : List Value} (h : w.ownsRow base e size v n xs) (a : Addr) (u : Value) (ha : ∀ g, v.ownBlock = some g → g ≠ a.block) : (w.setCell a u).ownsRow base e size v n xs := by
  refine ⟨h.1, ?_⟩
  rcases h.2 with h2 | ⟨g, cap, cur, hv, hbg, hh, d⟩
  · exact .inl h2
  · refine .inr ⟨g, cap, cur, hv, hbg, ?_, d⟩
    rw [Below.heap_setCell _ _ _ _ (ha g (by rw [hv]; rfl))]
    exact hh
theorem cell_setCell {w : World} (a p : Addr) (u : Value) (h : p.block ≠ a.block) : (w.setCell a u).cell? p = w.cell? p := World.cell?_of_block (Below.heap_setCell _ _ _ _ h)
theorem kid_more {w wa w4 : World} {H : Nat} {S : Nat → Prop} {e : TypeId} {vk v' u : Value} {new : Fr} {x : Nod} {t : Tr} {ps : List Value} {ob : Obj} (hS : Bel S H)
    (hb : Below H w wa) (hn : Nb wa H x vk) (hp : PtF wa (Sk S H wa vk) ps new) (hv : vk.ownBlock ≠ some H) (hu : InT wa (Sk S H wa vk) u t)
    (ho : w4.ownsRow (H + 1) e 1 v' (new.len + 1) (ps ++ [u])) (hg : (wa.alloc ob).grownBy w4 vk.ownBlock) (hat : v'.ownBlock = vk.ownBlock ∨ v'.ownBlock = some (wa.heap.size + 1)) (hvl : ∀ g, vk.ownBlock = some g → H + 1 ≤ g) :
    OwnT (w4.setCell ⟨H, 4, none⟩ v') (H + 1) e v' (Sk S H (w4.setCell ⟨H, 4, none⟩ v') v') (new.app (.cons t.1 t.2 .nil)) ∧ Nb (w4.setCell ⟨H, 4, none⟩ v') H x v' ∧ Below H w (w4.setCell ⟨H, 4, none⟩ v') ∧ v'.ownBlock ≠ some H ∧ (∀ g, v'.ownBlock = some g → H + 1 ≤ g) := by
  have hasz : (wa.alloc ob).heap.size = wa.heap.size + 1 := by simp
  have hsa : wa.heap.size + 1 ≤ w4.heap.size := by have := hg.size; omega
  have hHa : H < wa.heap.size := heap_lt hn
  have hv'H : ∀ g, v'.ownBlock = some g → H + 1 ≤ g := by
    intro g hgv
    rcases hat with h | h
    · exact hvl g (by rw [← h]; exact hgv)
    · rw [h] at hgv; injection hgv with hgv; omega
  have hv'n : v'.ownBlock ≠ some H := fun h => by have := hv'H H h; omega
  have hal : ∀ k, k < wa.heap.size → (wa.alloc ob).heap[k]? = wa.heap[k]? := fun k hk => ((Below.refl wa.heap.size wa).alloc (Nat.le_refl _) ob).block k hk
  have hblk : ∀ k, k < wa.heap.size → vk.ownBlock ≠ some k → w4.heap[k]? = wa.heap[k]? := fun k hk hne => (hg.block k (by omega) (fun h => hne h.symm)).trans (hal k hk)
  have hsz5 : (w4.setCell ⟨H, 4, none⟩ v').heap.size = w4.heap.size := by simp [World.setCell]
  have hkeep : ∀ b, Sk S H wa vk b → (w4.setCell ⟨H, 4, none⟩ v').heap[b]? = wa.heap[b]? := by
    intro b hpS
    have hne : b ≠ H := by
      rcases hpS with h | h
      · have := hS _ h; omega
      · omega
    rw [Below.heap_setCell _ _ _ _ hne]
    refine hblk _ ?_ ?_
    · rcases hpS with h | h
      · have := hS _ h; omega
      · exact h.2.1
    · rcases hpS with h | h
      · intro he; have := hvl _ he; have := hS _ h; omega
      · exact h.2.2
  have hSk : ∀ q, Sk S H wa vk q → Sk S H (w4.setCell ⟨H, 4, none⟩ v') v' q := by
    rintro q (h | ⟨h1, h2, h3⟩)
    · exact .inl h
    · refine .inr ⟨h1, by rw [hsz5]; omega, ?_⟩
      rcases hat with h | h
      · rw [h]; exact h3
      · rw [h]; intro he; injection he with he; omega
  refine ⟨⟨ps ++ [u], ?_, PtF.snoc (hu.keep hSk hkeep) (hp.keep hSk hkeep)⟩, ?_, ?_, hv'n, hv'H⟩
  · rw [Fr.len_app]
    exact own_setCell ho _ _ fun g hg' => by have := hv'H g hg'; simp only; omega
  · have h4 : Nb w4 H x vk := (hblk H hHa hv).trans hn
    exact h4.store v'
  · exact ((hb.alloc (by omega) ob).grown hg (by omega) (fun k hk => by have := hvl k hk; omega)).setCell (Nat.le_refl _) _
end Go.Proofs.Ytoejegndbcbkmaa
