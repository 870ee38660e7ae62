/-
  Trees that a call makes: a row of pointers of its own, and the node that holds it.
-/
import Derived.Test.YtmiicfdigkkbdaaDoorGt01
import Derived.Deep.RegionHeld3
import Derived.Maps.AppendAt
namespace Go.Proofs.YtmiicfdigkkbdaaDoor
open Go.RowKit

theorem own_below {w w' : World} {base : Nat} {e : TypeId} {size : Nat} {v : Value} {n : Nat} {xs : List Value} (h : w.ownsRow base e size v n xs) (hb : Below w.heap.size w w') : w'.ownsRow base e size v n xs := by
  refine ⟨h.1, ?_⟩
  rcases h.2 with h2 | ⟨g, cap, cur, hv, hbg, hh, d⟩
  · exact .inl h2
  · exact .inr ⟨g, cap, cur, hv, hbg, heap_below hh hb, d⟩
def PtF (w : World) (S : Nat → Prop) : List Value → Fr → Prop
  | [], .nil => True
  | v :: vs, .cons x ks rs => InT w S v (x, ks) ∧ PtF w S vs rs
  | _, _ => False
theorem PtF.len {w : World} {S : Nat → Prop} : ∀ {vs : List Value} {f : Fr}, PtF w S vs f → vs.length = f.len
  | [], .nil, _ => rfl
  | [], .cons _ _ _, h => h.elim
  | _ :: _, .nil, h => h.elim
  | v :: vs, .cons x ks rs, h => by simp only [List.length_cons, Fr.len, PtF.len (vs := vs) (f := rs) h.2]
theorem PtF.keep {w w' : World} {S S' : Nat → Prop} (hS : ∀ q, S q → S' q) (hk : ∀ b, S b → w'.heap[b]? = w.heap[b]?) : ∀ {vs : List Value} {f : Fr}, PtF w S vs f → PtF w' S' vs f
  | [], .nil, _ => trivial
  | [], .cons _ _ _, h => h.elim
  | _ :: _, .nil, h => h.elim
  | _ :: vs, .cons _ _ rs, h => ⟨h.1.keep hS hk, PtF.keep hS hk (vs := vs) (f := rs) h.2⟩
theorem PtF.snoc {w : World} {S : Nat → Prop} {v : Value} {t : Tr} (hv : InT w S v t) : ∀ {vs : List Value} {f : Fr}, PtF w S vs f → PtF w S (vs ++ [v]) (f.app (.cons t.1 t.2 .nil))
  | [], .nil, _ => ⟨hv, trivial⟩
  | [], .cons _ _ _, h => h.elim
  | _ :: _, .nil, h => h.elim
  | _ :: vs, .cons _ _ rs, h => ⟨h.1, PtF.snoc hv (vs := vs) (f := rs) h.2⟩
theorem PtF.one {w : World} {S : Nat → Prop} : ∀ {vs : List Value} {f : Fr}, PtF w S vs f → ∀ u ∈ vs, u.oneCell' = true
  | [], .nil, _, u, hu => by cases hu
  | [], .cons _ _ _, h, _, _ => h.elim
  | _ :: _, .nil, h, _, _ => h.elim
  | v :: vs, .cons x ks rs, h, u, hu => by
    rcases List.mem_cons.1 hu with rfl | hu
    · obtain ⟨q, p, rfl⟩ := h.1.ptr
      rfl
    · exact PtF.one (vs := vs) (f := rs) h.2 u hu
theorem PtF.row {w : World} {S : Nat → Prop} {b : Nat} : ∀ {vs : List Value} {f : Fr} {o : Nat}, PtF w S vs f → (∀ (j : Nat) u, vs[j]? = some u → w.cell? ⟨b, o + j, none⟩ = some u) → InF w S f b o
  | [], .nil, _, _, _ => trivial
  | [], .cons _ _ _, _, h, _ => h.elim
  | _ :: _, .nil, _, h, _ => h.elim
  | v :: vs, .cons x ks rs, o, h, hc => by
    refine ⟨⟨v, by have := hc 0 v rfl; rwa [Nat.add_zero] at this, h.1⟩, PtF.row (vs := vs) (f := rs) h.2 fun j u hu => ?_⟩
    rw [show o + 1 + j = o + (j + 1) by omega]
    exact hc (j + 1) u hu
def OwnT (w : World) (base : Nat) (e : TypeId) (v : Value) (S : Nat → Prop) (f : Fr) : Prop := ∃ ps, w.ownsRow base e 1 v f.len ps ∧ PtF w S ps f
theorem OwnT.nil (w : World) (base : Nat) (e : TypeId) (S : Nat → Prop) : OwnT w base e (.slice none 0 0) S .nil := ⟨[], World.ownsRow_nil _ _ _ _, trivial⟩
theorem OwnT.tree {w : World} {base : Nat} {e e' : TypeId} {v : Value} {S : Nat → Prop} {f : Fr} {x : Nod} {b : Nat} (h : OwnT w base e v S f)
    (hb : w.heap[b]? = some (.cells #[.int .i64 x.k, .int .i64 x.n, .string x.a, .string x.m, v] e' (0, 0))) (hS : S b) (hg : ∀ g, v.ownBlock = some g → S g) : InT w S (.pointer (some ⟨b, 0, none⟩)) (x, f) := by
  have c : ∀ i u, (#[Value.int .i64 x.k, .int .i64 x.n, .string x.a, .string x.m, v] : Array Value)[i]? = some u → w.cell? ⟨b, i, none⟩ = some u := by
    intro i u hu
    rw [cell_of_row w b i _ _ _ hb]
    exact hu
  obtain ⟨ps, ho, hp⟩ := h
  have hl := ho.1
  rw [Nat.mul_one] at hl
  rcases ho.2 with ⟨hv, h0⟩ | ⟨g, cap, cur, hv, _, hh, hc, _⟩
  · subst hv
    refine ⟨b, 0, none, 0, rfl, hS, ⟨_, _, hb⟩, c 0 _ rfl, c 1 _ rfl, c 2 _ rfl, c 3 _ rfl, ?_, by simp only; omega, fun hn => ?_⟩
    · simp only
      rw [h0]
      exact c 4 _ rfl
    · simp only at hn; omega
  · subst hv
    refine ⟨b, 0, some ⟨g, 0, none⟩, cap, rfl, hS, ⟨_, _, hb⟩, c 0 _ rfl, c 1 _ rfl, c 2 _ rfl, c 3 _ rfl, c 4 _ rfl, hc, fun _ => ⟨g, 0, rfl, hg g rfl, hp.row fun j u hu => ?_⟩⟩
    have h1 := ho.cells (g := g) rfl j u hu
    have e1 : (⟨g, 0, none⟩ : Addr).add j = ⟨g, 0 + j, none⟩ := by unfold Addr.add; split <;> simp_all
    rwa [e1] at h1
def Nb (w : World) (b : Nat) (x : Nod) (v : Value) : Prop := w.heap[b]? = some (.cells #[.int .i64 x.k, .int .i64 x.n, .string x.a, .string x.m, v] 40 (0, 0))
theorem Nb.cell {w : World} {b : Nat} {x : Nod} {v : Value} (h : Nb w b x v) : w.cell? ⟨b, 4, none⟩ = some v ∧ w.frozen? ⟨b, 4, none⟩ = false := ⟨cell_of_row w b 4 _ _ _ h, frozen_of_row w b 4 _ _ h⟩
theorem Nb.far {w w4 : World} {b : Nat} {x : Nod} {v : Value} {ob : Obj} (h : Nb w b x v) (hg : (w.alloc ob).grownBy w4 v.ownBlock) (hv : v.ownBlock ≠ some b) : Nb w4 b x v := by
  have hb := heap_lt h
  have hasz : (w.alloc ob).heap.size = w.heap.size + 1 := by simp
  exact ((hg.block b (by omega) fun e => hv e.symm).trans (((Below.refl w.heap.size w).alloc (Nat.le_refl _) ob).block b hb)).trans h
theorem Nb.store {w : World} {b : Nat} {x : Nod} {v : Value} (h : Nb w b x v) (u : Value) : Nb (w.setCell ⟨b, 4, none⟩ u) b x u := by
  unfold Nb at h ⊢
  simp [World.setCell, Array.getElem?_modify, h]

/-! ### one more kid -/
def Sk (S : Nat → Prop) (H : Nat) (w : World) (v : Value) (q : Nat) : Prop := S q ∨ (H < q ∧ q < w.heap.size ∧ v.ownBlock ≠ some q)
theorem own_setCell {w : World} {base : Nat} {e : TypeId} {size : Nat} {v : Value} {n : Nat} {xs : List Value} (h : w.ownsRow base e size v n xs) (a : Addr) (u : Value) (ha : ∀ g, v.ownBlock = some g → g ≠ a.block) : (w.setCell a u).ownsRow base e size v n xs := by
  refine ⟨h.1, ?_⟩
  rcases h.2 with h2 | ⟨g, cap, cur, hv, hbg, hh, d⟩
  · exact .inl h2
  · refine .inr ⟨g, cap, cur, hv, hbg, ?_, d⟩
    rw [Below.heap_setCell _ _ _ _ (ha g (by rw [hv]; rfl))]
    exact hh
theorem kid_more {w wa w4 : World} {H : Nat} {S : Nat → Prop} {e : TypeId} {vk v' u : Value} {new : Fr} {x : Nod} {t : Tr} {ps : List Value} {ob : Obj} (hS : Bel S H)
    (hb : Below H w wa) (hn : Nb wa H x vk) (hp : PtF wa (Sk S H wa vk) ps new) (hv : vk.ownBlock ≠ some H) (hu : InT wa (Sk S H wa vk) u t)
    (ho : w4.ownsRow (H + 1) e 1 v' (new.len + 1) (ps ++ [u])) (hg : (wa.alloc ob).grownBy w4 vk.ownBlock) (hat : v'.ownBlock = vk.ownBlock ∨ v'.ownBlock = some (wa.heap.size + 1)) (hvl : ∀ g, vk.ownBlock = some g → H + 1 ≤ g) :
    OwnT (w4.setCell ⟨H, 4, none⟩ v') (H + 1) e v' (Sk S H (w4.setCell ⟨H, 4, none⟩ v') v') (new.app (.cons t.1 t.2 .nil)) ∧ Nb (w4.setCell ⟨H, 4, none⟩ v') H x v' ∧ Below H w (w4.setCell ⟨H, 4, none⟩ v') ∧ v'.ownBlock ≠ some H ∧ (∀ g, v'.ownBlock = some g → H + 1 ≤ g) := by
  have hasz : (wa.alloc ob).heap.size = wa.heap.size + 1 := by simp
  have hsa : wa.heap.size + 1 ≤ w4.heap.size := by have := hg.size; omega
  have hHa : H < wa.heap.size := heap_lt hn
  have hv'H : ∀ g, v'.ownBlock = some g → H + 1 ≤ g := by
    intro g hgv
    rcases hat with h | h
    · exact hvl g (by rw [← h]; exact hgv)
    · rw [h] at hgv; injection hgv with hgv; omega
  have hv'n : v'.ownBlock ≠ some H := fun h => by have := hv'H H h; omega
  have hal : ∀ k, k < wa.heap.size → (wa.alloc ob).heap[k]? = wa.heap[k]? := fun k hk => ((Below.refl wa.heap.size wa).alloc (Nat.le_refl _) ob).block k hk
  have hblk : ∀ k, k < wa.heap.size → vk.ownBlock ≠ some k → w4.heap[k]? = wa.heap[k]? := fun k hk hne => (hg.block k (by omega) (fun h => hne h.symm)).trans (hal k hk)
  have hsz5 : (w4.setCell ⟨H, 4, none⟩ v').heap.size = w4.heap.size := by simp [World.setCell]
  have hkeep : ∀ b, Sk S H wa vk b → (w4.setCell ⟨H, 4, none⟩ v').heap[b]? = wa.heap[b]? := by
    intro b hpS
    have hne : b ≠ H := by
      rcases hpS with h | h
      · have := hS _ h; omega
      · omega
    rw [Below.heap_setCell _ _ _ _ hne]
    refine hblk _ ?_ ?_
    · rcases hpS with h | h
      · have := hS _ h; omega
      · exact h.2.1
    · rcases hpS with h | h
      · intro he; have := hvl _ he; have := hS _ h; omega
      · exact h.2.2
  have hSk : ∀ q, Sk S H wa vk q → Sk S H (w4.setCell ⟨H, 4, none⟩ v') v' q := by
    rintro q (h | ⟨h1, h2, h3⟩)
    · exact .inl h
    · refine .inr ⟨h1, by rw [hsz5]; omega, ?_⟩
      rcases hat with h | h
      · rw [h]; exact h3
      · rw [h]; intro he; injection he with he; omega
  refine ⟨⟨ps ++ [u], ?_, PtF.snoc (hu.keep hSk hkeep) (hp.keep hSk hkeep)⟩, ?_, ?_, hv'n, hv'H⟩
  · rw [Fr.len_app]
    exact own_setCell ho _ _ fun g hg' => by have := hv'H g hg'; simp only; omega
  · have h4 : Nb w4 H x vk := (hblk H hHa hv).trans hn
    exact h4.store v'
  · exact ((hb.alloc (by omega) ob).grown hg (by omega) (fun k hk => by have := hvl k hk; omega)).setCell (Nat.le_refl _) _
end Go.Proofs.YtmiicfdigkkbdaaDoor
namespace Go.Proofs.YtmiicfdigkkbdaaDoor
open Go.RowKit

theorem infoPtr : (Tryd.prog.info? 25).map (fun i => (i.zero, i.size, i.bytes)) = some (some (.pointer none), 1, 8) := by kernel_rfl
theorem Fr.get_app (a b : Fr) : (a.app b).get a.len = b.get 0 := by
  induction a with
  | nil => rfl
  | cons x k r _ ih => exact ih
def Sin (S : Nat → Prop) (W w' : World) (q : Nat) : Prop := S q ∨ (W.heap.size ≤ q ∧ q < w'.heap.size)
def WiPost (t : Tr) (S : Nat → Prop) (W : World) (e : Ending) (w' : World) : Prop := ∃ v, e = .returned v ∧ InT w' (Sin S W w') v t ∧ Below W.heap.size W w'
theorem wi_ret {t : Tr} {S : Nat → Prop} {W w' : World} {v : Value} (h : InT w' (Sin S W w') v t) (hb : Below W.heap.size W w') : WiPost t S W (.returned v) w' := ⟨v, rfl, h, hb⟩
end Go.Proofs.YtmiicfdigkkbdaaDoor
namespace Go.Proofs.YtmiicfdigkkbdaaDoor
open Go.RowKit

def TePost (S : Nat → Prop) (o : Option Tr) (z : Int) (W : World) (e : Ending) (w' : World) : Prop := ∃ v, e = .returned (.tuple #[v, .int .i64 z]) ∧ InO w' (Sin S W w') v o ∧ Below W.heap.size W w'
end Go.Proofs.YtmiicfdigkkbdaaDoor
namespace Go.Proofs.YtmiicfdigkkbdaaDoor
open Go.RowKit

def CelAt (w : World) (B b o : Nat) (c : Cel) : Prop :=
  w.cell? ⟨b, o, none⟩ = some (.int .i64 c.x.k) ∧ w.cell? ⟨b, o + 1, none⟩ = some (.int .i64 c.x.n) ∧ w.cell? ⟨b, o + 2, none⟩ = some (.string c.x.a) ∧ w.cell? ⟨b, o + 3, none⟩ = some (.string c.x.m) ∧
    ∃ kv, w.cell? ⟨b, o + 4, none⟩ = some kv ∧ Sp w B kv c.ks
def Cls (w : World) (B : Nat) (v : Value) (cs : List Cel) : Prop :=
  ∃ A c, v = .slice A cs.length c ∧ cs.length ≤ c ∧ ∀ (j : Nat) (u : Cel), cs[j]? = some u → ∃ b o, A = some ⟨b, o, none⟩ ∧ b < B ∧ CelAt w B b (o + j * 5) u
theorem CelAt.keep {w w' : World} {B B' b o : Nat} {c : Cel} (h : CelAt w B b o c) (hb : b < B) (hB : B ≤ B') (hk : ∀ p : Addr, p.block < B → w'.cell? p = w.cell? p) : CelAt w' B' b o c := by
  obtain ⟨h0, h1, h2, h3, kv, h4, h5⟩ := h
  exact ⟨(hk _ hb).trans h0, (hk _ hb).trans h1, (hk _ hb).trans h2, (hk _ hb).trans h3, kv, (hk _ hb).trans h4, h5.keep hB hk⟩
theorem Cls.keep {w w' : World} {B B' : Nat} {v : Value} {cs : List Cel} (h : Cls w B v cs) (hB : B ≤ B') (hk : ∀ p : Addr, p.block < B → w'.cell? p = w.cell? p) : Cls w' B' v cs := by
  obtain ⟨A, c, hv, hc, hcl⟩ := h
  refine ⟨A, c, hv, hc, fun j u hu => ?_⟩
  obtain ⟨b, o, hA, hb, h1⟩ := hcl j u hu
  exact ⟨b, o, hA, by omega, h1.keep hb hB hk⟩
theorem Cls.below {w w' : World} {B : Nat} {v : Value} {cs : List Cel} (h : Cls w B v cs) (hb : Below B w w') : Cls w' B v cs := h.keep (Nat.le_refl _) fun _ hp => hb.cell hp
end Go.Proofs.YtmiicfdigkkbdaaDoor
namespace Go.Proofs.YtmiicfdigkkbdaaDoor
open Go.RowKit

/-! ### lists of paths -/
def Spp (w : World) (B : Nat) (v : Value) (l : List (List Int)) : Prop :=
  ∃ A c, v = .slice A l.length c ∧ l.length ≤ c ∧ ∀ (j : Nat) (u : List Int), l[j]? = some u → ∃ b o pv, A = some ⟨b, o, none⟩ ∧ b < B ∧ w.cell? ⟨b, o + j, none⟩ = some pv ∧ Sp w B pv u
theorem Spp.keep {w w' : World} {B B' : Nat} {v : Value} {l : List (List Int)} (h : Spp w B v l) (hB : B ≤ B') (hk : ∀ p : Addr, p.block < B → w'.cell? p = w.cell? p) : Spp w' B' v l := by
  obtain ⟨A, c, hv, hlc, hc⟩ := h
  refine ⟨A, c, hv, hlc, fun j u hu => ?_⟩
  obtain ⟨b, o, pv, hA, hlt, hcell, hs⟩ := hc j u hu
  exact ⟨b, o, pv, hA, by omega, (hk _ hlt).trans hcell, hs.keep hB hk⟩
theorem Sp.slice {w : World} {B : Nat} {v : Value} {l : List Int} (h : Sp w B v l) : ∃ A c, v = .slice A l.length c := by
  obtain ⟨A, c, hv, _⟩ := h
  exact ⟨A, c, hv⟩
theorem Sp.drew {w : World} {B : Nat} {v : Value} {l : List Int} (h : Sp w B v l) (q : Nat) : Sp (w.drewN q) B v l := h.keep (Nat.le_refl _) fun _ _ => rfl
end Go.Proofs.YtmiicfdigkkbdaaDoor
namespace Go.Proofs.YtmiicfdigkkbdaaDoor
open Go.RowKit

def Sl1 (w : World) (S : Nat → Prop) (v : Value) (l : List Int) : Prop :=
  (l = [] ∧ v = .slice none 0 0) ∨ ∃ b c, v = .slice (some ⟨b, 0, none⟩) l.length c ∧ l.length ≤ c ∧ 0 < l.length ∧ S b ∧ ∀ (j : Nat) (u : Int), l[j]? = some u → w.cell? ⟨b, 0 + j, none⟩ = some (.int .i64 u)
theorem Sl1.keep {w w' : World} {S S' : Nat → Prop} {v : Value} {l : List Int} (h : Sl1 w S v l) (hS : ∀ q, S q → S' q) (hk : ∀ p : Addr, S p.block → w'.cell? p = w.cell? p) : Sl1 w' S' v l := by
  rcases h with h | ⟨b, c, hv, h1, h2, h3, h4⟩
  · exact .inl h
  · exact .inr ⟨b, c, hv, h1, h2, hS b h3, fun j u hu => (hk ⟨b, 0 + j, none⟩ h3).trans (h4 j u hu)⟩
theorem Sl1.sp {w : World} {S : Nat → Prop} {B : Nat} {v : Value} {l : List Int} (h : Sl1 w S v l) (hB : Bel S B) : Sp w B v l := by
  rcases h with ⟨rfl, rfl⟩ | ⟨b, c, rfl, h1, h2, h3, h4⟩
  · exact ⟨none, 0, rfl, Nat.le_refl _, fun j u hu => by simp at hu⟩
  · exact ⟨_, c, rfl, h1, fun j u hu => ⟨b, 0, rfl, hB b h3, h4 j u hu⟩⟩
theorem Sl1.one {w : World} {S : Nat → Prop} {v : Value} {l : List Int} (h : Sl1 w S v l) : v.oneCell' = true := by
  rcases h with ⟨_, rfl⟩ | ⟨b, c, rfl, _⟩ <;> rfl
def PpF (w : World) (S : Nat → Prop) : List Value → List (List Int) → Prop
  | [], [] => True
  | v :: vs, l :: ls => Sl1 w S v l ∧ PpF w S vs ls
  | _, _ => False
theorem PpF.len {w : World} {S : Nat → Prop} : ∀ {vs : List Value} {f : List (List Int)}, PpF w S vs f → vs.length = f.length
  | [], [], _ => rfl
  | [], _ :: _, h => h.elim
  | _ :: _, [], h => h.elim
  | _ :: vs, _ :: ls, h => by simp only [List.length_cons, PpF.len (vs := vs) (f := ls) h.2]
theorem PpF.keep {w w' : World} {S S' : Nat → Prop} (hS : ∀ q, S q → S' q) (hk : ∀ p : Addr, S p.block → w'.cell? p = w.cell? p) : ∀ {vs : List Value} {f : List (List Int)}, PpF w S vs f → PpF w' S' vs f
  | [], [], _ => trivial
  | [], _ :: _, h => h.elim
  | _ :: _, [], h => h.elim
  | _ :: vs, _ :: ls, h => ⟨h.1.keep hS hk, PpF.keep hS hk (vs := vs) (f := ls) h.2⟩
theorem PpF.snoc {w : World} {S : Nat → Prop} {v : Value} {t : List Int} (hv : Sl1 w S v t) : ∀ {vs : List Value} {f : List (List Int)}, PpF w S vs f → PpF w S (vs ++ [v]) (f ++ [t])
  | [], [], _ => ⟨hv, trivial⟩
  | [], _ :: _, h => h.elim
  | _ :: _, [], h => h.elim
  | _ :: vs, _ :: ls, h => ⟨h.1, PpF.snoc hv (vs := vs) (f := ls) h.2⟩
theorem PpF.at {w : World} {S : Nat → Prop} : ∀ {vs : List Value} {f : List (List Int)} {j : Nat} {l : List Int}, PpF w S vs f → f[j]? = some l → ∃ v, vs[j]? = some v ∧ Sl1 w S v l
  | [], [], _, _, _, h => by simp at h
  | [], _ :: _, _, _, h, _ => h.elim
  | _ :: _, [], _, _, h, _ => h.elim
  | v :: vs, l' :: ls, 0, l, h, hl => by simp at hl; subst hl; exact ⟨v, rfl, h.1⟩
  | v :: vs, l' :: ls, j + 1, l, h, hl => PpF.at (vs := vs) (f := ls) h.2 hl
def So (H : Nat) (w : World) (v : Value) (q : Nat) : Prop := H ≤ q ∧ q < w.heap.size ∧ v.ownBlock ≠ some q
def OwnP (w : World) (H : Nat) (v : Value) (L : List (List Int)) : Prop := ∃ ps, w.ownsRow H 45 1 v L.length ps ∧ PpF w (So H w v) ps L
theorem OwnP.nil (w : World) (H : Nat) : OwnP w H (.slice none 0 0) [] := ⟨[], World.ownsRow_nil _ _ _ _, trivial⟩
theorem infoI : (Tryd.prog.info? 3).map (fun i => (i.zero, i.size, i.bytes)) = some (some (.int .i64 0), 1, 8) := by kernel_rfl
end Go.Proofs.YtmiicfdigkkbdaaDoor
namespace Go.Proofs.YtmiicfdigkkbdaaDoor
open Go.RowKit

def ints (l : List Int) : List Value := l.map fun u => .int .i64 u
theorem OwnP.below {w w' : World} {H : Nat} {v : Value} {L : List (List Int)} (h : OwnP w H v L) (hb : Below w.heap.size w w') : OwnP w' H v L := by
  obtain ⟨ps, h1, h2⟩ := h
  have hs := hb.size
  exact ⟨ps, own_below h1 hb, h2.keep (by rintro q ⟨a, b, c⟩; exact ⟨a, by omega, c⟩) fun p hp => hb.cell hp.2.1⟩
theorem OwnP.open {w : World} {H : Nat} {v : Value} {L : List (List Int)} (h : OwnP w H v L) : ∃ A c, v = .slice A L.length c ∧ L.length ≤ c ∧ ∀ (j : Nat) (t : List Int), L[j]? = some t → ∃ g u, A = some ⟨g, 0, none⟩ ∧ H ≤ g ∧ g < w.heap.size ∧ w.cell? ⟨g, 0 + j, none⟩ = some u ∧ Sl1 w (So H w v) u t := by
  obtain ⟨ps, h1, h2⟩ := h
  rcases h1.2 with ⟨hv, h0⟩ | ⟨g, cap, cur, hv, hg, hh, hc, _⟩
  · rw [h0]
    refine ⟨none, 0, hv, Nat.le_refl _, fun j t ht => ?_⟩
    have := (List.getElem?_eq_some_iff.1 ht).1
    omega
  · refine ⟨_, cap, hv, hc, fun j t ht => ?_⟩
    obtain ⟨u, hu, hs⟩ := h2.at ht
    have h3 := h1.cells (g := g) (by rw [hv]; rfl) j u hu
    have e1 : (⟨g, 0, none⟩ : Addr).add j = ⟨g, 0 + j, none⟩ := by unfold Addr.add; split <;> simp_all
    rw [e1] at h3
    exact ⟨g, u, rfl, hg, heap_lt hh, h3, hs⟩
end Go.Proofs.YtmiicfdigkkbdaaDoor
namespace Go.Proofs.YtmiicfdigkkbdaaDoor
open Go.RowKit

def SpS (w : World) (S : Nat → Prop) (v : Value) (l : List Int) : Prop :=
  ∃ A c, v = .slice A l.length c ∧ l.length ≤ c ∧ ∀ (j : Nat) (u : Int), l[j]? = some u → ∃ b o, A = some ⟨b, o, none⟩ ∧ S b ∧ w.cell? ⟨b, o + j, none⟩ = some (.int .i64 u)
theorem SpS.keep {w w' : World} {S S' : Nat → Prop} {v : Value} {l : List Int} (h : SpS w S v l) (hS : ∀ q, S q → S' q) (hk : ∀ b, S b → w'.heap[b]? = w.heap[b]?) : SpS w' S' v l := by
  obtain ⟨A, c, hv, hc, hl⟩ := h
  refine ⟨A, c, hv, hc, fun j u hu => ?_⟩
  obtain ⟨b, o, hA, hb, hcell⟩ := hl j u hu
  exact ⟨b, o, hA, hS b hb, (World.cell?_of_block (w := w) (hk b hb)).trans hcell⟩
theorem SpS.sp {w : World} {S : Nat → Prop} {B : Nat} {v : Value} {l : List Int} (h : SpS w S v l) (hB : Bel S B) : Sp w B v l := by
  obtain ⟨A, c, hv, hc, hl⟩ := h
  refine ⟨A, c, hv, hc, fun j u hu => ?_⟩
  obtain ⟨b, o, hA, hb, hcell⟩ := hl j u hu
  exact ⟨b, o, hA, hB b hb, hcell⟩
theorem SpS.one {w : World} {S : Nat → Prop} {v : Value} {l : List Int} (h : SpS w S v l) : v.oneCell' = true := by
  obtain ⟨A, c, rfl, _⟩ := h
  rfl
theorem ints_at {l : List Int} {j : Nat} {u : Int} (h : l[j]? = some u) : (ints l)[j]? = some (.int .i64 u) := by
  unfold ints
  rw [List.getElem?_map, h]
  rfl
theorem SpS.own {w : World} {S : Nat → Prop} {B : Nat} {v : Value} {l : List Int} {e : TypeId} (h : w.ownsRow B e 1 v l.length (ints l)) (hS : ∀ g, v.ownBlock = some g → S g) : SpS w S v l := by
  rcases h.2 with ⟨rfl, h0⟩ | ⟨g, cap, cur, rfl, _, _, hc, _⟩
  · have : l = [] := List.length_eq_zero_iff.1 h0
    subst this
    exact ⟨none, 0, rfl, Nat.le_refl _, fun j u hu => by simp at hu⟩
  · refine ⟨_, cap, rfl, hc, fun j u hu => ⟨g, 0, rfl, hS g rfl, ?_⟩⟩
    have h1 := h.cells (g := g) rfl j _ (ints_at hu)
    have e1 : (⟨g, 0, none⟩ : Addr).add j = ⟨g, 0 + j, none⟩ := by unfold Addr.add; split <;> simp_all
    rwa [e1] at h1
def flat : List Cel → List Value → List Value
  | [], _ => []
  | _ :: _, [] => []
  | c :: cs, kv :: vs => .int .i64 c.x.k :: .int .i64 c.x.n :: .string c.x.a :: .string c.x.m :: kv :: flat cs vs
def CsF (w : World) (S : Nat → Prop) : List Value → List Cel → Prop
  | [], [] => True
  | kv :: vs, c :: cs => SpS w S kv c.ks ∧ CsF w S vs cs
  | _, _ => False
theorem CsF.len {w : World} {S : Nat → Prop} : ∀ {vs : List Value} {cs : List Cel}, CsF w S vs cs → vs.length = cs.length
  | [], [], _ => rfl
  | [], _ :: _, h => h.elim
  | _ :: _, [], h => h.elim
  | _ :: vs, _ :: cs, h => by simp only [List.length_cons, CsF.len (vs := vs) (cs := cs) h.2]
theorem CsF.keep {w w' : World} {S S' : Nat → Prop} (hS : ∀ q, S q → S' q) (hk : ∀ b, S b → w'.heap[b]? = w.heap[b]?) : ∀ {vs : List Value} {cs : List Cel}, CsF w S vs cs → CsF w' S' vs cs
  | [], [], _ => trivial
  | [], _ :: _, h => h.elim
  | _ :: _, [], h => h.elim
  | _ :: vs, _ :: cs, h => ⟨h.1.keep hS hk, CsF.keep hS hk (vs := vs) (cs := cs) h.2⟩
theorem CsF.app {w : World} {S : Nat → Prop} : ∀ {vs us : List Value} {cs ds : List Cel}, CsF w S vs cs → CsF w S us ds → CsF w S (vs ++ us) (cs ++ ds)
  | [], _, [], _, _, h => h
  | [], _, _ :: _, _, h, _ => h.elim
  | _ :: _, _, [], _, h, _ => h.elim
  | _ :: vs, _, _ :: cs, _, h, h' => ⟨h.1, CsF.app (vs := vs) (cs := cs) h.2 h'⟩
theorem flat_app : ∀ {cs : List Cel} {vs : List Value} (ds : List Cel) (us : List Value), vs.length = cs.length → flat (cs ++ ds) (vs ++ us) = flat cs vs ++ flat ds us
  | [], [], _, _, _ => rfl
  | [], _ :: _, _, _, h => by simp at h
  | _ :: _, [], _, _, h => by simp at h
  | c :: cs, v :: vs, ds, us, h => by
    simp only [List.cons_append, flat, flat_app (cs := cs) (vs := vs) ds us (by simpa using h)]
theorem CsF.one {w : World} {S : Nat → Prop} : ∀ {vs : List Value} {cs : List Cel}, CsF w S vs cs → ∀ u ∈ flat cs vs, u.oneCell' = true
  | [], [], _, u, hu => by cases hu
  | [], _ :: _, h, _, _ => h.elim
  | _ :: _, [], h, _, _ => h.elim
  | v :: vs, c :: cs, h, u, hu => by
    unfold flat at hu
    simp only [List.mem_cons] at hu
    rcases hu with rfl | rfl | rfl | rfl | rfl | hu
    · rfl
    · rfl
    · rfl
    · rfl
    · exact h.1.one
    · exact CsF.one (vs := vs) (cs := cs) h.2 u hu
theorem CsF.at {w : World} {S : Nat → Prop} : ∀ {vs : List Value} {cs : List Cel} {j : Nat} {c : Cel}, CsF w S vs cs → cs[j]? = some c → ∃ kv, SpS w S kv c.ks ∧ (flat cs vs)[j * 5]? = some (.int .i64 c.x.k) ∧ (flat cs vs)[j * 5 + 1]? = some (.int .i64 c.x.n) ∧ (flat cs vs)[j * 5 + 2]? = some (.string c.x.a) ∧
    (flat cs vs)[j * 5 + 3]? = some (.string c.x.m) ∧ (flat cs vs)[j * 5 + 4]? = some kv
  | [], [], _, _, _, h => by simp at h
  | [], _ :: _, _, _, h, _ => h.elim
  | _ :: _, [], _, _, h, _ => h.elim
  | v :: vs, c' :: cs, 0, c, h, hc => by
    simp at hc
    subst hc
    exact ⟨v, h.1, rfl, rfl, rfl, rfl, rfl⟩
  | v :: vs, c' :: cs, j + 1, c, h, hc => by
    obtain ⟨kv, h0, h1, h2, h3, h4, h5⟩ := CsF.at (vs := vs) (cs := cs) (j := j) (c := c) h.2 (by simpa using hc)
    have e : ∀ i, (flat (c' :: cs) (v :: vs))[(j + 1) * 5 + i]? = (flat cs vs)[j * 5 + i]? := by
      intro i
      rw [show (j + 1) * 5 + i = (j * 5 + i) + 1 + 1 + 1 + 1 + 1 by omega]
      simp only [flat, List.getElem?_cons_succ]
    exact ⟨kv, h0, (e 0).trans h1, (e 1).trans h2, (e 2).trans h3, (e 3).trans h4, (e 4).trans h5⟩
def OwnC (w : World) (H : Nat) (v : Value) (cs : List Cel) : Prop := ∃ vs, w.ownsRow H 47 5 v cs.length (flat cs vs) ∧ CsF w (So H w v) vs cs
theorem OwnC.nil (w : World) (H : Nat) : OwnC w H (.slice none 0 0) [] := ⟨[], World.ownsRow_nil _ _ _ _, trivial⟩
theorem OwnC.cls {w : World} {H : Nat} {v : Value} {cs : List Cel} (h : OwnC w H v cs) : Cls w w.heap.size v cs := by
  obtain ⟨vs, ho, hf⟩ := h
  rcases ho.2 with ⟨rfl, h0⟩ | ⟨g, cap, cur, rfl, _, hh, hc, _⟩
  · have : cs = [] := List.length_eq_zero_iff.1 h0
    subst this
    exact ⟨none, 0, rfl, Nat.le_refl _, fun j u hu => by simp at hu⟩
  · refine ⟨_, cap, rfl, hc, fun j u hu => ⟨g, 0, rfl, heap_lt hh, ?_⟩⟩
    obtain ⟨kv, h0, h1, h2, h3, h4, h5⟩ := hf.at hu
    have hcell : ∀ i u, (flat cs vs)[i]? = some u → w.cell? ⟨g, i, none⟩ = some u := fun i u hu => by
      have h1 := ho.cells (g := g) rfl i u hu
      have e1 : (⟨g, 0, none⟩ : Addr).add i = ⟨g, i, none⟩ := by unfold Addr.add; split <;> simp_all
      rwa [e1] at h1
    rw [Nat.zero_add]
    exact ⟨hcell _ _ h1, hcell _ _ h2, hcell _ _ h3, hcell _ _ h4, kv, hcell _ _ h5, h0.sp fun q hq => hq.2.1⟩
theorem OwnC.below {w w' : World} {H : Nat} {v : Value} {cs : List Cel} (h : OwnC w H v cs) (hb : Below w.heap.size w w') : OwnC w' H v cs := by
  obtain ⟨vs, ho, hf⟩ := h
  have hs := hb.size
  exact ⟨vs, own_below ho hb, hf.keep (by rintro q ⟨a, b, c⟩; exact ⟨a, by omega, c⟩) fun b hb' => hb.block b hb'.2.1⟩
theorem infoCel : (Tryd.prog.info? 47).map (fun i => (i.zero, i.size, i.bytes)) = some (some (.agg #[.int .i64 0, .int .i64 0, .string ⟨#[]⟩, .string ⟨#[]⟩, .slice none 0 0]), 5, 72) := by kernel_rfl
end Go.Proofs.YtmiicfdigkkbdaaDoor
