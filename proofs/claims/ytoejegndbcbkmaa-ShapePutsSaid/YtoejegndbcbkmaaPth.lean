/-
  Lists of paths that a call makes: a row of slices of its own.
-/
import Derived.Test.YtoejegndbcbkmaaRtH
import Derived.Test.YtoejegndbcbkmaaOwnT
namespace Go.Proofs.Ytoejegndbcbkmaa
open Go.RowKit

/-- The value is a slice of these numbers, nil if there are none, in a block of S. -/
def Sl1 (w : World) (S : Nat → Prop) (v : Value) (l : List Int) : Prop :=
  (l = [] ∧ v = .slice none 0 0) ∨ ∃ b c, v = .slice (some ⟨b, 0, none⟩) l.length c ∧ l.length ≤ c ∧ 0 < l.length ∧ S b ∧ ∀ (j : Nat) (u : Int), l[j]? = some u → w.cell? ⟨b, 0 + j, none⟩ = some (.int .i64 u)
theorem Sl1.keep {w w' : World} {S S' : Nat → Prop} {v : Value} {l : List Int} (h : Sl1 w S v l) (hS : ∀ q, S q → S' q) (hk : ∀ p : Addr, S p.block → w'.cell? p = w.cell? p) : Sl1 w' S' v l := by
  rcases h with h | ⟨b, c, hv, h1, h2, h3, h4⟩
  · exact .inl h
  · exact .inr ⟨b, c, hv, h1, h2, hS b h3, fun j u hu => (hk ⟨b, 0 + j, none⟩ h3).trans (h4 j u hu)⟩
theorem Sl1.sp {w : World} {S : Nat → Prop} {B : Nat} {v : Value} {l : List Int} (h : Sl1 w S v l) (hB : Bel S B) : Sp w B v l := by
  rcases h with ⟨rfl, rfl⟩ | ⟨b, c, rfl, h1, h2, h3, h4⟩
  · exact ⟨none, 0, rfl, Nat.le_refl _, fun j u hu => by simp at hu⟩
  · exact ⟨_, c, rfl, h1, fun j u hu => ⟨b, 0, rfl, hB b h3, h4 j u hu⟩⟩
theorem Sl1.one {w : World} {S : Nat → Prop} {v : Value} {l : List Int} (h : Sl1 w S v l) : v.oneCell' = true := by
  rcases h with ⟨_, rfl⟩ | ⟨b, c, rfl, _⟩ <;> rfl
/-- The values are slices of these paths. -/
def PpF (w : World) (S : Nat → Prop) : List Value → List (List Int) → Prop
  | [], [] => True
  | v :: vs, l :: ls => Sl1 w S v l ∧ PpF w S vs ls
  | _, _ => False
theorem PpF.len {w : World} {S : Nat → Prop} : ∀ {vs : List Value} {f : List (List Int)}, PpF w S vs f → vs.length = f.length
  | [], [], _ => rfl
  | [], _ :: _, h => h.elim
  | _ :: _, [], h => h.elim
  | _ :: vs, _ :: ls, h => by simp only [List.length_cons, PpF.len (vs := vs) (f := ls) h.2]
theorem PpF.keep {w w' : World} {S S' : Nat → Prop} (hS : ∀ q, S q → S' q) (hk : ∀ p : Addr, S p.block → w'.cell? p = w.cell? p) : ∀ {vs : List Value} {f : List (List Int)}, PpF w S vs f → PpF w' S' vs f
  | [], [], _ => trivial
  | [], _ :: _, h => h.elim
  | _ :: _, [], h => h.elim
  | _ :: vs, _ :: ls, h => ⟨h.1.keep hS hk, PpF.keep hS hk (vs := vs) (f := ls) h.2⟩
theorem PpF.snoc {w : World} {S : Nat → Prop} {v : Value} {t : List Int} (hv : Sl1 w S v t) : ∀ {vs : List Value} {f : List (List Int)}, PpF w S vs f → PpF w S (vs ++ [v]) (f ++ [t])
  | [], [], _ => ⟨hv, trivial⟩
  | [], _ :: _, h => h.elim
  | _ :: _, [], h => h.elim
  | _ :: vs, _ :: ls, h => ⟨h.1, PpF.snoc hv (vs := vs) (f := ls) h.2⟩
theorem PpF.at {w : World} {S : Nat → Prop} : ∀ {vs : List Value} {f : List (List Int)} {j : Nat} {l : List Int}, PpF w S vs f → f[j]? = some l → ∃ v, vs[j]? = some v ∧ Sl1 w S v l
  | [], [], _, _, _, h => by simp at h
  | [], _ :: _, _, _, h, _ => h.elim
  | _ :: _, [], _, _, h, _ => h.elim
  | v :: vs, l' :: ls, 0, l, h, hl => by simp at hl; subst hl; exact ⟨v, rfl, h.1⟩
  | v :: vs, l' :: ls, j + 1, l, h, hl => PpF.at (vs := vs) (f := ls) h.2 hl
/-- Blocks laid from H on, but not the row's. -/
def So (H : Nat) (w : World) (v : Value) (q : Nat) : Prop := H ≤ q ∧ q < w.heap.size ∧ v.ownBlock ≠ some q
def OwnP (w : World) (H : Nat) (v : Value) (L : List (List Int)) : Prop := ∃ ps, w.ownsRow H 44 1 v L.length ps ∧ PpF w (So H w v) ps L
theorem OwnP.nil (w : World) (H : Nat) : OwnP w H (.slice none 0 0) [] := ⟨[], World.ownsRow_nil _ _ _ _, trivial⟩
/-- Paths handed back. -/
def PaPost (L : List (List Int)) (W : World) (e : Ending) (w' : World) : Prop := ∃ v, e = .returned v ∧ OwnP w' W.heap.size v L ∧ Below W.heap.size W w'
theorem pa_ret {L : List (List Int)} {W w' : World} {v : Value} (h : OwnP w' W.heap.size v L) (hb : Below W.heap.size W w') : PaPost L W (.returned v) w' := ⟨v, rfl, h, hb⟩
theorem infoSl : (Try.prog.info? 44).map (fun i => (i.zero, i.size, i.bytes)) = some (some (.slice none 0 0), 1, 24) := by kernel_rfl
theorem infoI : (Try.prog.info? 3).map (fun i => (i.zero, i.size, i.bytes)) = some (some (.int .i64 0), 1, 8) := by kernel_rfl
/-- One path more. -/
theorem path_more {wa w4 : World} {H : Nat} {vo v' u : Value} {L : List (List Int)} {t : List Int} {ps : List Value} {ob : Obj} (hp : PpF wa (So H wa vo) ps L) (hu : Sl1 wa (So H wa vo) u t)
    (ho : w4.ownsRow H 44 1 v' (L.length + 1) (ps ++ [u])) (hg : (wa.alloc ob).grownBy w4 vo.ownBlock) (hat : v'.ownBlock = vo.ownBlock ∨ v'.ownBlock = some (wa.heap.size + 1)) : OwnP w4 H v' (L ++ [t]) := by
  have hasz : (wa.alloc ob).heap.size = wa.heap.size + 1 := by simp
  have hs4 := hg.size
  have hk : ∀ p : Addr, So H wa vo p.block → w4.cell? p = wa.cell? p := by
    rintro p ⟨h1, h2, h3⟩
    rw [hg.cell_far p (by omega) (fun e => h3 e.symm)]
    exact ((Below.refl wa.heap.size wa).alloc (Nat.le_refl _) ob).cell h2
  have hS : ∀ q, So H wa vo q → So H w4 v' q := by
    rintro q ⟨h1, h2, h3⟩
    refine ⟨h1, by omega, ?_⟩
    rcases hat with h | h
    · rw [h]; exact h3
    · rw [h]; intro e; injection e with e; omega
  refine ⟨ps ++ [u], by rw [List.length_append]; exact ho, PpF.snoc (hu.keep hS hk) (hp.keep hS hk)⟩
/-- A slice of one number that the call has just laid. -/
theorem own_one (w : World) (i : Int) : (w.alloc (.cells #[.int .i64 i] 3)).ownsRow w.heap.size 3 1 (.slice (some ⟨w.heap.size, 0, none⟩) 1 1) 1 [.int .i64 i] :=
  ⟨rfl, .inr ⟨w.heap.size, 1, #[.int .i64 i], rfl, Nat.le_refl _, heap_alloc_new w _, Nat.le_refl _, by unfold maxLen; omega, rfl, rfl⟩⟩
end Go.Proofs.Ytoejegndbcbkmaa
