/-
  The document's SamePath and SamePaths: what they tell.
-/
import Derived.Test.YtoejegndbcbkmaaRtC
namespace Go.Proofs.Ytoejegndbcbkmaa
open Go.RowKit

theorem list_next {l m : List Int} {k : Nat} {x : Int} (h : ∀ j, j < k → l[j]? = m[j]?) (hx : l[k]? = some x) (hy : m[k]? = some x) : ∀ j, j < k + 1 → l[j]? = m[j]? := by
  intro j hj
  by_cases e' : j = k
  · subst e'; rw [hx, hy]
  · exact h j (by omega)
theorem list_eq {l m : List Int} (hl : l.length = m.length) (h : ∀ j, j < l.length → l[j]? = m[j]?) : l = m := by
  apply List.ext_getElem?
  intro j
  rcases Nat.lt_or_ge j l.length with h1 | h1
  · exact h j h1
  · rw [List.getElem?_eq_none h1, List.getElem?_eq_none (by omega)]
/-! ### lists of paths -/
/-- The value is a slice of these paths. -/
def Spp (w : World) (B : Nat) (v : Value) (l : List (List Int)) : Prop :=
  ∃ A c, v = .slice A l.length c ∧ l.length ≤ c ∧ ∀ (j : Nat) (u : List Int), l[j]? = some u → ∃ b o pv, A = some ⟨b, o, none⟩ ∧ b < B ∧ w.cell? ⟨b, o + j, none⟩ = some pv ∧ Sp w B pv u
theorem Spp.keep {w w' : World} {B B' : Nat} {v : Value} {l : List (List Int)} (h : Spp w B v l) (hB : B ≤ B') (hk : ∀ p : Addr, p.block < B → w'.cell? p = w.cell? p) : Spp w' B' v l := by
  obtain ⟨A, c, hv, hlc, hc⟩ := h
  refine ⟨A, c, hv, hlc, fun j u hu => ?_⟩
  obtain ⟨b, o, pv, hA, hlt, hcell, hs⟩ := hc j u hu
  exact ⟨b, o, pv, hA, by omega, (hk _ hlt).trans hcell, hs.keep hB hk⟩
theorem Sp.slice {w : World} {B : Nat} {v : Value} {l : List Int} (h : Sp w B v l) : ∃ A c, v = .slice A l.length c := by
  obtain ⟨A, c, hv, _⟩ := h
  exact ⟨A, c, hv⟩
theorem Sp.drew {w : World} {B : Nat} {v : Value} {l : List Int} (h : Sp w B v l) (q : Nat) : Sp (w.drewN q) B v l := h.keep (Nat.le_refl _) fun _ _ => rfl
end Go.Proofs.Ytoejegndbcbkmaa
