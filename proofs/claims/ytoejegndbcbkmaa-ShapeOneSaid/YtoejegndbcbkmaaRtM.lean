/-
  The document's SameCells of the same cells: what it tells.
-/
import Derived.Test.YtoejegndbcbkmaaRtL
import Derived.Test.YtoejegndbcbkmaaRtH
namespace Go.Proofs.Ytoejegndbcbkmaa
open Go.RowKit

/-! ### SameCells -/
theorem CelAt.open {w : World} {B b o : Nat} {c : Cel} (h : CelAt w B b o c) : ∃ KA kc, w.cell? ⟨b, o, none⟩ = some (.int .i64 c.x.k) ∧ w.cell? ⟨b, o + 1, none⟩ = some (.int .i64 c.x.n) ∧ w.cell? ⟨b, o + 2, none⟩ = some (.string c.x.a) ∧ w.cell? ⟨b, o + 3, none⟩ = some (.string c.x.m) ∧ w.cell? ⟨b, o + 4, none⟩ = some (.slice KA c.ks.length kc) ∧ Sp w B (.slice KA c.ks.length kc) c.ks := by
  obtain ⟨h0, h1, h2, h3, kv, h4, KA, kc, rfl, h5⟩ := h
  exact ⟨KA, kc, h0, h1, h2, h3, h4, KA, kc, rfl, h5⟩
end Go.Proofs.Ytoejegndbcbkmaa
