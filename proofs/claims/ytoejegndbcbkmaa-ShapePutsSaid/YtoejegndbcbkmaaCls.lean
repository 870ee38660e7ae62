/-
  Cells in memory: a slice of cells that reads as a list.
-/
import Derived.Test.YtoejegndbcbkmaaRtE
namespace Go.Proofs.Ytoejegndbcbkmaa
open Go.RowKit

/-- The five values of a cell lie from a place on. -/
def CelAt (w : World) (B b o : Nat) (c : Cel) : Prop :=
  w.cell? ⟨b, o, none⟩ = some (.int .i64 c.x.k) ∧ w.cell? ⟨b, o + 1, none⟩ = some (.int .i64 c.x.n) ∧ w.cell? ⟨b, o + 2, none⟩ = some (.string c.x.a) ∧ w.cell? ⟨b, o + 3, none⟩ = some (.string c.x.m) ∧
    ∃ kv, w.cell? ⟨b, o + 4, none⟩ = some kv ∧ Sp w B kv c.ks
/-- The value is a slice of these cells, in blocks below B. -/
def Cls (w : World) (B : Nat) (v : Value) (cs : List Cel) : Prop :=
  ∃ A c, v = .slice A cs.length c ∧ cs.length ≤ c ∧ ∀ (j : Nat) (u : Cel), cs[j]? = some u → ∃ b o, A = some ⟨b, o, none⟩ ∧ b < B ∧ CelAt w B b (o + j * 5) u
theorem CelAt.keep {w w' : World} {B B' b o : Nat} {c : Cel} (h : CelAt w B b o c) (hb : b < B) (hB : B ≤ B') (hk : ∀ p : Addr, p.block < B → w'.cell? p = w.cell? p) : CelAt w' B' b o c := by
  obtain ⟨h0, h1, h2, h3, kv, h4, h5⟩ := h
  exact ⟨(hk _ hb).trans h0, (hk _ hb).trans h1, (hk _ hb).trans h2, (hk _ hb).trans h3, kv, (hk _ hb).trans h4, h5.keep hB hk⟩
theorem Cls.keep {w w' : World} {B B' : Nat} {v : Value} {cs : List Cel} (h : Cls w B v cs) (hB : B ≤ B') (hk : ∀ p : Addr, p.block < B → w'.cell? p = w.cell? p) : Cls w' B' v cs := by
  obtain ⟨A, c, hv, hc, hcl⟩ := h
  refine ⟨A, c, hv, hc, fun j u hu => ?_⟩
  obtain ⟨b, o, hA, hb, h1⟩ := hcl j u hu
  exact ⟨b, o, hA, by omega, h1.keep hb hB hk⟩
theorem Cls.below {w w' : World} {B : Nat} {v : Value} {cs : List Cel} (h : Cls w B v cs) (hb : Below B w w') : Cls w' B v cs := h.keep (Nat.le_refl _) fun _ hp => hb.cell hp
end Go.Proofs.Ytoejegndbcbkmaa
