/-
  The document's With: what it tells.
-/
import Derived.Test.YtoejegndbcbkmaaRtC
import Derived.Test.YtoejegndbcbkmaaOwnT
import Derived.Maps.AppendAt
import Derived.Deep.RegionHeld3
namespace Go.Proofs.Ytoejegndbcbkmaa
open Go.RowKit

theorem infoPtr : (Try.prog.info? 25).map (fun i => (i.zero, i.size, i.bytes)) = some (some (.pointer none), 1, 8) := by kernel_rfl
theorem Sp.tail {w : World} {C : Nat} {b o c n : Nat} {i : Int} {p : List Int} (h : ∀ (j : Nat) (u : Int), (i :: p)[j]? = some u → ∃ b' o', some (⟨b, o, none⟩ : Addr) = some ⟨b', o', none⟩ ∧ b' < C ∧ w.cell? ⟨b', o' + j, none⟩ = some (.int .i64 u)) (hc : p.length ≤ c) (ho : 0 < p.length → n = o + 1) : Sp w C (.slice (some ⟨b, n, none⟩) p.length c) p := by
  refine ⟨_, c, rfl, hc, fun j u hu => ?_⟩
  obtain ⟨b', o', he, hlt, hcell⟩ := h (j + 1) u hu
  injection he with he
  injection he with h1 h2
  subst h1 h2
  have hn := ho (by have := (List.getElem?_eq_some_iff.1 hu).1; omega)
  refine ⟨b, n, rfl, hlt, ?_⟩
  rw [hn, show o + 1 + j = o + (j + 1) by omega]
  exact hcell
theorem Fr.get_app (a b : Fr) : (a.app b).get a.len = b.get 0 := by
  induction a with
  | nil => rfl
  | cons x k r _ ih => exact ih
/-- The kids that are done, the m-th one replaced. -/
def wtNew (m : Nat) (T : Tr) (k : Nat) (done : Fr) : Fr := if k ≤ m then done else done.set m T
theorem Fr.set_app {a b : Fr} {m : Nat} {T : Tr} (h : m < a.len) : (a.app b).set m T = (a.set m T).app b := by
  induction a generalizing m with
  | nil => exact absurd h (Nat.not_lt_zero _)
  | cons x k r _ ih =>
    cases m with
    | zero => rfl
    | succ m => simp only [Fr.app, Fr.set]; rw [ih (Nat.lt_of_succ_lt_succ h)]
theorem Fr.set_last {a : Fr} {x : Nod} {k : Fr} {T : Tr} : (a.app (.cons x k .nil)).set a.len T = a.app (.cons T.1 T.2 .nil) := by
  induction a with
  | nil => rfl
  | cons y l r _ ih => simp only [Fr.app, Fr.len, Fr.set]; rw [ih]
theorem wtNew_other {m k : Nat} {T : Tr} {done : Fr} {x : Nod} {l : Fr} (hk : k = done.len) (h : k ≠ m) : wtNew m T (k + 1) (done.app (.cons x l .nil)) = (wtNew m T k done).app (.cons x l .nil) := by
  unfold wtNew
  by_cases hm : k ≤ m
  · rw [if_pos hm, if_pos (by omega)]
  · rw [if_neg hm, if_neg (by omega), Fr.set_app (by omega)]
theorem wtNew_here {m : Nat} {T : Tr} {done : Fr} {x : Nod} {l : Fr} (hk : m = done.len) : wtNew m T (m + 1) (done.app (.cons x l .nil)) = (wtNew m T m done).app (.cons T.1 T.2 .nil) := by
  unfold wtNew
  rw [if_neg (by omega), if_pos (Nat.le_refl _), hk, Fr.set_last]
theorem wtNew_len {m k : Nat} {T : Tr} {done : Fr} (hk : k = done.len) : (wtNew m T k done).len = k := by
  unfold wtNew
  split
  · exact hk.symm
  · rw [Fr.len_set]; exact hk.symm
/-- The blocks of S, and those laid since. -/
def Sin (S : Nat → Prop) (W w' : World) (q : Nat) : Prop := S q ∨ (W.heap.size ≤ q ∧ q < w'.heap.size)
def WiPost (t : Tr) (S : Nat → Prop) (W : World) (e : Ending) (w' : World) : Prop := ∃ v, e = .returned v ∧ InT w' (Sin S W w') v t ∧ Below W.heap.size W w'
theorem wi_ret {t : Tr} {S : Nat → Prop} {W w' : World} {v : Value} (h : InT w' (Sin S W w') v t) (hb : Below W.heap.size W w') : WiPost t S W (.returned v) w' := ⟨v, rfl, h, hb⟩
end Go.Proofs.Ytoejegndbcbkmaa
