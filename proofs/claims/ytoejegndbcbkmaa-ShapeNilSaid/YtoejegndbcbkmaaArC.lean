/-
  The program's Clone over nodes, twin, Copy: what they tell.
-/
import Derived.Test.YtoejegndbcbkmaaArM
import Derived.Test.YtoejegndbcbkmaaRtD
import Derived.Laws.OwnMore
import Derived.Deep.Onto
import Derived.Deep.RegionHeld3
namespace Go.Proofs.Ytoejegndbcbkmaa
open Go.RowKit

theorem own_made {B : Nat} {w : World} (h : B ≤ w.heap.size) (e : TypeId) : (w.alloc (.cells #[] e)).ownsRow B e 1 (.slice (some ⟨w.heap.size, 0, none⟩) 0 0) 0 [] :=
  ⟨rfl, .inr ⟨w.heap.size, 0, #[], rfl, h, heap_alloc_new w _, Nat.le_refl _, Nat.zero_le _, rfl, rfl⟩⟩
theorem addAt (b o j : Nat) : (⟨b, o, none⟩ : Addr).add j = ⟨b, o + j, none⟩ := by unfold Addr.add; split <;> simp_all
/-- A slice of nodes that the call has made: these values. -/
def ClPost (n : Nat) (vs : List Value) (w : World) (e : Ending) (w' : World) : Prop := ∃ v, e = .returned v ∧ (∃ B, w.heap.size ≤ B ∧ w'.ownsRow B 25 1 v n vs) ∧ Below w.heap.size w w'
theorem sl_nil (w : World) (a : Addr) (n c : Nat) : (binOp .eql 35 (.slice (some a) n c) (.slice none 0 0)).run Try.prog w = .ok (.bool false) w := by
  have h : ∀ d : Nat, (Op.equalIn (d + 1) 35 (.slice (some a) n c) (.slice none 0 0)).run Try.prog w = .ok false w := fun d => by simp [Op.equalIn, run_underlying Try.underlying35]
  simp only [binOp]
  simp [Op.equal, Op.maxDepth, h 9999]
theorem sl_none (w : World) (n c : Nat) : (binOp .eql 35 (.slice none n c) (.slice none 0 0)).run Try.prog w = .ok (.bool true) w := by
  have h : ∀ d : Nat, (Op.equalIn (d + 1) 35 (.slice none n c) (.slice none 0 0)).run Try.prog w = .ok true w := fun d => by simp [Op.equalIn, run_underlying Try.underlying35]
  simp only [binOp]
  simp [Op.equal, Op.maxDepth, h 9999]
set_option maxHeartbeats 1600000 in
set_option maxRecDepth 100000 in
theorem clone_any (A : Option Addr) (n c : Nat) (vs : List Value) (w : World) (hvs : vs.length = n) (hn : n ≤ 1000000) (hA : 0 < n → ∃ b o, A = some ⟨b, o, none⟩ ∧ b < w.heap.size ∧ ∀ (j : Nat) u, vs[j]? = some u → w.cell? ⟨b, o + j, none⟩ = some u) (h1 : ∀ u ∈ vs, u.oneCell' = true) :
    Calls Try.prog 35 #[.slice A n c] w (ClPost n vs w) := by
  cases A with
  | none =>
    have h0 : n = 0 := by
      rcases Nat.eq_zero_or_pos n with h | h
      · exact h
      · obtain ⟨b, o, e, _⟩ := hA h
        cases e
    have hv0 : vs = [] := List.length_eq_zero_iff.1 (by rw [hvs]; exact h0)
    subst hv0
    have heq := sl_none w n c
    have H0 := Lib.hid h0
    clear hA h1 hvs hn h0
    go_enter Try.func35, Try.ntmps35
    go_wp2_with fail
    go_ret
    exact ⟨_, rfl, ⟨w.heap.size, Nat.le_refl _, by rw [H0.out]; exact World.ownsRow_nil _ _ _ _⟩, Below.refl _ _⟩
  | some a =>
    have heq := sl_nil w a n c
    have hcells : ∀ (j : Nat) u, vs[j]? = some u → (w.alloc (.cells #[] 25)).cell? (a.add j) = some u := by
      intro j u hu
      obtain ⟨b, o, e, hb, hc⟩ := hA (by have := (List.getElem?_eq_some_iff.1 hu).1; omega)
      injection e with e
      subst e
      rw [addAt]
      exact (((Below.refl w.heap.size w).alloc (Nat.le_refl _) _).cell hb).trans (hc j u hu)
    have HV := Lib.hid hvs
    have HC := Lib.hid hcells
    have H1 := Lib.hid h1
    have HM := Lib.hid (own_made (w := w) (Nat.le_refl _) 25)
    obtain ⟨i0, hi, hz0, hz1, hz2⟩ := info_parts infoPtr
    clear hA h1 hvs hcells
    go_enter Try.func35, Try.ntmps35
    go_wp2_with (at_builtin; (refine wpList_append_own_at _ rfl _ _ 35 rfl w.heap.size 25 i0 (.pointer none) 1 8 Try.underlying35 hi hz0 hz1 hz2 rfl (by decide) (.slice (some ⟨w.heap.size, 0, none⟩) 0 0) 0 [] rfl HM.out a n c vs rfl (by rw [HV.out, Nat.mul_one]) HC.out H1.out (by unfold maxLen; omega) (by omega) (by simp) ?_); intro v4 w4 hown4 hgrow4 _ _)
    go_ret
    have hb := ((Below.refl w.heap.size w).alloc (Nat.le_refl _) (.cells #[] 25)).grown hgrow4 (by simp) (fun k hk => by simp [Value.ownBlock] at hk; omega)
    exact ⟨_, rfl, ⟨w.heap.size, Nat.le_refl _, by simpa using hown4⟩, hb⟩

/-! ### twin -/
theorem ptr_nil2 (w : World) (a : Addr) : (binOp .eql 25 (.pointer (some a)) (.pointer none)).run Try.prog w = .ok (.bool false) w := by
  have h : ∀ d : Nat, (Op.equalIn (d + 1) 25 (.pointer (some a)) (.pointer none)).run Try.prog w = .ok false w := fun d => by simp [Op.equalIn, run_underlying Try.underlying25]
  simp only [binOp]
  simp [Op.equal, Op.maxDepth, h 9999]
/-- The values of a row of pointers. -/
theorem InF.vals {w : World} {S : Nat → Prop} : ∀ {f : Fr} {b o : Nat}, InF w S f b o → ∃ us, PtF w S us f ∧ ∀ (j : Nat) u, us[j]? = some u → w.cell? ⟨b, o + j, none⟩ = some u
  | .nil, b, o, _ => ⟨[], trivial, fun j u h => by simp at h⟩
  | .cons x k r, b, o, ⟨⟨v, hv, hn⟩, hr⟩ => by
    obtain ⟨us, h1, h2⟩ := InF.vals (f := r) hr
    refine ⟨v :: us, ⟨hn, h1⟩, fun j u hu => ?_⟩
    cases j with
    | zero => simp at hu; subst hu; exact hv
    | succ j =>
      have := h2 j u (by simpa using hu)
      rw [show o + (j + 1) = o + 1 + j by omega]
      exact this
theorem Kid.vals {w : World} {S : Nat → Prop} {A : Option Addr} {f : Fr} (h : Kid w S A f 0) (hS : Bel S w.heap.size) : ∃ us, PtF w S us f ∧ (0 < f.len → ∃ b o, A = some ⟨b, o, none⟩ ∧ b < w.heap.size ∧ ∀ (j : Nat) u, us[j]? = some u → w.cell? ⟨b, o + j, none⟩ = some u) := by
  rcases Nat.eq_zero_or_pos f.len with h0 | h0
  · have : f = .nil := by
      cases f with
      | nil => rfl
      | cons x k r => simp [Fr.len] at h0
    subst this
    exact ⟨[], trivial, fun h => by omega⟩
  · obtain ⟨kb, ko, hA, h1, h2⟩ := h h0
    obtain ⟨us, h3, h4⟩ := InF.vals h2
    exact ⟨us, h3, fun _ => ⟨kb, ko, hA, hS _ h1, h4⟩⟩
theorem PtF.snocL {w : World} {S : Nat → Prop} {ps : List Value} {done : Fr} {v : Value} {x : Nod} {l : Fr} (h : PtF w S ps done) (hv : InT w S v (x, l)) : PtF w S (ps ++ [v]) (done.app (.cons x l .nil)) := PtF.snoc (t := (x, l)) hv h
theorem setKid {ps rs : List Value} {u v : Value} (j : Nat) (h : ps.length = j) : (ps ++ u :: rs).set j v = (ps ++ [v]) ++ rs := by
  subst h
  simp
theorem own_slice {w : World} {base : Nat} {e : TypeId} {v : Value} {n : Nat} {xs : List Value} (h : w.ownsRow base e 1 v n xs) : ∃ A c, v = .slice A n c := by
  rcases h.2 with ⟨h1, h2⟩ | ⟨g, cap, cur, h1, _⟩
  · exact ⟨none, 0, by rw [h1, h2]⟩
  · exact ⟨_, _, h1⟩
/-- A tree handed back, or none. -/
def CoPost (o : Option Tr) (S : Nat → Prop) (W : World) (e : Ending) (w' : World) : Prop := ∃ v, e = .returned v ∧ InO w' (Sin S W w') v o ∧ Below W.heap.size W w'
end Go.Proofs.Ytoejegndbcbkmaa
