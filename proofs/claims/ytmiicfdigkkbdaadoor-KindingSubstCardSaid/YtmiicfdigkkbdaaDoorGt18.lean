/-
  Layer 11: plain: steps and normal forms; what the outright laws want.
-/
import Derived.Test.YtmiicfdigkkbdaaDoorGt17
namespace Go.Proofs.YtmiicfdigkkbdaaDoor
open Go.RowKit

theorem kd_fi {f : Fr} : ∀ {i : Int}, kdF f = true → fiF i f = none := by
  induction f with
  | nil => intro i _; rfl
  | cons x k r ihk ihr =>
    intro i h
    rw [kdF_cons, Bool.and_eq_true] at h
    obtain ⟨h1, h2⟩ := h
    have hk := kdT_k h1
    have hkk : kdF k = true := by
      unfold kdT at h1
      rw [Bool.and_eq_true] at h1
      have h3 := h1.2
      split at h3
      · rw [show k = .nil from Fr.len0 (beq_iff_eq.1 h3)]; rfl
      · simp only [Bool.and_eq_true] at h3
        exact h3.2.2
    have hn : ¬ rdxB x k = true := by
      unfold rdxB
      rw [Bool.and_eq_true, beq_iff_eq]
      omega
    unfold fiF
    rw [if_neg hn, ihk hkk]
    exact ihr h2
theorem co_kids {x : Nod} {k : Fr} (h : coT (x, k) = true) : ∃ m, coF m k = true := by
  unfold coT at h
  simp only at h
  split at h
  · simp only [Bool.and_eq_true, beq_iff_eq] at h
    rw [Fr.len0 h.2.2.2.2]
    exact ⟨0, rfl⟩
  · rw [Bool.and_eq_true] at h
    replace h := h.2
    repeat' split at h
    · rw [Fr.len0 (beq_iff_eq.1 h)]; exact ⟨0, rfl⟩
    · rw [Bool.and_eq_true] at h; exact ⟨_, h.2⟩
    · rw [Bool.and_eq_true] at h; exact ⟨_, h.2⟩
    · rw [Bool.and_eq_true] at h; exact ⟨_, h.2⟩
    · simp only [Bool.and_eq_true] at h; exact ⟨_, h.2.2⟩
    · cases h
theorem fd_kids {m : Nat} {x : Nod} {k : Fr} (h : fdT m (x, k) = true) : coF 0 k = true := by
  unfold fdT at h
  simp only [Bool.and_eq_true] at h
  exact h.2.2.2.2
theorem fi_at {f : Fr} : ∀ {m : Nat} {i : Int} {p : List Int}, coF m f = true → fiF i f = some p → ∃ (j : Nat) (q : List Int) (t u : Tr), p = (i + j) :: q ∧ f.get j = some t ∧ fiT t = some q ∧ atT t q = some u ∧ rdxB u.1 u.2 = true ∧ coT u = true := by
  induction f with
  | nil => intro m i p _ h; cases h
  | cons x k r ihk ihr =>
    intro m i p hc h
    rw [fiF_cons] at h
    have hr : ∃ m', coF m' r = true := by
      unfold coF at hc
      rw [Bool.and_eq_true] at hc
      exact ⟨_, hc.2⟩
    cases hq : fiT (x, k) with
    | none =>
      rw [hq] at h
      obtain ⟨m', hr⟩ := hr
      obtain ⟨j, q, t, u, h1, h2, h3⟩ := ihr hr h
      exact ⟨j + 1, q, t, u, by rw [h1]; congr 1; omega, h2, h3⟩
    | some q =>
      rw [hq] at h
      injection h with h
      refine ⟨0, q, (x, k), ?_⟩
      have hsub : (rdxB x k = true → coT (x, k) = true) ∧ (kdF k = true ∨ ∃ m', coF m' k = true) := by
        by_cases hm0 : m = 0
        · subst hm0
          rw [coF_0, Bool.and_eq_true] at hc
          exact ⟨fun _ => hc.1, .inr (co_kids hc.1)⟩
        · by_cases hm1 : m = 1
          · subst hm1
            rw [coF_1, Bool.and_eq_true] at hc
            have hk := kdT_k hc.1
            refine ⟨fun h => ?_, .inl ?_⟩
            · unfold rdxB at h
              rw [Bool.and_eq_true, beq_iff_eq] at h
              omega
            · have h1 := hc.1
              unfold kdT at h1
              rw [Bool.and_eq_true] at h1
              have h3 := h1.2
              split at h3
              · rw [show k = .nil from Fr.len0 (beq_iff_eq.1 h3)]; rfl
              · simp only [Bool.and_eq_true] at h3
                exact h3.2.2
          · rw [coF_f hm0 hm1, Bool.and_eq_true] at hc
            have hk := fdT_k hc.1
            refine ⟨fun h => ?_, .inr ⟨0, fd_kids hc.1⟩⟩
            unfold rdxB at h
            rw [Bool.and_eq_true, beq_iff_eq] at h
            omega
      unfold fiT at hq
      by_cases hb : rdxB x k = true
      · rw [if_pos hb] at hq
        injection hq with hq
        subst hq
        exact ⟨(x, k), by rw [← h]; congr 1; omega, rfl, by unfold fiT; rw [if_pos hb], rfl, hb, hsub.1 hb⟩
      · rw [if_neg hb] at hq
        rcases hsub.2 with hkd | ⟨m', hm'⟩
        · rw [kd_fi hkd] at hq; cases hq
        · obtain ⟨j, q', t, u, h1, h2, h3, h4, h5⟩ := ihk hm' hq
          refine ⟨u, by rw [← h]; congr 1; omega, rfl, by unfold fiT; rw [if_neg hb]; exact hq, ?_, h5⟩
          rw [h1, atT_some q' (u := t)]
          · exact h4
          · show getZ k (0 + (j : Int)) = some t
            unfold getZ
            rw [if_neg (by omega), show (0 + (j : Int)).toNat = j by omega]
            exact h2
theorem fiT_at {t : Tr} {p : List Int} (hc : coT t = true) (h : fiT t = some p) : ∃ u, atT t p = some u ∧ rdxB u.1 u.2 = true ∧ coT u = true := by
  have h1 : fiF 0 (.cons t.1 t.2 .nil) = some (0 :: p) := by
    rw [fiF_cons, show ((t.1, t.2) : Tr) = t from rfl, h]
  obtain ⟨j, q, s, u, h2, h3, h4, h5, h6⟩ := fi_at (m := 0) (by rw [coT_F]; exact hc) h1
  injection h2 with h7 h8
  have hj : j = 0 := by omega
  subst hj
  injection h3 with h3
  have h3 : t = s := h3
  subst h3
  subst h8
  exact ⟨u, h5, h6⟩
theorem redex_parts {u : Tr} (hc : coT u = true) (hr : rdxB u.1 u.2 = true) : ∃ b a, betaO u = some (b, a) ∧ coT b = true ∧ coT a = true ∧ szT b < szT u ∧ szT a < szT u := by
  obtain ⟨y, l, z, zk, b, bk, a, ak, h, h1, h2, _⟩ := beta_of hc hr
  refine ⟨(b, bk), (a, ak), by unfold betaO; rw [h], h1, h2, ?_⟩
  unfold szT
  rw [h]
  simp only [Fr.sz]
  omega
theorem sb_form {i : Int} {o p : Option Tr} : ((sbR i o p).2 = 0 ∧ ∃ m, (sbR i o p).1 = some m) ∨ ((sbR i o p).2 ≠ 0 ∧ (sbR i o p).1 = none) := by
  unfold sbR
  by_cases h1 : ckE o = 0
  · rw [if_pos h1]
    by_cases h2 : ckE p = 0
    · rw [if_pos h2]
      by_cases h3 : i < 0
      · rw [if_pos h3]; exact .inr ⟨by decide, rfl⟩
      · rw [if_neg h3]
        obtain ⟨t, rfl, _⟩ := ckE_ok h1
        obtain ⟨u, rfl, _⟩ := ckE_ok h2
        simp only
        by_cases h4 : 65536 < szT t - ctT i 0 t + ctT i 0 t * szT u
        · rw [if_pos h4]; exact .inr ⟨by decide, rfl⟩
        · rw [if_neg h4]
          cases h : ptT i u 0 t with
          | none => exact .inr ⟨by show (3 : Int) ≠ 0; decide, rfl⟩
          | some m => exact .inl ⟨rfl, m, rfl⟩
    · rw [if_neg h2]; exact .inr ⟨h2, rfl⟩
  · rw [if_neg h1]; exact .inr ⟨h1, rfl⟩
theorem ck_co {t : Tr} (h : ckE (some t) = 0) : coT t = true := by
  obtain ⟨_, e, _, hc⟩ := ckE_ok h
  injection e with e
  subst e
  exact hc
theorem sb_pt {i : Int} {b a m : Tr} {e : Int} (h : sbR i (some b) (some a) = (some m, e)) : ptT i a 0 b = some m ∧ szT m ≤ 65536 ∧ 0 ≤ i := by
  unfold sbR at h
  split at h
  · split at h
    · split at h
      · cases h
      · rename_i hi
        simp only at h
        split at h
        · cases h
        · rename_i hz
          cases hm : ptT i a 0 b with
          | none => rw [hm] at h; cases h
          | some m' =>
            rw [hm] at h
            injection h with h _
            injection h with h
            subst h
            have hc : coT b = true := ck_co (by assumption)
            have h1 := ptT_sz (co_tvok hc) hm
            have h2 := ctT_le i 0 b
            exact ⟨rfl, by omega, by omega⟩
    · cases h
  · cases h
theorem sb_szm {i : Int} {b a m : Tr} {e : Int} (h : sbR i (some b) (some a) = (some m, e)) : szT m ≤ 65536 := (sb_pt h).2.1
def stR (o : Option Tr) : Option Tr × Bool × Int := match o with
  | none => (none, false, 1)
  | some t => if ckE (some t) = 0 then (match fiT t with
      | none => (none, false, 0)
      | some p => match (atT t p).bind betaO with
        | none => (none, false, 0)
        | some s => match (sbR 0 (some s.1) (some s.2)).1 with
          | some m => (some (withT t p m), true, 0)
          | none => (none, false, (sbR 0 (some s.1) (some s.2)).2)) else (none, false, ckE (some t))
theorem stR_bad {t : Tr} (h : ckE (some t) ≠ 0) : stR (some t) = (none, false, ckE (some t)) := by unfold stR; simp only; rw [if_neg h]
theorem stR_no {t : Tr} (h : ckE (some t) = 0) (hf : fiT t = none) : stR (some t) = (none, false, 0) := by unfold stR; simp only; rw [if_pos h, hf]
theorem stR_yes {t u b a m : Tr} {p : List Int} (h : ckE (some t) = 0) (hf : fiT t = some p) (hu : atT t p = some u) (hb : betaO u = some (b, a)) (hs : (sbR 0 (some b) (some a)).1 = some m) : stR (some t) = (some (withT t p m), true, 0) := by
  unfold stR
  simp only
  rw [if_pos h, hf]
  simp only
  rw [hu]
  simp only [Option.bind_some]
  rw [hb]
  simp only
  rw [hs]
theorem stR_err {t u b a : Tr} {p : List Int} (h : ckE (some t) = 0) (hf : fiT t = some p) (hu : atT t p = some u) (hb : betaO u = some (b, a)) (hs : (sbR 0 (some b) (some a)).1 = none) : stR (some t) = (none, false, (sbR 0 (some b) (some a)).2) := by
  unfold stR
  simp only
  rw [if_pos h, hf]
  simp only
  rw [hu]
  simp only [Option.bind_some]
  rw [hb]
  simp only
  rw [hs]
theorem st_cases (t : Tr) : (ckE (some t) ≠ 0 ∧ stR (some t) = (none, false, ckE (some t))) ∨ (ckE (some t) = 0 ∧ fiT t = none ∧ stR (some t) = (none, false, 0)) ∨
    (ckE (some t) = 0 ∧ ∃ p u b a, fiT t = some p ∧ atT t p = some u ∧ coT u = true ∧ rdxB u.1 u.2 = true ∧ betaO u = some (b, a) ∧ coT b = true ∧ coT a = true ∧ szT b < szT u ∧ szT a < szT u ∧
      ((∃ m, sbR 0 (some b) (some a) = (some m, 0) ∧ stR (some t) = (some (withT t p m), true, 0)) ∨ ∃ e, e ≠ 0 ∧ sbR 0 (some b) (some a) = (none, e) ∧ stR (some t) = (none, false, e))) := by
  by_cases h : ckE (some t) = 0
  · right
    cases hf : fiT t with
    | none => exact .inl ⟨h, rfl, stR_no h hf⟩
    | some p =>
      right
      obtain ⟨_, e, _, hc⟩ := ckE_ok h
      injection e with e
      subst e
      obtain ⟨u, h1, h2, h3⟩ := fiT_at hc hf
      obtain ⟨b, a, h4, h5, h6, h7, h8⟩ := redex_parts h3 h2
      refine ⟨h, p, u, b, a, rfl, h1, h3, h2, h4, h5, h6, h7, h8, ?_⟩
      rcases sb_form (i := 0) (o := some b) (p := some a) with ⟨k1, m, k2⟩ | ⟨k1, k2⟩
      · exact .inl ⟨m, Prod.ext k2 k1, stR_yes h hf h1 h4 k2⟩
      · exact .inr ⟨_, k1, Prod.ext k2 rfl, stR_err h hf h1 h4 k2⟩
  · exact .inl ⟨h, stR_bad h⟩
def nmI : Nat → Tr → Option Tr × Int
  | 0, t => if ckE (some t) = 0 then (match fiT t with
    | none => (some t, 0)
    | some _ => (none, 18)) else (none, ckE (some t))
  | k + 1, t => match stR (some t) with
    | (some m, true, _) => nmI k m
    | (_, _, e) => if e = 0 then (some t, 0) else (none, e)
def nmR (o : Option Tr) : Option Tr × Int := match o with
  | none => (none, 1)
  | some t => nmI 1000 t
theorem st_ck0 {t : Tr} {o : Option Tr} {m : Bool} (h : stR (some t) = (o, m, 0)) : ckE (some t) = 0 := by
  by_cases h0 : ckE (some t) = 0
  · exact h0
  · rw [stR_bad h0] at h
    exact absurd (congrArg (fun q => q.2.2) h) h0
theorem nm_step {k : Nat} {t m : Tr} (h : stR (some t) = (some m, true, 0)) : nmI (k + 1) t = nmI k m := by
  rw [nmI, h]
theorem nm_red {t : Tr} {p : List Int} (h : ckE (some t) = 0) (hf : fiT t = some p) : nmI 0 t = (none, 18) := by
  rw [nmI, if_pos h, hf]
theorem nm_fuel {t m : Tr} (h : stR (some t) = (some m, true, 0)) : nmI 0 t = (none, 18) := by
  have h0 := st_ck0 h
  cases hf : fiT t with
  | none => rw [stR_no h0 hf] at h; cases h
  | some p => exact nm_red h0 hf
theorem nm_done {k : Nat} {t : Tr} (h : stR (some t) = (none, false, 0)) : nmI k t = (some t, 0) := by
  cases k with
  | zero =>
    rcases st_cases t with ⟨h1, h2⟩ | ⟨h1, h2, _⟩ | ⟨_, p, u, b, a, _, _, _, _, _, _, _, _, _, ⟨m, _, h2⟩ | ⟨e, he, _, h2⟩⟩
    · exact absurd (st_ck0 h) h1
    · rw [nmI, if_pos h1, h2]
    · rw [h2] at h; cases h
    · rw [h2] at h
      exact absurd (congrArg (fun q => q.2.2) h) he
  | succ k =>
    rw [nmI, h]
    rfl
theorem nm_ck {k : Nat} {t : Tr} {e : Int} (he : e ≠ 0) (h : ckE (some t) = e) : nmI k t = (none, e) := by
  cases k with
  | zero => rw [nmI, if_neg (by rw [h]; exact he), h]
  | succ k =>
    rw [nmI, stR_bad (by rw [h]; exact he), h]
    simp only
    rw [if_neg he]
theorem nm_err {k : Nat} {t : Tr} {e : Int} (he : e ≠ 0) (h : stR (some t) = (none, false, e)) : nmI (k + 1) t = (none, e) := by
  rw [nmI, h]
  simp only
  rw [if_neg he]
theorem nm_errs {k : Nat} {t : Tr} {e : Int} (he : e ≠ 0) (h : stR (some t) = (none, false, e)) : ∃ e', e' ≠ 0 ∧ nmI k t = (none, e') := by
  cases k with
  | zero =>
    rcases st_cases t with ⟨h1, _⟩ | ⟨_, _, h2⟩ | ⟨h1, p, u, b, a, hf, _⟩
    · exact ⟨_, h1, nm_ck h1 rfl⟩
    · rw [h2] at h
      exact absurd (congrArg (fun q => q.2.2) h).symm he
    · exact ⟨18, by decide, nm_red h1 hf⟩
  | succ k => exact ⟨e, he, nm_err he h⟩
theorem nm_bad {k : Nat} {t x : Tr} {e : Int} (he : e ≠ 0) (h : stR (some t) = (none, false, e)) (hn : nmI k t = (some x, 0)) : False := by
  obtain ⟨e', _, h'⟩ := nm_errs (k := k) he h
  rw [h'] at hn
  cases hn
theorem st_three (t : Tr) : (∃ e, e ≠ 0 ∧ stR (some t) = (none, false, e)) ∨ stR (some t) = (none, false, 0) ∨ ∃ m, stR (some t) = (some m, true, 0) := by
  rcases st_cases t with ⟨h, h1⟩ | ⟨_, _, h1⟩ | ⟨_, p, u, b, a, _, _, _, _, _, _, _, _, _, h | h⟩
  · exact .inl ⟨_, h, h1⟩
  · exact .inr (.inl h1)
  · obtain ⟨m, _, h⟩ := h
    exact .inr (.inr ⟨_, h⟩)
  · obtain ⟨e, he, _, h⟩ := h
    exact .inl ⟨e, he, h⟩
theorem nm_form : ∀ (k : Nat) (t : Tr), ((nmI k t).2 = 0 ∧ ∃ m, (nmI k t).1 = some m ∧ stR (some m) = (none, false, 0)) ∨ ((nmI k t).2 ≠ 0 ∧ (nmI k t).1 = none) := by
  intro k
  induction k with
  | zero =>
    intro t
    rcases st_three t with ⟨e, he, h⟩ | h | ⟨m, h⟩
    · obtain ⟨e', he', h'⟩ := nm_errs (k := _) he h
      rw [h']
      exact .inr ⟨he', rfl⟩
    · rw [nm_done h]; exact .inl ⟨rfl, t, rfl, h⟩
    · rw [nm_fuel h]; exact .inr ⟨by decide, rfl⟩
  | succ k ih =>
    intro t
    rcases st_three t with ⟨e, he, h⟩ | h | ⟨m, h⟩
    · obtain ⟨e', he', h'⟩ := nm_errs (k := _) he h
      rw [h']
      exact .inr ⟨he', rfl⟩
    · rw [nm_done h]; exact .inl ⟨rfl, t, rfl, h⟩
    · rw [nm_step h]; exact ih m
theorem nmR_form (o : Option Tr) : (∃ m, nmR o = (some m, 0) ∧ stR (some m) = (none, false, 0)) ∨ (∃ e, e ≠ 0 ∧ nmR o = (none, e)) := by
  cases o with
  | none => exact .inr ⟨1, by decide, rfl⟩
  | some t =>
    rcases nm_form 1000 t with ⟨h1, m, h2, h3⟩ | ⟨h1, h2⟩
    · exact .inl ⟨m, Prod.ext h2 h1, h3⟩
    · exact .inr ⟨_, h1, Prod.ext h2 rfl⟩
def EqR (o p : Option Tr) (b : Bool) (z : Int) : Prop := (∃ e, e ≠ 0 ∧ nmR o = (none, e) ∧ z = e ∧ b = false) ∨ (∃ x, nmR o = (some x, 0) ∧ ((∃ e, e ≠ 0 ∧ nmR p = (none, e) ∧ z = e ∧ b = false) ∨ (∃ y, nmR p = (some y, 0) ∧ z = 0 ∧ (b = true ↔ x = y))))
theorem EqR.uniq {o p : Option Tr} {b c : Bool} {z y : Int} (h : EqR o p b z) (h' : EqR o p c y) : b = c ∧ z = y := by
  rcases h with ⟨e, he, h1, rfl, rfl⟩ | ⟨x, h1, h⟩
  · rcases h' with ⟨e', _, h2, rfl, rfl⟩ | ⟨x', h2, _⟩
    · rw [h1] at h2; injection h2 with _ h2; exact ⟨rfl, h2⟩
    · rw [h1] at h2; cases h2
  · rcases h' with ⟨e', _, h2, _⟩ | ⟨x', h2, h'⟩
    · rw [h1] at h2; cases h2
    · rw [h1] at h2
      injection h2 with h2 _
      injection h2 with h2
      subst h2
      rcases h with ⟨e, he, h3, rfl, rfl⟩ | ⟨y1, h3, rfl, h4⟩
      · rcases h' with ⟨e', _, h5, rfl, rfl⟩ | ⟨y2, h5, _⟩
        · rw [h3] at h5; injection h5 with _ h5; exact ⟨rfl, h5⟩
        · rw [h3] at h5; cases h5
      · rcases h' with ⟨e', _, h5, _⟩ | ⟨y2, h5, rfl, h6⟩
        · rw [h3] at h5; cases h5
        · rw [h3] at h5
          injection h5 with h5 _
          injection h5 with h5
          subst h5
          exact ⟨Bool.eq_iff_iff.2 (h4.trans h6.symm), rfl⟩

/-! ### an arrow of two -/
theorem pln_lit (k : Int) : plnB ⟨k, 0, ⟨#[]⟩, ⟨#[]⟩⟩ false = true := by unfold plnB; rw [emq_nil]; rfl
theorem st_ck {t : Tr} {o : Option Tr} {m : Bool} (h : stR (some t) = (o, m, 0)) : ckE (some t) = 0 := st_ck0 h
/-! ### a function that is handed a constructor -/
end Go.Proofs.YtmiicfdigkkbdaaDoor
