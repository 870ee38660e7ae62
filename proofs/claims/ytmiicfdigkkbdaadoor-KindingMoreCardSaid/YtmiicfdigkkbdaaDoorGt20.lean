/-
  Layer 12: plain: what is moved, or put in the place of a variable of its kind, has the kind that was; so has a normal form.
-/
import Derived.Test.YtmiicfdigkkbdaaDoorGt19
namespace Go.Proofs.YtmiicfdigkkbdaaDoor
open Go.RowKit

theorem kd_kids {x : Nod} {k : Fr} (h : kdT (x, k) = true) : kdF k = true := by
  unfold kdT at h
  rw [Bool.and_eq_true] at h
  have h3 := h.2
  split at h3
  · rw [show k = .nil from Fr.len0 (beq_iff_eq.1 h3)]; rfl
  · simp only [Bool.and_eq_true] at h3
    exact h3.2.2
theorem kd_of {s : Bool} {c : List Tr} {x : Nod} {k : Fr} {R : List Tr → List Kx} (h : x.k = 100 ∨ x.k = 101) : ofX s c x k R = .ok starT := by
  unfold ofX
  rw [if_neg (by omega), if_neg (by omega), if_neg (by omega), if_neg (by omega), if_neg (by omega), if_neg (by omega), if_neg (by omega)]
theorem co_row {m : Nat} {x : Nod} {k r : Fr} (h : coF m (.cons x k r) = true) : ((x.k = 100 ∨ x.k = 101) ∧ kdF k = true ∨ (∃ m', coF m' k = true) ∧ ¬ (x.k = 100 ∨ x.k = 101) ∧ (x.k = 110 → 0 ≤ x.n) ∧ (117 ≤ x.k → x.k ≤ 119 → k.len = 2 ∧ coF 1 k = true)) ∧ ∃ m', coF m' r = true := by
  have hr : ∃ m', coF m' r = true := by
    unfold coF at h
    rw [Bool.and_eq_true] at h
    exact ⟨_, h.2⟩
  refine ⟨?_, hr⟩
  by_cases hm0 : m = 0
  · subst hm0
    rw [coF_0, Bool.and_eq_true] at h
    right
    have h1 := h.1
    refine ⟨co_kids h1, ?_⟩
    unfold coT at h1
    simp only at h1
    by_cases c0 : x.k = 110
    · rw [if_pos c0] at h1
      simp only [Bool.and_eq_true, decide_eq_true_eq] at h1
      exact ⟨by omega, fun _ => h1.2.2.1, fun h => by omega⟩
    · rw [if_neg c0, Bool.and_eq_true] at h1
      have h2 := h1.2
      refine ⟨?_, fun h => absurd h c0, fun g1 g2 => ?_⟩
      · intro hk
        rw [if_neg (by omega), if_neg (by omega), if_neg (by omega), if_neg (by omega), if_neg (by omega)] at h2
        cases h2
      · rw [if_neg (by omega), if_neg (by omega), if_neg (by omega), if_pos ⟨g1, g2⟩, Bool.and_eq_true] at h2
        exact ⟨beq_iff_eq.1 h2.1, h2.2⟩
  · by_cases hm1 : m = 1
    · subst hm1
      rw [coF_1, Bool.and_eq_true] at h
      exact .inl ⟨kdT_k h.1, kd_kids h.1⟩
    · rw [coF_f hm0 hm1, Bool.and_eq_true] at h
      have hk := fdT_k h.1
      exact .inr ⟨⟨0, fd_kids h.1⟩, by omega, by omega, by omega⟩
theorem Fr.mv_kd_id {b c : Int} {f : Fr} : ∀ {d : Nat}, kdF f = true → Fr.mv b c d f = some f := by
  induction f with
  | nil => intro d _; rfl
  | cons x k r ihk ihr =>
    intro d h
    rw [kdF_cons, Bool.and_eq_true] at h
    obtain ⟨h1, h2⟩ := h
    have hk := kdT_k h1
    have hv : x.m = ⟨#[]⟩ := by unfold kdT at h1; rw [Bool.and_eq_true] at h1; exact (plnB_ok h1.1).1
    refine Fr.mv_some ?_ (ihk (kd_kids h1)) (ihr h2)
    unfold mvN
    rw [if_neg (fun h => by have := h.1; omega), setN_self hv]
theorem hd_mv {b c : Int} {d : Nat} {k k' : Fr} (hl : k.len = 2) (hc : coF 1 k = true) (h : Fr.mv b c d k = some k') : hdT k' = hdT k := by
  obtain ⟨z, zk, b1, bk, rfl⟩ := Fr.two hl
  rw [coF_1, Bool.and_eq_true] at hc
  obtain ⟨y, k1, r1, h1, h2, h3, rfl⟩ := Fr.mv_cons h
  have h4 : Fr.mv b c d (.cons z zk .nil) = some (.cons y k1 .nil) := Fr.mv_some h1 h2 rfl
  rw [Fr.mv_kd_id (by rw [kdF_cons, hc.1]; rfl)] at h4
  injection h4 with h4
  injection h4 with h5 h6 _
  rw [h5, h6]
  rfl
theorem hd_pt {i : Int} {u : Tr} {d : Nat} {k k' : Fr} (hl : k.len = 2) (hc : coF 1 k = true) (h : Fr.pt i u d k = some k') : hdT k' = hdT k := by
  obtain ⟨z, zk, b1, bk, rfl⟩ := Fr.two hl
  rw [coF_1, Bool.and_eq_true] at hc
  obtain ⟨t, r', h1, h2, rfl⟩ := Fr.pt_inv h
  have h4 : Fr.pt i u d (.cons z zk .nil) = some (.cons t.1 t.2 .nil) := Fr.pt_mk h1 rfl
  rw [Fr.pt_kd (by rw [kdF_cons, hc.1]; rfl)] at h4
  injection h4 with h4
  injection h4 with h5 h6 _
  rw [h5, h6]
  rfl
theorem va_some {c : List Tr} {n : Int} {j : Nat} {t : Tr} (hj : n.toNat = j) (h : c[j]? = some t) : vaX c n = .ok t := by unfold vaX; rw [hj, h]
theorem va_ok {c : List Tr} {n : Int} {t : Tr} (h : vaX c n = .ok t) : c[n.toNat]? = some t := by
  unfold vaX at h
  cases hg : c[n.toNat]? with
  | none => rw [hg] at h; cases h
  | some u => rw [hg] at h; injection h with h; rw [h]
theorem mv_of (post ins : List Tr) (f : Fr) : ∀ (pre : List Tr) (m : Nat) (f' : Fr), coF m f = true → Fr.mv ins.length 0 pre.length f = some f' → LesL (ofF false (pre ++ post) f) (ofF false (pre ++ (ins ++ post)) f') := by
  induction f with
  | nil => intro pre m f' _ h; injection h with h; rw [← h]; exact .nil
  | cons x k r ihk ihr =>
    intro pre m f' hc h
    obtain ⟨y, k', r', h1, h2, h3, rfl⟩ := Fr.mv_cons h
    obtain ⟨hrow, m', hr⟩ := co_row hc
    refine .cons ?_ (ihr pre m' r' hr h3)
    have hk := mvN_k h1
    rcases hrow with ⟨hkd, _⟩ | ⟨⟨m2, hm2⟩, _, hn, hb⟩
    · show Les (ofX _ _ _ _ _) (ofX _ _ _ _ _)
      rw [kd_of hkd, kd_of (by rw [hk]; exact hkd)]
      exact Les.refl _
    · refine ofX_les hk (fun h110 => ?_) (fun hi => ?_) (fun hi g => ?_) (fun g1 g2 => hd_mv (hb g1 g2).1 (hb g1 g2).2 h2) (fun _ h => nomatch h.1)
      · intro t ht
        have hg := va_ok ht
        have hn := hn h110
        unfold mvN at h1
        by_cases hf : frV 0 pre.length x
        · rw [if_pos hf] at h1
          split at h1
          · cases h1
          · injection h1 with h1
            rw [← h1]
            obtain ⟨_, q1, q2⟩ := hf
            refine va_some (j := x.n.toNat + ins.length) (by show (x.n + (ins.length : Int)).toNat = _; omega) ?_
            rw [List.getElem?_append_right (by omega)] at hg
            rw [List.getElem?_append_right (by omega), List.getElem?_append_right (by omega), ← hg]
            congr 1
            omega
        · rw [if_neg hf] at h1
          injection h1 with h1
          rw [← h1]
          have hlt : x.n.toNat < pre.length := by
            apply Classical.byContradiction
            intro hge
            exact hf ⟨h110, by omega, by omega⟩
          refine va_some (j := x.n.toNat) rfl ?_
          rw [List.getElem?_append_left hlt] at hg ⊢
          exact hg
      · rw [hi] at h2
        exact ihk pre m2 k' hm2 h2
      · rw [hi] at h2
        exact ihk (g :: pre) m2 k' hm2 h2
theorem mvT_of {post ins : List Tr} {u t K : Tr} (hc : coT u = true) (h : mvT ins.length 0 0 u = some t) (hu : ofT false post u = .ok K) : ofT false (ins ++ post) t = .ok K := by
  have := mv_of post ins (.cons u.1 u.2 .nil) [] 0 _ (by rw [coT_F]; exact hc) (mvT_F.1 h)
  cases this with
  | cons h1 _ => exact h1 K hu
theorem pt_of (post : List Tr) {K u : Tr} (hcu : coT u = true) (hu : ofT false post u = .ok K) (f : Fr) : ∀ (pre : List Tr) (m : Nat) (g : Fr), coF m f = true → Fr.pt 0 u pre.length f = some g → LesL (ofF false (pre ++ K :: post) f) (ofF false (pre ++ post) g) := by
  induction f with
  | nil => intro pre m g _ h; injection h with h; rw [← h]; exact .nil
  | cons x k r ihk ihr =>
    intro pre m g hc h
    obtain ⟨hrow, m', hr⟩ := co_row hc
    rcases Fr.pt_c h with ⟨ha, t, r', h1, h2, rfl⟩ | ⟨hna, k', r', h2, h3, rfl⟩
    · refine .cons ?_ (ihr pre m' r' hr h2)
      obtain ⟨q0, q1, q2⟩ := ha
      intro s hs
      have hs : ofX false (pre ++ K :: post) x k (fun c' => ofF false c' k) = .ok s := hs
      unfold ofX at hs
      rw [if_pos q0] at hs
      have hg := va_ok hs
      have hn : x.n.toNat = pre.length := by omega
      rw [hn, List.getElem?_append_right (Nat.le_refl _), Nat.sub_self] at hg
      injection hg with hg
      subst hg
      exact mvT_of hcu h1 hu
    · refine .cons ?_ (ihr pre m' r' hr h3)
      have hk := (ptN_k 0 pre.length x).1
      rcases hrow with ⟨hkd, _⟩ | ⟨⟨m2, hm2⟩, _, hn, hb⟩
      · show Les (ofX _ _ _ _ _) (ofX _ _ _ _ _)
        rw [kd_of hkd, kd_of (by rw [hk]; exact hkd)]
        exact Les.refl _
      · refine ofX_les hk (fun h110 => ?_) (fun hi => ?_) (fun hi g => ?_) (fun g1 g2 => hd_pt (hb g1 g2).1 (hb g1 g2).2 h2) (fun _ h => nomatch h.1)
        · intro t ht
          have hg := va_ok ht
          have hn := hn h110
          unfold ptN
          by_cases hf : frV (0 + 1) pre.length x
          · rw [if_pos hf]
            obtain ⟨_, q1, q2⟩ := hf
            refine va_some (j := x.n.toNat - 1) (by show (x.n - 1).toNat = _; omega) ?_
            rw [List.getElem?_append_right (by omega), show x.n.toNat - pre.length = (x.n.toNat - 1 - pre.length) + 1 by omega, List.getElem?_cons_succ] at hg
            rw [List.getElem?_append_right (by omega)]
            exact hg
          · rw [if_neg hf]
            have hlt : x.n.toNat < pre.length := by
              apply Classical.byContradiction
              intro hge
              by_cases he : x.n.toNat = pre.length
              · exact hna ⟨h110, by omega, by omega⟩
              · exact hf ⟨h110, by omega, by omega⟩
            refine va_some (j := x.n.toNat) rfl ?_
            rw [List.getElem?_append_left hlt] at hg ⊢
            exact hg
        · rw [hi] at h2
          exact ihk pre m2 k' hm2 h2
        · rw [hi] at h2
          exact ihk (g :: pre) m2 k' hm2 h2
theorem ptT_of {c : List Tr} {K u t m : Tr} {a : Tr} (hcu : coT u = true) (hu : ofT false c u = .ok K) (hc : coT t = true) (h : ptT 0 u 0 t = some m) (ht : ofT false (K :: c) t = .ok a) : ofT false c m = .ok a := by
  have := pt_of c hcu hu (.cons t.1 t.2 .nil) [] 0 _ (by rw [coT_F]; exact hc) (ptT_F h)
  cases this with
  | cons h1 _ => exact h1 a ht
theorem beta_kind {c : List Tr} {u b a m : Tr} (hc : coT u = true) (hr : rdxB u.1 u.2 = true) (hb : betaO u = some (b, a)) (h : sbR 0 (some b) (some a) = (some m, 0)) : Les (ofT false c u) (ofT false c m) := by
  obtain ⟨y, l, z, zk, b1, bk, a1, ak, h1, h2, h3, h4, h5⟩ := beta_of hc hr
  unfold betaO at hb
  rw [h1] at hb
  injection hb with hb
  injection hb with hb1 hb2
  subst hb1 hb2
  have hx : u.1.k = 120 := by unfold rdxB at hr; rw [Bool.and_eq_true, beq_iff_eq] at hr; exact hr.1
  intro t ht
  unfold ofT ofX at ht
  rw [if_neg (by omega), if_neg (by omega), if_neg (by omega), if_neg (by omega), if_pos hx, h1] at ht
  have ht : apX (ofT false c (y, .cons z zk (.cons b1 bk .nil))) (ofT false c (a1, ak)) = .ok t := ht
  have hy : y.k = 119 := by omega
  have hlam : ofT false c (y, .cons z zk (.cons b1 bk .nil)) = laX (z, zk) (ofT false ((z, zk) :: c) (b1, bk)) := by
    unfold ofT ofX
    dsimp only
    rw [if_neg (by omega), if_neg (by omega), if_neg (by omega), if_pos hy]
    rfl
  rw [hlam] at ht
  cases hB : ofT false ((z, zk) :: c) (b1, bk) with
  | error e => rw [hB] at ht; cases ht
  | ok T =>
    rw [hB] at ht
    cases hA : ofT false c (a1, ak) with
    | error e => rw [hA] at ht; cases ht
    | ok A =>
      rw [hA] at ht
      have ht : (if eqTB (z, zk) A = true then (Except.ok T : Kx) else .error 9) = .ok t := ht
      by_cases he : eqTB (z, zk) A = true
      · rw [if_pos he] at ht
        injection ht with ht
        subst ht
        rw [← eqTB_iff.1 he] at hA
        exact ptT_of h3 hA h2 (sb_pt h).1 hB
      · rw [if_neg he] at ht
        cases ht
theorem set_hd {f : Fr} {j : Nat} {t : Tr} (h : 0 < j) : hdT (f.set j t) = hdT f := by
  cases f with
  | nil => rfl
  | cons x k r =>
    cases j with
    | zero => omega
    | succ j => rfl
theorem step_row {m : Tr} (f : Fr) : ∀ (md : Nat) (i : Int) (p : List Int), coF md f = true → fiF i f = some p → ∃ (j : Nat) (q : List Int) (t : Tr), p = (i + j) :: q ∧ f.get j = some t ∧ fiT t = some q ∧
    ∃ u b a, atT t q = some u ∧ betaO u = some (b, a) ∧ (sbR 0 (some b) (some a) = (some m, 0) → ∀ c, LesL (ofF false c f) (ofF false c (f.set j (withT t q m)))) := by
  induction f with
  | nil => intro md i p _ h; cases h
  | cons x k r ihk ihr =>
    intro md i p hc h
    obtain ⟨hrow, m', hr⟩ := co_row hc
    rw [fiF_cons] at h
    cases hq : fiT (x, k) with
    | none =>
      rw [hq] at h
      obtain ⟨j, q, t, h1, h2, h3, u, b, a, h4, h5, h6⟩ := ihr m' (i + 1) p hr h
      exact ⟨j + 1, q, t, by rw [h1]; congr 1; omega, h2, h3, u, b, a, h4, h5, fun hs c => .cons (Les.refl _) (h6 hs c)⟩
    | some q =>
      rw [hq] at h
      injection h with h
      refine ⟨0, q, (x, k), by rw [← h]; congr 1; omega, rfl, hq, ?_⟩
      unfold fiT at hq
      by_cases hb : rdxB x k = true
      · rw [if_pos hb] at hq
        injection hq with hq
        subst hq
        have hcx : coT (x, k) = true := by
          have hx : x.k = 120 := by unfold rdxB at hb; rw [Bool.and_eq_true, beq_iff_eq] at hb; exact hb.1
          by_cases hm0 : md = 0
          · subst hm0; rw [coF_0, Bool.and_eq_true] at hc; exact hc.1
          · by_cases hm1 : md = 1
            · subst hm1; rw [coF_1, Bool.and_eq_true] at hc; have := kdT_k hc.1; omega
            · rw [coF_f hm0 hm1, Bool.and_eq_true] at hc; have := fdT_k hc.1; omega
        obtain ⟨b, a, h4, h5, h6, _⟩ := redex_parts hcx hb
        exact ⟨(x, k), b, a, rfl, h4, fun hs c => .cons (beta_kind hcx hb h4 hs) (LesL.refl _)⟩
      · rw [if_neg hb] at hq
        rcases hrow with ⟨_, hkd⟩ | ⟨⟨m2, hm2⟩, _, _, hbd⟩
        · rw [kd_fi hkd] at hq; cases hq
        · obtain ⟨j, q', t, h1, h2, h3, u, b, a, h4, h5, h6⟩ := ihk m2 0 q hm2 hq
          have hz : getZ k (0 + (j : Int)) = some t := by
            unfold getZ
            rw [if_neg (by omega), show (0 + (j : Int)).toNat = j by omega]
            exact h2
          refine ⟨u, b, a, by rw [h1, atT_some q' (u := t) hz]; exact h4, h5, fun hs c => ?_⟩
          have h7 := h6 hs
          have hw : withT (x, k) q m = (x, k.set j (withT t q' m)) := by rw [h1, withT_some q' m hz, show (0 + (j : Int)).toNat = j by omega]
          rw [hw]
          refine .cons (ofX_les rfl (fun _ => Les.refl _) (fun _ => h7 c) (fun _ g => h7 (g :: c)) (fun g1 g2 => ?_) (fun _ h => nomatch h.1)) (LesL.refl _)
          have hj : 0 < j := by
            apply Classical.byContradiction
            intro hj
            obtain ⟨g3, g4⟩ := hbd g1 g2
            obtain ⟨z, zk, b1, bk, rfl⟩ := Fr.two g3
            rw [coF_1, Bool.and_eq_true] at g4
            rw [show j = 0 by omega] at h2
            injection h2 with h2
            subst h2
            have hz := kdT_k g4.1
            unfold fiT at h3
            rw [if_neg (by unfold rdxB; rw [Bool.and_eq_true, beq_iff_eq]; show ¬ (z.k = 120 ∧ _); omega), kd_fi (kd_kids g4.1)] at h3
            cases h3
          exact set_hd hj
theorem step_kind {c : List Tr} {t m : Tr} (h : stR (some t) = (some m, true, 0)) : Les (ofT false c t) (ofT false c m) := by
  have hk := st_ck h
  have hc := ck_co hk
  rcases st_cases t with ⟨h0, h1⟩ | ⟨_, _, h1⟩ | ⟨_, p, u, b, a, h2, h3, _, _, h4, _, _, _, _, h5 | h5⟩
  · rw [h1] at h; cases h
  · rw [h1] at h; cases h
  · obtain ⟨s, h6, h7⟩ := h5
    rw [h7] at h
    injection h with h _
    injection h with h
    subst h
    have hf : fiF 0 (.cons t.1 t.2 .nil) = some (0 :: p) := by rw [fiF_cons, show ((t.1, t.2) : Tr) = t from rfl, h2]
    obtain ⟨j, q, t', k1, k2, k3, u', b', a', k4, k5, k6⟩ := step_row (m := s) (.cons t.1 t.2 .nil) 0 0 _ (by rw [coT_F]; exact hc) hf
    injection k1 with k7 k8
    have hj : j = 0 := by omega
    subst hj
    injection k2 with k2
    have k2 : t = t' := k2
    subst k2 k8
    rw [h3] at k4
    injection k4 with k4
    subst k4
    rw [h4] at k5
    injection k5 with k5
    injection k5 with k9 k10
    subst k9 k10
    cases k6 h6 c with
    | cons r1 _ => exact r1
  · obtain ⟨e, _, _, h7⟩ := h5
    rw [h7] at h
    cases h
theorem nm_kind {c : List Tr} : ∀ (j : Nat) (t m : Tr), nmI j t = (some m, 0) → Les (ofT false c t) (ofT false c m) := by
  intro j
  induction j with
  | zero =>
    intro t m h
    rcases st_three t with ⟨e, he, h1⟩ | h1 | ⟨s, h1⟩
    · exact absurd h (nm_bad he h1)
    · rw [nm_done h1] at h
      injection h with h _
      injection h with h
      rw [h]; exact Les.refl _
    · rw [nm_fuel h1] at h; cases h
  | succ j ih =>
    intro t m h
    rcases st_three t with ⟨e, he, h1⟩ | h1 | ⟨s, h1⟩
    · exact absurd h (nm_bad he h1)
    · rw [nm_done h1] at h
      injection h with h _
      injection h with h
      rw [h]; exact Les.refl _
    · rw [nm_step h1] at h
      exact (step_kind h1).trans (ih s m h)
end Go.Proofs.YtmiicfdigkkbdaaDoor
namespace Go.Proofs.YtmiicfdigkkbdaaDoor
open Go.RowKit

theorem loF_app (a b : Fr) (m : Bool) : loF m (a.app b) = (loF m a || loF m b) := by
  induction a with
  | nil => cases m <;> rfl
  | cons x k r _ ih =>
    cases m with
    | false => show loF false (.cons x k (r.app b)) = _; rw [loF_c, loF_c, ih, Bool.or_assoc]
    | true => show loF true (.cons x k (r.app b)) = _; rw [loF_d, loF_d, ih, Bool.or_assoc]
theorem fd_one {m : Nat} {x : Nod} {k : Fr} (h : fdT m (x, k) = true) : ∃ y l, k = .cons y l .nil ∧ coT (y, l) = true ∧ loF false k = loT (y, l) := by
  have hc := fd_kids h
  unfold fdT at h
  simp only [Bool.and_eq_true, beq_iff_eq] at h
  obtain ⟨y, l, rfl⟩ := Fr.one h.2.2.2.1
  rw [coF_0, Bool.and_eq_true] at hc
  exact ⟨y, l, rfl, hc.1, by rw [loF_c]; exact Bool.or_false _⟩
theorem co_rows {x : Nod} {k : Fr} (h : coT (x, k) = true) : (x.k = 115 → coF 2 k = true) ∧ (x.k = 121 → coF 3 k = true) := by
  unfold coT at h
  simp only at h
  constructor
  · intro hk
    rw [if_neg (by omega), Bool.and_eq_true, if_neg (by omega), if_neg (by omega), if_pos hk, Bool.and_eq_true] at h
    exact h.2.2
  · intro hk
    rw [if_neg (by omega), Bool.and_eq_true, if_neg (by omega), if_neg (by omega), if_neg (by omega), if_neg (by omega), if_pos hk] at h
    simp only [Bool.and_eq_true] at h
    exact h.2.2.2
def LoAt (n : Nat) : Prop := ∀ (t : Tr), szT t ≤ n → coT t = true → ∀ (w : World) (Sq : Nat → Prop) (v : Value), InT w Sq v t → Calls Tryd.prog 42 #[v] w (DrB (loT t) w)
set_option maxHeartbeats 12800000 in
set_option maxRecDepth 100000 in
theorem refLoose : ∀ (n : Nat), n ≤ 1000000 → LoAt n
  | 0, _, t, h, _, _, _, _, _ => absurd h (by unfold szT; omega)
  | n + 1, hbig, (x, ks), hn, hco, w, Sq, v, hin => by
    have ih := refLoose n (by omega)
    have cC : Calls Tryd.prog 72 #[v, .int .i64 0, .int .i64 0] w (DrI ((ctT 0 0 (x, ks) : Nat) : Int) w) := refCount 0 (szT (x, ks)) (x, ks) (Nat.le_refl _) (co_tvok hco) 0 (by omega) w Sq v hin
    obtain ⟨q, p, A, cc, rfl, hq1, c0, c1, c2, c3, c4, hc, hkid⟩ := hin.open
    have hsz : szT (x, ks) = 1 + ks.sz := rfl
    have hll := Fr.len_le ks
    have hrow := (co_rows hco).1
    have HR : Hid (loT (x, ks) = if x.k = 110 then false else if x.k = 115 then loF true ks else decide (0 < ctT 0 0 (x, ks))) := Lib.hid rfl
    obtain ⟨R, hR⟩ : ∃ R, loT (x, ks) = R := ⟨_, rfl⟩
    obtain ⟨C, hC⟩ : ∃ C, ctT 0 0 (x, ks) = C := ⟨_, rfl⟩
    rw [hC] at cC
    rw [hR, hC] at HR
    rw [hR]
    obtain ⟨K, hK⟩ : ∃ K, x.k = K := ⟨_, rfl⟩
    rw [hK] at c0 HR hrow
    obtain ⟨N, hN⟩ : ∃ N, ks.len = N := ⟨_, rfl⟩
    rw [hN] at c4 hll
    have hN1 : N ≤ 1000000 := by omega
    have HK := Lib.hid hkid
    have HNN := Lib.hid hN
    have HSZ := Lib.hid (by omega : ks.sz ≤ n)
    have HIH := Lib.hid ih
    have HROW := Lib.hid hrow
    have CC := Lib.hid cC
    clear hin hkid ih hR hN hc hsz hn hK hC hco hrow cC
    by_cases e1 : K = 110
    · subst e1
      have HE := Lib.hid HR.out.symm
      go_enter Tryd.func42, Tryd.ntmps42
      go_wp2_with fail
      go_ret
      exact drb0 (by rw [← HE.out]; rfl)
    by_cases e2 : K = 115
    · subst e2
      have HE : Hid (R = loF true ks) := Lib.hid (by rw [HR.out]; rfl)
      have HRO := Lib.hid (HROW.out rfl)
      clear HR HROW CC
      go_enter Tryd.func42, Tryd.ntmps42
      go_wp2_with fail
      go_loopw [3] (fun j wr => ∃ (k : Nat) (done rest : Fr), j = .int .i64 k ∧ k = done.len ∧ ks = done.app rest ∧ Kid w Sq A rest k ∧ loF true done = false ∧ ∃ q, wr = w.drewN q) (fun j _ => N - (intOf j).toNat)
      case atStart => exact ⟨0, .nil, ks, rfl, rfl, rfl, HK.out, rfl, 0, rfl⟩
      case round =>
        obtain ⟨k, done, rest, rfl, hk, hks, hkid, hlo, qq, rfl⟩ := hrel
        have hl : N = done.len + rest.len := by rw [← HNN.out, hks, Fr.len_app]
        have hs : ks.sz = done.sz + rest.sz := by rw [hks, Fr.sz_app]
        have hsz := HSZ.out
        have HKS := Lib.hid hks
        have HLO := Lib.hid hlo
        clear hlo
        by_cases hlt : 0 < rest.len
        · obtain ⟨y, l, r, rfl⟩ := Fr.cut hlt
          obtain ⟨kb, ko, u, rfl, hkb, hcell, hu, hnext⟩ := hkid.next
          have hfd : fdT 2 (y, l) = true := by
            have h := HRO.out
            rw [HKS.out, coF_app (by decide), Bool.and_eq_true, coF_f (by decide) (by decide), Bool.and_eq_true] at h
            exact h.2.1
          obtain ⟨z, mm, rfl, hcz, hlz⟩ := fd_one hfd
          obtain ⟨q', p', A', cc', rfl, hq', d0, d1, d2, d3, d4, hc', hkid'⟩ := hu.open
          obtain ⟨kb', ko', u', rfl, hkb', hcell', hu', -⟩ := hkid'.next
          rw [Nat.add_zero] at hcell'
          have hyl : szT (z, mm) = 1 + mm.sz := rfl
          have hsr : (Fr.cons y (.cons z mm .nil) r).sz = 1 + (1 + mm.sz + 0) + r.sz := rfl
          have hlr : (Fr.cons y (.cons z mm .nil) r).len = r.len + 1 := rfl
          have cI := fun m => HIH.out (z, mm) (by omega) hcz (w.drewN m) Sq u' (hu'.drew m)
          have hkN : k < N := by omega
          have hkz : (k : Int) < (N : Int) := by omega
          have HK1 := Lib.hid hk
          have HN := Lib.hid hnext
          have hlz2 : loF true (.cons y (.cons z mm .nil) r) = (loT (z, mm) || loF true r) := by rw [loF_d, hlz]
          have hlz3 : loF true (.cons y (.cons z mm .nil) .nil) = (loT (z, mm) || false) := by rw [loF_d, hlz]; rfl
          obtain ⟨B, hB⟩ : ∃ B, loT (z, mm) = B := ⟨_, rfl⟩
          rw [hB] at cI hlz2 hlz3
          have hl1 : (Fr.cons z mm .nil).len = 1 := rfl
          rw [hl1] at d4
          have HA := Lib.hid (loF_app done (.cons y (.cons z mm .nil) r) true)
          have HB := Lib.hid (loF_app done (.cons y (.cons z mm .nil) .nil) true)
          have HL2 := Lib.hid hlz2
          have HL3 := Lib.hid hlz3
          clear hkid hnext hu hks hk hl hs hlr hsr hsz hyl hfd hlz hlz2 hlz3 hkid' hu' hB hl1 hcz hc' d0 d1 d2 d3
          go_wp2_with fail
          refine (cI _).mono ?_
          rintro e w' ⟨rfl, q2, rfl⟩
          cases B with
          | true =>
            have HX : Hid (R = true) := Lib.hid (by rw [HE.out, HKS.out, HA.out, HL2.out, HLO.out]; rfl)
            go_wp2_with fail
            go_ret
            first | exact drb2 _ _ HX.out.symm | exact drb _ HX.out.symm
          | false =>
            go_wp2_with fail
            go_roundw
            case rel => exact ⟨k + 1, done.app (.cons y (.cons z mm .nil) .nil), r, by go_num, by rw [Fr.len_app, HK1.out]; rfl, by rw [HKS.out, Fr.app_cons], HN.out, by rw [HB.out, HL3.out, HLO.out]; rfl, by first | exact ⟨_, rfl⟩ | exact ⟨_, World.drewN_drewN _ _ _⟩⟩
            case measure => simp [intOf]; omega
        · have h0 : rest = .nil := by
            cases rest with
            | nil => rfl
            | cons y l r => exact absurd (Nat.succ_pos _) hlt
          subst h0
          have hl' : N = done.len := by simpa [Fr.len] using hl
          have hkz : ¬ (k : Int) < (N : Int) := by omega
          clear hkid hks hk hl hl' hs hsz
          go_wp2_with fail
          go_ret
          exact drb _ (by rw [HE.out, HKS.out, Fr.app_nil]; exact HLO.out.symm)
    · have e3 : (K != 115) = true := by rw [bne_iff_ne]; exact e2
      have HE : Hid (R = decide (0 < C)) := Lib.hid (by rw [HR.out, if_neg e1, if_neg e2])
      have cC := CC.out
      clear HR HROW CC
      go_enter Tryd.func42, Tryd.ntmps42
      go_wp2_with fail
      refine cC.mono ?_
      rintro e w' ⟨rfl, q2, rfl⟩
      go_wp2_with fail
      go_ret
      exact drb _ HE.out.symm
def fitE (k : Fr) : Nat := if loF true k = true then 15 else 0
set_option maxHeartbeats 12800000 in
set_option maxRecDepth 100000 in
theorem refFit (x : Nod) (ks : Fr) (hbig : szT (x, ks) ≤ 1000000) (hco : coT (x, ks) = true) (h121 : x.k = 121) (w : World) (Sq : Nat → Prop) (v : Value) (hin : InT w Sq v (x, ks)) :
    Calls Tryd.prog 22 #[v] w (DrI (fitE ks : Nat) w) := by
  have ih := refLoose (szT (x, ks)) hbig
  obtain ⟨q, p, A, cc, rfl, hq1, c0, c1, c2, c3, c4, hc, hkid⟩ := hin.open
  have hsz : szT (x, ks) = 1 + ks.sz := rfl
  have hll := Fr.len_le ks
  have hrow := (co_rows hco).2 h121
  obtain ⟨R, hR⟩ : ∃ R, loF true ks = R := ⟨_, rfl⟩
  have HF : Hid (fitE ks = if R = true then 15 else 0) := Lib.hid (by unfold fitE; rw [hR])
  obtain ⟨N, hN⟩ : ∃ N, ks.len = N := ⟨_, rfl⟩
  rw [hN] at c4 hll
  have hN1 : N ≤ 1000000 := by omega
  have HK := Lib.hid hkid
  have HNN := Lib.hid hN
  have HSZ := Lib.hid (by omega : ks.sz ≤ szT (x, ks))
  have HIH := Lib.hid ih
  have HRO := Lib.hid hrow
  have HE := Lib.hid hR.symm
  obtain ⟨F, hF⟩ : ∃ F, fitE ks = F := ⟨_, rfl⟩
  rw [hF] at HF ⊢
  clear hin hkid ih hR hN hc hsz hco hrow hF hbig
  go_enter Tryd.func22, Tryd.ntmps22
  go_wp2_with fail
  go_loopw [3] (fun j wr => ∃ (k : Nat) (done rest : Fr), j = .int .i64 k ∧ k = done.len ∧ ks = done.app rest ∧ Kid w Sq A rest k ∧ loF true done = false ∧ ∃ q, wr = w.drewN q) (fun j _ => N - (intOf j).toNat)
  case atStart => exact ⟨0, .nil, ks, rfl, rfl, rfl, HK.out, rfl, 0, rfl⟩
  case round =>
    obtain ⟨k, done, rest, rfl, hk, hks, hkid, hlo, qq, rfl⟩ := hrel
    have hl : N = done.len + rest.len := by rw [← HNN.out, hks, Fr.len_app]
    have hs : ks.sz = done.sz + rest.sz := by rw [hks, Fr.sz_app]
    have hsz := HSZ.out
    have HKS := Lib.hid hks
    have HLO := Lib.hid hlo
    clear hlo
    by_cases hlt : 0 < rest.len
    · obtain ⟨y, l, r, rfl⟩ := Fr.cut hlt
      obtain ⟨kb, ko, u, rfl, hkb, hcell, hu, hnext⟩ := hkid.next
      have hfd : fdT 3 (y, l) = true := by
        have h := HRO.out
        rw [HKS.out, coF_app (by decide), Bool.and_eq_true, coF_f (by decide) (by decide), Bool.and_eq_true] at h
        exact h.2.1
      obtain ⟨z, mm, rfl, hcz, hlz⟩ := fd_one hfd
      obtain ⟨q', p', A', cc', rfl, hq', d0, d1, d2, d3, d4, hc', hkid'⟩ := hu.open
      obtain ⟨kb', ko', u', rfl, hkb', hcell', hu', -⟩ := hkid'.next
      rw [Nat.add_zero] at hcell'
      have hyl : szT (z, mm) = 1 + mm.sz := rfl
      have hsr : (Fr.cons y (.cons z mm .nil) r).sz = 1 + (1 + mm.sz + 0) + r.sz := rfl
      have hlr : (Fr.cons y (.cons z mm .nil) r).len = r.len + 1 := rfl
      have cI := fun m => HIH.out (z, mm) (by omega) hcz (w.drewN m) Sq u' (hu'.drew m)
      have hkN : k < N := by omega
      have hkz : (k : Int) < (N : Int) := by omega
      have HK1 := Lib.hid hk
      have HN := Lib.hid hnext
      have hlz2 : loF true (.cons y (.cons z mm .nil) r) = (loT (z, mm) || loF true r) := by rw [loF_d, hlz]
      have hlz3 : loF true (.cons y (.cons z mm .nil) .nil) = (loT (z, mm) || false) := by rw [loF_d, hlz]; rfl
      obtain ⟨B, hB⟩ : ∃ B, loT (z, mm) = B := ⟨_, rfl⟩
      rw [hB] at cI hlz2 hlz3
      have hl1 : (Fr.cons z mm .nil).len = 1 := rfl
      rw [hl1] at d4
      have HA := Lib.hid (loF_app done (.cons y (.cons z mm .nil) r) true)
      have HB := Lib.hid (loF_app done (.cons y (.cons z mm .nil) .nil) true)
      have HL2 := Lib.hid hlz2
      have HL3 := Lib.hid hlz3
      clear hkid hnext hu hks hk hl hs hlr hsr hsz hyl hfd hlz hlz2 hlz3 hkid' hu' hB hl1 hcz hc' d0 d1 d2 d3
      go_wp2_with fail
      refine (cI _).mono ?_
      rintro e w' ⟨rfl, q2, rfl⟩
      cases B with
      | true =>
        have HX : Hid (F = 15) := Lib.hid (by rw [HF.out, HE.out, HKS.out, HA.out, HL2.out, HLO.out]; rfl)
        go_wp2_with fail
        go_ret
        try rw [World.drewN_drewN]
        exact dri _ (by rw [HX.out]; rfl)
      | false =>
        go_wp2_with fail
        go_roundw
        case rel => exact ⟨k + 1, done.app (.cons y (.cons z mm .nil) .nil), r, by go_num, by rw [Fr.len_app, HK1.out]; rfl, by rw [HKS.out, Fr.app_cons], HN.out, by rw [HB.out, HL3.out, HLO.out]; rfl, by first | exact ⟨_, rfl⟩ | exact ⟨_, World.drewN_drewN _ _ _⟩⟩
        case measure => simp [intOf]; omega
    · have h0 : rest = .nil := by
        cases rest with
        | nil => rfl
        | cons y l r => exact absurd (Nat.succ_pos _) hlt
      subst h0
      have hl' : N = done.len := by simpa [Fr.len] using hl
      have hkz : ¬ (k : Int) < (N : Int) := by omega
      have HX : Hid (F = 0) := Lib.hid (by rw [HF.out, HE.out, HKS.out, Fr.app_nil, HLO.out]; rfl)
      clear hkid hks hk hl hl' hs hsz
      go_wp2_with fail
      go_ret
      exact dri _ (by rw [HX.out]; rfl)
end Go.Proofs.YtmiicfdigkkbdaaDoor
