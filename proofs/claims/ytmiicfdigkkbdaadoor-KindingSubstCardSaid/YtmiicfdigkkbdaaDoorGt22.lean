/-
  Layer 12: plain: the kinds that stand at binders stay small under steps; a normal form hands nothing to what has a large kind.
-/
import Derived.Test.YtmiicfdigkkbdaaDoorGt21
namespace Go.Proofs.YtmiicfdigkkbdaaDoor
open Go.RowKit

def AkF (M : Nat) : Fr → Prop
  | .nil => True
  | .cons x k r => (117 ≤ x.k → x.k ≤ 119 → szT (hdT k) ≤ M) ∧ AkF M k ∧ AkF M r
def AkT (M : Nat) (t : Tr) : Prop := (117 ≤ t.1.k → t.1.k ≤ 119 → szT (hdT t.2) ≤ M) ∧ AkF M t.2
theorem AkF.mono {M M' : Nat} (h : M ≤ M') {f : Fr} : AkF M f → AkF M' f := by
  induction f with
  | nil => exact fun _ => trivial
  | cons x k r ihk ihr => exact fun ⟨h1, h2, h3⟩ => ⟨fun a b => Nat.le_trans (h1 a b) h, ihk h2, ihr h3⟩
theorem hd_sz (k : Fr) : szT (hdT k) ≤ 1 + k.sz := by
  cases k with
  | nil => exact Nat.le_refl _
  | cons x l r => show 1 + l.sz ≤ 1 + (1 + l.sz + r.sz); omega
theorem ak_sz {f : Fr} : ∀ {M : Nat}, f.sz ≤ M → AkF M f := by
  induction f with
  | nil => intro M _; trivial
  | cons x k r ihk ihr =>
    intro M h
    have h1 : (Fr.cons x k r).sz = 1 + k.sz + r.sz := rfl
    have h2 := hd_sz k
    exact ⟨fun _ _ => by omega, ihk (by omega), ihr (by omega)⟩
theorem hd_mv_sz {b c : Int} {d : Nat} {k k' : Fr} (h : Fr.mv b c d k = some k') : szT (hdT k') = szT (hdT k) := by
  cases k with
  | nil => injection h with h; rw [← h]
  | cons z zk r =>
    obtain ⟨y, l, r', _, h2, _, rfl⟩ := Fr.mv_cons h
    show 1 + l.sz = 1 + zk.sz
    rw [(Fr.mv_len h2).2.1]
theorem ak_mv {b c : Int} {M : Nat} {f : Fr} : ∀ {d : Nat} {g : Fr}, Fr.mv b c d f = some g → AkF M f → AkF M g := by
  induction f with
  | nil => intro d g h _; injection h with h; rw [← h]; trivial
  | cons x k r ihk ihr =>
    rintro d g h ⟨h1, h2, h3⟩
    obtain ⟨y, k', r', g1, g2, g3, rfl⟩ := Fr.mv_cons h
    exact ⟨fun a b => by rw [mvN_k g1] at a b; rw [hd_mv_sz g2]; exact h1 a b, ihk g2 h2, ihr g3 h3⟩
theorem ak_mvT {b c : Int} {M d : Nat} {t t' : Tr} (h : mvT b c d t = some t') (ha : AkT M t) : AkT M t' := by
  unfold mvT at h
  split at h
  · rename_i y k' g1 g2
    injection h with h
    subst h
    exact ⟨fun a b => by rw [mvN_k g1] at a b; show szT (hdT k') ≤ M; rw [hd_mv_sz g2]; exact ha.1 a b, ak_mv g2 ha.2⟩
  · cases h
theorem ak_pt {i : Int} {u : Tr} {M : Nat} (hu : AkT M u) {f : Fr} : ∀ {m d : Nat} {g : Fr}, coF m f = true → Fr.pt i u d f = some g → AkF M f → AkF M g := by
  induction f with
  | nil => intro m d g _ h _; injection h with h; rw [← h]; trivial
  | cons x k r ihk ihr =>
    rintro m d g hc h ⟨h1, h2, h3⟩
    obtain ⟨hrow, m', hr⟩ := co_row hc
    rcases Fr.pt_c h with ⟨_, t, r', g1, g2, rfl⟩ | ⟨_, k', r', g1, g2, rfl⟩
    · have ht := ak_mvT g1 hu
      exact ⟨ht.1, ht.2, ihr hr g2 h3⟩
    · have hk := (ptN_k i d x).1
      rcases hrow with ⟨hkd, hkk⟩ | ⟨⟨m2, hm2⟩, _, _, hb⟩
      · rw [Fr.pt_kd hkk] at g1
        injection g1 with g1
        subst g1
        exact ⟨fun a b => by rw [hk] at a b; omega, h2, ihr hr g2 h3⟩
      · exact ⟨fun a b => by rw [hk] at a b; rw [hd_pt (hb a b).1 (hb a b).2 g1]; exact h1 a b, ihk hm2 g1 h2, ihr hr g2 h3⟩
theorem ak_beta {M : Nat} {u b a m : Tr} (hc : coT u = true) (hr : rdxB u.1 u.2 = true) (hb : betaO u = some (b, a)) (h : sbR 0 (some b) (some a) = (some m, 0)) (hu : AkT M u) : AkT M m := by
  obtain ⟨y, l, z, zk, b1, bk, a1, ak, h1, h2, h3, _, _⟩ := beta_of hc hr
  unfold betaO at hb
  rw [h1] at hb
  injection hb with hb
  injection hb with hb1 hb2
  subst hb1 hb2
  obtain ⟨_, hu2⟩ := hu
  rw [h1] at hu2
  obtain ⟨_, ⟨_, _, hb, hbk, _⟩, ha, hak, _⟩ := hu2
  have := ak_pt (M := M) (u := (a1, ak)) ⟨ha, hak⟩ (f := .cons b1 bk .nil) (m := 0) (by rw [coF_0, h2]; rfl) (ptT_F (sb_pt h).1) ⟨hb, hbk, trivial⟩
  exact ⟨this.1, this.2.1⟩
theorem ak_row {M : Nat} {m : Tr} (f : Fr) : ∀ (md : Nat) (i : Int) (p : List Int), coF md f = true → fiF i f = some p → AkF M f → ∃ (j : Nat) (q : List Int) (t : Tr), p = (i + j) :: q ∧ f.get j = some t ∧ fiT t = some q ∧
    ∃ u b a, atT t q = some u ∧ betaO u = some (b, a) ∧ (sbR 0 (some b) (some a) = (some m, 0) → AkF M (f.set j (withT t q m))) := by
  induction f with
  | nil => intro md i p _ h; cases h
  | cons x k r ihk ihr =>
    rintro md i p hc h ⟨a1, a2, a3⟩
    obtain ⟨hrow, m', hr⟩ := co_row hc
    rw [fiF_cons] at h
    cases hq : fiT (x, k) with
    | none =>
      rw [hq] at h
      obtain ⟨j, q, t, h1, h2, h3, u, b, a, h4, h5, h6⟩ := ihr m' (i + 1) p hr h a3
      exact ⟨j + 1, q, t, by rw [h1]; congr 1; omega, h2, h3, u, b, a, h4, h5, fun hs => ⟨a1, a2, h6 hs⟩⟩
    | some q =>
      rw [hq] at h
      injection h with h
      refine ⟨0, q, (x, k), by rw [← h]; congr 1; omega, rfl, hq, ?_⟩
      unfold fiT at hq
      by_cases hb : rdxB x k = true
      · rw [if_pos hb] at hq
        injection hq with hq
        subst hq
        have hcx : coT (x, k) = true := by
          have hx : x.k = 120 := by unfold rdxB at hb; rw [Bool.and_eq_true, beq_iff_eq] at hb; exact hb.1
          by_cases hm0 : md = 0
          · subst hm0; rw [coF_0, Bool.and_eq_true] at hc; exact hc.1
          · by_cases hm1 : md = 1
            · subst hm1; rw [coF_1, Bool.and_eq_true] at hc; have := kdT_k hc.1; omega
            · rw [coF_f hm0 hm1, Bool.and_eq_true] at hc; have := fdT_k hc.1; omega
        obtain ⟨b, a, h4, h5, h6, _⟩ := redex_parts hcx hb
        refine ⟨(x, k), b, a, rfl, h4, fun hs => ?_⟩
        have h7 := ak_beta (M := M) hcx hb h4 hs ⟨a1, a2⟩
        exact ⟨h7.1, h7.2, a3⟩
      · rw [if_neg hb] at hq
        rcases hrow with ⟨_, hkd⟩ | ⟨⟨m2, hm2⟩, _, _, hbd⟩
        · rw [kd_fi hkd] at hq; cases hq
        · obtain ⟨j, q', t, h1, h2, h3, u, b, a, h4, h5, h6⟩ := ihk m2 0 q hm2 hq a2
          have hz : getZ k (0 + (j : Int)) = some t := by
            unfold getZ
            rw [if_neg (by omega), show (0 + (j : Int)).toNat = j by omega]
            exact h2
          refine ⟨u, b, a, by rw [h1, atT_some q' (u := t) hz]; exact h4, h5, fun hs => ?_⟩
          have h7 := h6 hs
          have hw : withT (x, k) q m = (x, k.set j (withT t q' m)) := by rw [h1, withT_some q' m hz, show (0 + (j : Int)).toNat = j by omega]
          rw [hw]
          refine ⟨fun g1 g2 => ?_, h7, a3⟩
          have hj : 0 < j := by
            apply Classical.byContradiction
            intro hj
            obtain ⟨g3, g4⟩ := hbd g1 g2
            obtain ⟨z, zk, b1, bk, rfl⟩ := Fr.two g3
            rw [coF_1, Bool.and_eq_true] at g4
            rw [show j = 0 by omega] at h2
            injection h2 with h2
            subst h2
            have hz := kdT_k g4.1
            unfold fiT at h3
            rw [if_neg (by unfold rdxB; rw [Bool.and_eq_true, beq_iff_eq]; show ¬ (z.k = 120 ∧ _); omega), kd_fi (kd_kids g4.1)] at h3
            cases h3
          show szT (hdT (k.set j _)) ≤ M
          rw [set_hd hj]
          exact a1 g1 g2
theorem ak_step {M : Nat} {t m : Tr} (h : stR (some t) = (some m, true, 0)) (ha : AkT M t) : AkT M m := by
  have hk := st_ck h
  have hc := ck_co hk
  rcases st_cases t with ⟨h0, h1⟩ | ⟨_, _, h1⟩ | ⟨_, p, u, b, a, h2, h3, _, _, h4, _, _, _, _, h5 | h5⟩
  · rw [h1] at h; cases h
  · rw [h1] at h; cases h
  · obtain ⟨s, h6, h7⟩ := h5
    rw [h7] at h
    injection h with h _
    injection h with h
    subst h
    have hf : fiF 0 (.cons t.1 t.2 .nil) = some (0 :: p) := by rw [fiF_cons, show ((t.1, t.2) : Tr) = t from rfl, h2]
    obtain ⟨j, q, t', k1, k2, k3, u', b', a', k4, k5, k6⟩ := ak_row (M := M) (m := s) (.cons t.1 t.2 .nil) 0 0 _ (by rw [coT_F]; exact hc) hf ⟨ha.1, ha.2, trivial⟩
    injection k1 with k7 k8
    have hj : j = 0 := by omega
    subst hj
    injection k2 with k2
    have k2 : t = t' := k2
    subst k2 k8
    rw [h3] at k4
    injection k4 with k4
    subst k4
    rw [h4] at k5
    injection k5 with k5
    injection k5 with k9 k10
    subst k9 k10
    have := k6 h6
    exact ⟨this.1, this.2.1⟩
  · obtain ⟨e, _, _, h7⟩ := h5
    rw [h7] at h
    cases h
theorem ak_nm {M : Nat} : ∀ (j : Nat) (t m : Tr), nmI j t = (some m, 0) → AkT M t → AkT M m := by
  intro j
  induction j with
  | zero =>
    intro t m h ha
    rcases st_three t with ⟨e, he, h1⟩ | h1 | ⟨s, h1⟩
    · exact absurd h (nm_bad he h1)
    · rw [nm_done h1] at h
      injection h with h _
      injection h with h
      rw [← h]; exact ha
    · rw [nm_fuel h1] at h; cases h
  | succ j ih =>
    intro t m h ha
    rcases st_three t with ⟨e, he, h1⟩ | h1 | ⟨s, h1⟩
    · exact absurd h (nm_bad he h1)
    · rw [nm_done h1] at h
      injection h with h _
      injection h with h
      rw [← h]; exact ha
    · rw [nm_step h1] at h
      exact ih s m h (ak_step h1 ha)

/-! ### what a function is handed -/
def ctxK (c : List Tr) (x : Nod) (k : Fr) : List Tr := if 117 ≤ x.k ∧ x.k ≤ 119 then hdT k :: c else if x.k = 121 then starT :: c else c
def ApF : List Tr → Fr → Prop
  | _, .nil => True
  | c, .cons x k r => (x.k = 120 → ∀ q, nth (ofF true c k) 0 = .ok q → szT q ≤ 65536) ∧ ApF (ctxK c x k) k ∧ ApF c r
def ApT (c : List Tr) (t : Tr) : Prop := (t.1.k = 120 → ∀ q, nth (ofF true c t.2) 0 = .ok q → szT q ≤ 65536) ∧ ApF (ctxK c t.1 t.2) t.2
theorem good_ctx {c : List Tr} {M m : Nat} {x : Nod} {k r : Fr} (hM : 1 ≤ M) (hg : GoodC c M) (hc : coF m (.cons x k r) = true) (ha : 117 ≤ x.k → x.k ≤ 119 → szT (hdT k) ≤ M) : GoodC (ctxK c x k) M := by
  unfold ctxK
  obtain ⟨hrow, _⟩ := co_row hc
  split
  · rename_i h
    rcases hrow with ⟨hkd, _⟩ | ⟨_, _, _, hb⟩
    · omega
    · obtain ⟨g3, g4⟩ := hb h.1 h.2
      obtain ⟨z, zk, b1, bk, rfl⟩ := Fr.two g3
      rw [coF_1, Bool.and_eq_true] at g4
      intro q hq
      rcases List.mem_cons.1 hq with rfl | hq
      · exact ⟨g4.1, ha h.1 h.2⟩
      · exact hg q hq
  · split
    · intro q hq
      rcases List.mem_cons.1 hq with rfl | hq
      · exact ⟨star_kd, by rw [star_sz]; exact hM⟩
      · exact hg q hq
    · exact hg
theorem app_co {m : Nat} {x : Nod} {k r : Fr} (hc : coF m (.cons x k r) = true) (h : x.k = 120) : coT (x, k) = true := by
  by_cases hm0 : m = 0
  · subst hm0; rw [coF_0, Bool.and_eq_true] at hc; exact hc.1
  · by_cases hm1 : m = 1
    · subst hm1; rw [coF_1, Bool.and_eq_true] at hc; have := kdT_k hc.1; omega
    · rw [coF_f hm0 hm1, Bool.and_eq_true] at hc; have := fdT_k hc.1; omega
theorem app_two {x : Nod} {k : Fr} (hc : coT (x, k) = true) (h : x.k = 120) : ∃ z zk b bk, k = .cons z zk (.cons b bk .nil) ∧ coT (z, zk) = true ∧ coT (b, bk) = true := by
  unfold coT at hc
  simp only at hc
  rw [if_neg (by omega), Bool.and_eq_true, if_neg (by omega), if_pos (by omega), Bool.and_eq_true] at hc
  obtain ⟨z, zk, b, bk, rfl⟩ := Fr.two (beq_iff_eq.1 hc.2.1)
  have h2 := hc.2.2
  rw [coF_0, coF_0, Bool.and_eq_true, Bool.and_eq_true] at h2
  exact ⟨z, zk, b, bk, rfl, h2.1, h2.2.1⟩
theorem ap_size {M : Nat} (hM : 1 ≤ M) {f : Fr} : ∀ {m : Nat} {c : List Tr}, coF m f = true → AkF M f → GoodC c M → 2 * f.sz + M ≤ 65536 → ApF c f := by
  induction f with
  | nil => intro m c _ _ _ _; trivial
  | cons x k r ihk ihr =>
    rintro m c hc ⟨a1, a2, a3⟩ hg hs
    have h1 : (Fr.cons x k r).sz = 1 + k.sz + r.sz := rfl
    obtain ⟨hrow, m', hr⟩ := co_row hc
    refine ⟨fun h q hq => ?_, ?_, ihr hr a3 hg (by omega)⟩
    · obtain ⟨z, zk, b, bk, rfl, h2, h3⟩ := app_two (app_co hc h) h
      have h4 := (of_good (s := true) (szT (z, zk)) (z, zk) (Nat.le_refl _) h2 c M hg q hq).2
      have h5 : szT (z, zk) = 1 + zk.sz := rfl
      have h6 : (Fr.cons z zk (.cons b bk .nil)).sz = 1 + zk.sz + (1 + bk.sz + 0) := rfl
      omega
    · have hgc := good_ctx hM hg hc a1
      rcases hrow with ⟨hkd, hkk⟩ | ⟨⟨m2, hm2⟩, _⟩
      · have hkn : ∀ (g : Fr) (c : List Tr), kdF g = true → ApF c g := by
          intro g
          induction g with
          | nil => intro c _; trivial
          | cons y l s ihl ihs =>
            intro c h
            rw [kdF_cons, Bool.and_eq_true] at h
            exact ⟨fun h120 => by have := kdT_k h.1; omega, ihl _ (kd_kids h.1), ihs _ h.2⟩
        exact hkn _ _ hkk
      · exact ihk hm2 a2 hgc (by omega)
theorem nf_kind {M : Nat} (hM : 1 ≤ M) : ∀ (n : Nat) (t : Tr), szT t ≤ n → coT t = true → fiT t = none → t.1.k ≠ 119 → ∀ (c : List Tr), GoodC c M → ∀ q, ofT true c t = .ok q → szT q ≤ M
  | 0, t, h, _, _, _, _, _, _, _ => absurd h (by unfold szT; omega)
  | n + 1, (x, ks), hn, hc, hf, h119, c, hg, q, hq => by
    have hk : ofX true c x ks (fun c' => ofF true c' ks) = .ok q := hq
    have h119 : x.k ≠ 119 := h119
    have hst : szT starT ≤ M := by rw [star_sz]; exact hM
    unfold ofX at hk
    by_cases c1 : x.k = 110
    · rw [if_pos c1] at hk
      exact (hg q (List.mem_of_getElem? (va_ok hk))).2
    rw [if_neg c1] at hk
    by_cases c2 : x.k = 114 ∨ x.k = 115
    · rw [if_pos c2] at hk; rw [okS_star hk]; exact hst
    rw [if_neg c2] at hk
    by_cases c3 : x.k = 117 ∨ x.k = 118
    · rw [if_pos c3] at hk; rw [okS_star hk]; exact hst
    rw [if_neg c3, if_neg h119] at hk
    by_cases c5 : x.k = 120
    · rw [if_pos c5] at hk
      obtain ⟨z, zk, b, bk, rfl, h2, h3⟩ := app_two hc c5
      have hk : apX (ofT true c (z, zk)) (ofT true c (b, bk)) = .ok q := hk
      cases hA : ofT true c (z, zk) with
      | error e => rw [hA] at hk; cases hk
      | ok f =>
        rw [hA] at hk
        cases hB : ofT true c (b, bk) with
        | error e => rw [hB] at hk; cases hk
        | ok T =>
          rw [hB] at hk
          have hr : ¬ rdxB x (.cons z zk (.cons b bk .nil)) = true := fun h => by unfold fiT at hf; rw [if_pos h] at hf; cases hf
          have hz : z.k ≠ 119 := fun h => hr (by unfold rdxB hdLam; rw [Bool.and_eq_true, beq_iff_eq, beq_iff_eq]; exact ⟨c5, h⟩)
          have hfz : fiT (z, zk) = none := by
            unfold fiT at hf
            rw [if_neg hr] at hf
            rw [fiF_cons] at hf
            cases h : fiT (z, zk) with
            | none => rfl
            | some p => rw [h] at hf; cases hf
          have hz1 : szT (z, zk) = 1 + zk.sz := rfl
          have hz3 : szT (x, .cons z zk (.cons b bk .nil)) = 1 + (1 + zk.sz + (1 + bk.sz + 0)) := rfl
          have g2 := nf_kind hM n (z, zk) (by omega) h2 hfz hz c hg f hA
          unfold apX at hk
          simp only at hk
          by_cases c6 : f.1.k = 101
          · rw [if_pos c6] at hk
            have hfs : szT f = 1 + f.2.sz := rfl
            split at hk
            · rename_i a ka y l r hf2
              split at hk
              · injection hk with hk
                rw [hf2] at hfs
                rw [← hk]
                have hfz : (Fr.cons a ka (.cons y l r)).sz = 1 + ka.sz + (1 + l.sz + r.sz) := rfl
                show 1 + l.sz ≤ _
                omega
              · cases hk
            · cases hk
          · rw [if_neg c6] at hk; cases hk
    rw [if_neg c5] at hk
    by_cases c6 : x.k = 121
    · rw [if_pos c6] at hk
      split at hk
      · split at hk
        · cases hk
        · injection hk with hk; rw [← hk]; exact hst
      · rw [okS_star hk]; exact hst
    rw [if_neg c6] at hk
    by_cases c7 : x.k = 116 ∨ x.k = 122
    · exfalso
      have := coT_kinds hc
      omega
    rw [if_neg c7] at hk
    injection hk with hk
    rw [← hk]
    exact hst
theorem ap_nf {M : Nat} (hM : 1 ≤ M) (hM2 : M ≤ 65536) {f : Fr} : ∀ {m : Nat} {c : List Tr} {i : Int}, coF m f = true → fiF i f = none → AkF M f → GoodC c M → ApF c f := by
  induction f with
  | nil => intro m c i _ _ _ _; trivial
  | cons x k r ihk ihr =>
    rintro m c i hc hf ⟨a1, a2, a3⟩ hg
    obtain ⟨hrow, m', hr⟩ := co_row hc
    rw [fiF_cons] at hf
    have hx : fiT (x, k) = none := by
      cases h : fiT (x, k) with
      | none => rfl
      | some p => rw [h] at hf; cases hf
    rw [hx] at hf
    have hk : ¬ rdxB x k = true ∧ fiF 0 k = none := by
      unfold fiT at hx
      by_cases h : rdxB x k = true
      · rw [if_pos h] at hx; cases hx
      · rw [if_neg h] at hx; exact ⟨h, hx⟩
    refine ⟨fun h q hq => ?_, ?_, ihr hr hf a3 hg⟩
    · obtain ⟨z, zk, b, bk, rfl, h2, h3⟩ := app_two (app_co hc h) h
      have hz : z.k ≠ 119 := fun h9 => hk.1 (by unfold rdxB hdLam; rw [Bool.and_eq_true, beq_iff_eq, beq_iff_eq]; exact ⟨h, h9⟩)
      have hfz : fiT (z, zk) = none := by
        have h5 := hk.2
        rw [fiF_cons] at h5
        cases h : fiT (z, zk) with
        | none => rfl
        | some p => rw [h] at h5; cases h5
      exact Nat.le_trans (nf_kind hM (szT (z, zk)) (z, zk) (Nat.le_refl _) h2 hfz hz c hg q hq) hM2
    · have hgc := good_ctx hM hg hc a1
      rcases hrow with ⟨hkd, hkk⟩ | ⟨⟨m2, hm2⟩, _⟩
      · have hkn : ∀ (g : Fr) (c : List Tr), kdF g = true → ApF c g := by
          intro g
          induction g with
          | nil => intro c _; trivial
          | cons y l s ihl ihs =>
            intro c h
            rw [kdF_cons, Bool.and_eq_true] at h
            exact ⟨fun h120 => by have := kdT_k h.1; omega, ihl _ (kd_kids h.1), ihs _ h.2⟩
        exact hkn _ _ hkk
      · exact ihk hm2 hk.2 a2 hgc
def ApO (C : List (Option Tr)) (o : Option Tr) : Prop := ∀ t c', o = some t → C = c'.map some → coT t = true → GoodC c' 65536 → ApT c' t
theorem good_small {C : List (Option Tr)} {c' : List Tr} {M : Nat} (hC : ∀ t ∈ C, szO t ≤ M) (h : C = c'.map some) (hg : GoodC c' 65536) : GoodC c' M := fun q hq => ⟨(hg q hq).1, hC (some q) (by rw [h]; exact List.mem_map.2 ⟨q, hq, rfl⟩)⟩
theorem ap_small {C : List (Option Tr)} {o : Option Tr} (hC : ∀ t ∈ C, szO t ≤ 60) (ho : szO o ≤ 20000) : ApO C o := by
  rintro t c' rfl hc hco hg
  have ho : szT t ≤ 20000 := ho
  have hz : szT t = 1 + t.2.sz := rfl
  have hs : (Fr.cons t.1 t.2 .nil).sz = 1 + t.2.sz + 0 := rfl
  have := ap_size (M := 20000) (by decide) (f := .cons t.1 t.2 .nil) (m := 0) (c := c') (by rw [coT_F]; exact hco) (ak_sz (by omega)) (fun q hq => by have := good_small hC hc hg q hq; exact ⟨this.1, by omega⟩) (by omega)
  exact ⟨this.1, this.2.1⟩
theorem ap_norm {C : List (Option Tr)} {o : Option Tr} {m : Tr} (hC : ∀ t ∈ C, szO t ≤ 60) (ho : szO o ≤ 60) (hm : nmR o = (some m, 0)) : ApO C (some m) := by
  intro t c' e hc hco hg
  injection e with e
  subst e
  cases o with
  | none => cases hm
  | some s =>
    have ho : szT s ≤ 60 := ho
    have hz : szT s = 1 + s.2.sz := rfl
    have ha : AkT 60 m := ak_nm 1000 s m hm ⟨fun _ _ => Nat.le_trans (hd_sz s.2) (by omega), ak_sz (by omega)⟩
    have hst : fiT m = none := by
      rcases nmR_form (some s) with ⟨y, hy, hys⟩ | ⟨e, he, hy⟩
      · rw [hy] at hm
        injection hm with hm _
        injection hm with hm
        subst hm
        rcases st_cases y with ⟨h0, h1⟩ | ⟨_, h2, h1⟩ | ⟨_, p, u, b, a, h2, h3, _, _, h4, _, _, _, _, h5 | h5⟩
        · rw [h1] at hys; injection hys with _ hys; injection hys with _ hys; exact absurd hys h0
        · exact h2
        · obtain ⟨s', _, h7⟩ := h5
          rw [h7] at hys; cases hys
        · obtain ⟨e, he, _, h7⟩ := h5
          rw [h7] at hys; injection hys with _ hys; injection hys with _ hys; exact absurd hys he
      · rw [hy] at hm; cases hm
    have := ap_nf (M := 60) (by decide) (by decide) (f := .cons m.1 m.2 .nil) (m := 0) (c := c') (i := 0) (by rw [coT_F]; exact hco) (by rw [fiF_cons, show ((m.1, m.2) : Tr) = m from rfl, hst]; rfl) ⟨ha.1, ha.2, trivial⟩ (good_small hC hc hg)
    exact ⟨this.1, this.2.1⟩
end Go.Proofs.YtmiicfdigkkbdaaDoor
namespace Go.Proofs.YtmiicfdigkkbdaaDoor
open Go.RowKit

structure KdAll : Prop where
  kind : ∀ (w : World) (c : List (Option Tr)) (o : Option Tr) (cv v : Value), Cxo w cv c → c.length ≤ 1000 → (∀ t ∈ c, szO t ≤ 65536) → HasT w v o → szO o ≤ 65536 → ApO c o → Calls Tryd.prog 12 #[cv, v] w (TeP (knR c o) w)
  fits : ∀ (w : World) (o : Option Tr) (v : Value), HasT w v o → szO o ≤ 65536 → Calls Tryd.prog 8 #[v] w (InP (fiE o) w)
structure CtT (W : World) : Prop where
  text : ∀ (w : World) (o : Option Tr) (v : Value), Up W w → HasT w v o → szO o ≤ 65536 → Calls Tryd.prog 24 #[v] w (StP (swR o) w)
theorem one_has {w : World} {va : Value} {a : Tr} (k : Int) (s : ByteArray) (ha : HasT w va (some a)) :
    HasT ((w.alloc (.cells #[va] 25)).alloc (.cells #[.int .i64 k, .int .i64 0, .string s, .string ⟨#[]⟩, .slice (some ⟨w.heap.size, 0, none⟩) 1 1] 40)) (.pointer (some ⟨w.heap.size + 1, 0, none⟩)) (some (⟨k, 0, s, ⟨#[]⟩⟩, .cons a.1 a.2 .nil)) := by
  have e1 : (w.alloc (.cells #[va] 25)).heap.size = w.heap.size + 1 := by simp
  rw [← e1]
  obtain ⟨W1, hW1⟩ : ∃ W1, w.alloc (.cells #[va] 25) = W1 := ⟨_, rfl⟩
  have s1 : W1.heap[w.heap.size]? = some (.cells #[va] 25 (0, 0)) := by rw [← hW1]; exact heap_alloc_new w _
  have u1 : Up w W1 := by rw [← hW1]; exact (Up.refl w).alloc _
  rw [hW1]
  obtain ⟨W2, hW2⟩ : ∃ W2, W1.alloc (.cells #[.int .i64 k, .int .i64 0, .string s, .string ⟨#[]⟩, .slice (some ⟨w.heap.size, 0, none⟩) 1 1] 40) = W2 := ⟨_, rfl⟩
  have s2 : W2.heap[W1.heap.size]? = some (.cells #[.int .i64 k, .int .i64 0, .string s, .string ⟨#[]⟩, .slice (some ⟨w.heap.size, 0, none⟩) 1 1] 40 (0, 0)) := by rw [← hW2]; exact heap_alloc_new W1 _
  have u2 : Up W1 W2 := by rw [← hW2]; exact (Up.refl W1).alloc _
  have s3 : W2.heap[w.heap.size]? = some (.cells #[va] 25 (0, 0)) := u2.row s1
  rw [hW2]
  exact node_hasN (x := ⟨k, 0, s, ⟨#[]⟩⟩) (f := .cons a.1 a.2 .nil) s2 rfl (Nat.le_refl _) (heap_lt s2) (heap_lt s3) ⟨⟨_, cell_of_row W2 w.heap.size 0 _ _ _ s3, ha.up (u1.trans u2)⟩, trivial⟩
def onT (k : Int) (s : ByteArray) (a : Tr) : Tr := (⟨k, 0, s, ⟨#[]⟩⟩, .cons a.1 a.2 .nil)
def exAr : Tr := twT 114 (lfT 110) (lfT 111)
def exLm : Tr := twT 119 (lfT 100) exAr
def exRc : Tr := onT 115 ⟨#[]⟩ (onT 116 ⟨#[49]⟩ (lfT 110))
def smT (a : Tr) : Tr := onT 121 ⟨#[]⟩ (onT 122 ⟨#[67]⟩ a)
theorem ex12_k : knR [] (some exLm) = (some (karT starT starT), 0) := by kernel_rfl
theorem ex12_t : swR (some (karT starT starT)) = ⟨#[40, 32, 42, 32, 45, 62, 32, 42, 32, 41]⟩ := by kernel_rfl
theorem ex12_a : fiE (some (smT exRc)) = 0 := by kernel_rfl
theorem ex12_b : fiE (some (smT exAr)) = 15 := by kernel_rfl
set_option maxHeartbeats 3200000 in
set_option maxRecDepth 100000 in
theorem exSum (a : Tr) {w : World} {v : Value} (h : HasT w v (some a)) : Calls Tryd.prog 23 #[v] w fun e w' => ∃ v, e = .returned v ∧ HasT w' v (some (smT a)) ∧ Up w w' := by
  obtain ⟨q, p, rfl⟩ := InT.ptr (t := a) h
  have H := Lib.hid h
  clear h
  go_enter Tryd.func23, Tryd.ntmps23
  go_wp2_with fail
  go_ret
  have h1 := one_has 121 ⟨#[]⟩ (one_has 122 ⟨#[67]⟩ H.out)
  simp only [World.size_alloc] at h1
  exact ⟨_, rfl, h1, by repeat (first | exact Up.refl _ | refine Up.alloc ?_ _)⟩
set_option maxHeartbeats 3200000 in
set_option maxRecDepth 100000 in
theorem works12 {W : World} (ct : CtT W) (kd : KdAll) {w : World} (hu : Up W w) : Calls Tryd.prog 10 #[] w (BoP true W) := by
  have HU := Lib.hid hu
  have CT := Lib.hid ct
  have KD := Lib.hid kd
  clear hu ct kd
  go_enter Tryd.func10, Tryd.ntmps10
  go_wp2_with fail
  have h1 := leaf_has (w := w) 110
  have h2 := leaf_has (w := w.alloc (.cells #[.int .i64 110, .int .i64 0, .string ⟨#[]⟩, .string ⟨#[]⟩, .slice none 0 0] 40)) 111
  have h3 := two_has 114 (h1.next _) h2
  have h5 := two_has 119 (leaf_has 100) (h3.next _)
  simp only [World.size_alloc] at h5 h3
  have c1 := KD.out.kind _ [] (some exLm) (.slice none 0 0) _ (.inl ⟨rfl, rfl⟩) (by decide) (fun t ht => by cases ht) h5 (by decide) (ap_small (fun t ht => by cases ht) (by decide))
  rw [ex12_k] at c1
  refine c1.mono ?_
  rintro e w1 ⟨v1, rfl, t1, u1⟩
  have HW : Hid (HasT w1 (.pointer (some ⟨w.heap.size, 0, none⟩)) (some (lfT 110))) := Lib.hid (h1.up (Up.trans (by repeat (first | exact Up.refl _ | refine Up.alloc ?_ _)) u1))
  have HA : Hid (HasT w1 (.pointer (some ⟨w.heap.size + 1 + 1 + 1, 0, none⟩)) (some exAr)) := Lib.hid (HasT.up h3 (Up.trans (by repeat (first | exact Up.refl _ | refine Up.alloc ?_ _)) u1))
  have U1 := Lib.hid (HU.out.trans (Up.trans (by repeat (first | exact Up.refl _ | refine Up.alloc ?_ _)) u1))
  have T1 : Hid (HasT w1 v1 (some (karT starT starT))) := Lib.hid t1
  clear u1 c1 h1 h2 h3 h5 t1
  go_wp2_with fail
  have r1 := one_has 115 ⟨#[]⟩ (one_has 116 ⟨#[49]⟩ HW.out)
  simp only [World.size_alloc] at r1
  refine (CT.out.text _ (some (karT starT starT)) v1 (Up.trans U1.out (by repeat (first | exact Up.refl _ | refine Up.alloc ?_ _))) (HasT.up T1.out (by repeat (first | exact Up.refl _ | refine Up.alloc ?_ _))) (by decide)).mono ?_
  rintro e w2 ⟨rfl, u2⟩
  rw [ex12_t]
  have R2 : Hid (HasT w2 _ (some exRc)) := Lib.hid (HasT.up r1 u2)
  have A2 := Lib.hid (HA.out.up (Up.trans (by repeat (first | exact Up.refl _ | refine Up.alloc ?_ _)) u2))
  have U2 := Lib.hid (U1.out.trans (Up.trans (by repeat (first | exact Up.refl _ | refine Up.alloc ?_ _)) u2))
  clear u2 r1
  go_wp2_with fail
  refine (exSum exRc R2.out).mono ?_
  rintro e w3 ⟨v3, rfl, t3, u3⟩
  have c3 := KD.out.fits w3 _ v3 t3 (by decide)
  rw [ex12_a] at c3
  have A3 := Lib.hid (A2.out.up u3)
  have U3 := Lib.hid (U2.out.trans u3)
  clear u3 t3
  go_wp2_with fail
  refine c3.mono ?_
  rintro e w4 ⟨rfl, u4⟩
  have A4 := Lib.hid (A3.out.up u4)
  have U4 := Lib.hid (U3.out.trans u4)
  clear u4 c3
  go_wp2_with fail
  refine (exSum exAr A4.out).mono ?_
  rintro e w5 ⟨v5, rfl, t5, u5⟩
  have c5 := KD.out.fits w5 _ v5 t5 (by decide)
  rw [ex12_b] at c5
  have U5 := Lib.hid (U4.out.trans u5)
  clear u5 t5
  go_wp2_with fail
  refine c5.mono ?_
  rintro e w6 ⟨rfl, u6⟩
  go_wp2_with fail
  go_ret
  exact bopU rfl (U5.out.trans u6)
end Go.Proofs.YtmiicfdigkkbdaaDoor
