/-
  Layer 12: plain facts for the outright laws.
-/
import Derived.Test.YtmiicfdigkkbdaaDoorGt22
namespace Go.Proofs.YtmiicfdigkkbdaaDoor
open Go.RowKit

theorem ofF_len (s : Bool) (c : List Tr) (f : Fr) : (ofF s c f).length = f.len := by
  induction f with
  | nil => rfl
  | cons x k r _ ih => rw [ofF_c, List.length_cons, ih]; rfl
theorem mus_ok {a : Kx} (h : musE a = 0) : ∃ k, a = .ok k := by
  cases a with
  | error e => exact absurd h (Nat.succ_ne_zero e)
  | ok k => exact ⟨k, rfl⟩
theorem musL_ok {l : List Kx} (h : musL l = 0) : ∀ i, i < l.length → ∃ k, nth l i = .ok k := by
  rw [musL_iff] at h
  intro i hi
  have h1 : nth l i = l[i] := by
    unfold nth
    rw [List.getElem?_eq_getElem hi]
  rw [h1]
  exact mus_ok (h _ (List.getElem_mem hi))
theorem okS_ok {e : Nat} {k : Tr} (h : okS e = .ok k) : e = 0 := by
  cases e with
  | zero => rfl
  | succ e => cases h
theorem kd_fv {f : Fr} : ∀ {d : Nat}, kdF f = true → Fr.fv d f = 0 := by
  induction f with
  | nil => intro d _; rfl
  | cons x k r ihk ihr =>
    intro d h
    rw [kdF_cons, Bool.and_eq_true] at h
    have hk := kdT_k h.1
    show max (max (fvN d x) (Fr.fv (d + innK x.k) k)) (Fr.fv d r) = 0
    rw [ihk (kd_kids h.1), ihr h.2]
    unfold fvN
    rw [if_neg (by omega)]
    rfl
theorem of_free0 {s : Bool} (f : Fr) : ∀ (m : Nat) (c : List Tr) (d : Nat), coF m f = true → d ≤ c.length → (∀ i, i < f.len → ∃ k, nth (ofF s c f) i = .ok k) → Fr.fv d f ≤ (c.length : Int) - d := by
  induction f with
  | nil => intro m c d _ hd _; show (0 : Int) ≤ _; omega
  | cons x k r ihk ihr =>
    intro m c d hc hd hall
    obtain ⟨hrow, m', hr⟩ := co_row hc
    have h0 : ∃ q, ofX s c x k (fun c' => ofF s c' k) = .ok q := hall 0 (Nat.succ_pos _)
    have h1 := ihr m' c d hr hd fun i hi => hall (i + 1) (Nat.succ_lt_succ hi)
    show max (max (fvN d x) (Fr.fv (d + innK x.k) k)) (Fr.fv d r) ≤ _
    rcases hrow with ⟨hkd, hkk⟩ | ⟨⟨m2, hm2⟩, hnk, hn, hb⟩
    · have e1 := kd_fv (d := d + innK x.k) hkk
      have e2 : fvN d x = 0 := by unfold fvN; rw [if_neg (by omega)]
      omega
    · obtain ⟨q, hq⟩ := h0
      unfold ofX at hq
      have e0 : ¬ x.k = 110 → fvN d x = 0 := fun h => by unfold fvN; rw [if_neg (fun g => h g.1)]
      have g0 : innK x.k = 0 → (∀ i, i < k.len → ∃ k', nth (ofF s c k) i = .ok k') → Fr.fv (d + innK x.k) k ≤ (c.length : Int) - d := fun h hh => by rw [h]; exact ihk m2 c d hm2 hd hh
      have g1 : ∀ z, innK x.k = 1 → (∀ i, i < k.len → ∃ k', nth (ofF s (z :: c) k) i = .ok k') → Fr.fv (d + innK x.k) k ≤ (c.length : Int) - d := fun z h hh => by
        rw [h]
        have := ihk m2 (z :: c) (d + 1) hm2 (by rw [List.length_cons]; omega) hh
        rw [List.length_cons] at this
        omega
      have two : 117 ≤ x.k → x.k ≤ 119 → ∀ z q', nth (ofF s (z :: c) k) 1 = .ok q' → ∀ i, i < k.len → ∃ k', nth (ofF s (z :: c) k) i = .ok k' := by
        intro a1 a2 z q' hq' i hi
        obtain ⟨b1, b2⟩ := hb a1 a2
        obtain ⟨y, yk, b, bk, rfl⟩ := Fr.two b1
        rw [coF_1, Bool.and_eq_true] at b2
        have hi : i < 2 := hi
        match i, hi with
        | 0, _ => exact ⟨starT, kd_of (s := s) (c := z :: c) (x := y) (k := yk) (R := fun c' => ofF s c' yk) (kdT_k b2.1)⟩
        | 1, _ => exact ⟨q', hq'⟩
      by_cases c1 : x.k = 110
      · rw [if_pos c1] at hq
        have hlt := (List.getElem?_eq_some_iff.1 (va_ok hq)).1
        have hk0 : k = .nil := by
          have := co_vok (f := .cons x k r) hc
          exact (this.1.2 c1).2.2.2
        subst hk0
        have e2 : Fr.fv (d + innK x.k) .nil = 0 := rfl
        have hn := hn c1
        unfold fvN
        split <;> omega
      rw [if_neg c1] at hq
      have e0 := e0 c1
      by_cases c2 : x.k = 114 ∨ x.k = 115
      · rw [if_pos c2] at hq
        have := g0 (by unfold innK; rw [if_neg (by omega)]) fun i hi => musL_ok (okS_ok hq) i (by rw [ofF_len]; exact hi)
        omega
      rw [if_neg c2] at hq
      by_cases c3 : x.k = 117 ∨ x.k = 118
      · rw [if_pos c3] at hq
        obtain ⟨q', hq'⟩ := mus_ok (okS_ok hq)
        have := g1 _ (by unfold innK; rw [if_pos (by omega)]) (two (by omega) (by omega) _ q' hq')
        omega
      rw [if_neg c3] at hq
      by_cases c4 : x.k = 119
      · rw [if_pos c4] at hq
        cases hh : nth (ofF s (hdT k :: c) k) 1 with
        | error e => rw [hh] at hq; cases hq
        | ok q' =>
          have := g1 _ (by unfold innK; rw [if_pos (by omega)]) (two (by omega) (by omega) _ q' hh)
          omega
      rw [if_neg c4] at hq
      by_cases c5 : x.k = 120
      · rw [if_pos c5] at hq
        have hl : k.len = 2 := by
          by_cases hm0 : m = 0
          · subst hm0
            rw [coF_0, Bool.and_eq_true] at hc
            have h2 := hc.1
            unfold coT at h2
            simp only at h2
            rw [if_neg (by omega), Bool.and_eq_true, if_neg (by omega), if_pos (by omega), Bool.and_eq_true] at h2
            exact beq_iff_eq.1 h2.2.1
          · by_cases hm1 : m = 1
            · subst hm1; rw [coF_1, Bool.and_eq_true] at hc; have := kdT_k hc.1; omega
            · rw [coF_f hm0 hm1, Bool.and_eq_true] at hc; have := fdT_k hc.1; omega
        cases ha : nth (ofF s c k) 0 with
        | error e => rw [ha] at hq; cases hq
        | ok a =>
          cases hb' : nth (ofF s c k) 1 with
          | error e => rw [ha, hb'] at hq; cases hq
          | ok b =>
            have := g0 (by unfold innK; rw [if_neg (by omega)]) fun i hi => by
              rw [hl] at hi
              match i, hi with
              | 0, _ => exact ⟨a, ha⟩
              | 1, _ => exact ⟨b, hb'⟩
            omega
      rw [if_neg c5] at hq
      by_cases c6 : x.k = 121
      · rw [if_pos c6] at hq
        have hm : musL (ofF s (starT :: c) k) = 0 := by
          apply Classical.byContradiction
          intro h
          rw [if_neg h] at hq
          exact h (okS_ok hq)
        have := g1 _ (by unfold innK; rw [if_pos (by omega)]) fun i hi => musL_ok hm i (by rw [ofF_len]; exact hi)
        omega
      rw [if_neg c6] at hq
      by_cases c7 : x.k = 116 ∨ x.k = 122
      · rw [if_pos c7] at hq
        have hl : k.len = 1 := by
          by_cases hm0 : m = 0
          · subst hm0
            rw [coF_0, Bool.and_eq_true] at hc
            have := coT_kinds hc.1
            omega
          · by_cases hm1 : m = 1
            · subst hm1; rw [coF_1, Bool.and_eq_true] at hc; have := kdT_k hc.1; omega
            · rw [coF_f hm0 hm1, Bool.and_eq_true] at hc
              have h2 := hc.1
              unfold fdT at h2
              simp only [Bool.and_eq_true, beq_iff_eq] at h2
              exact h2.2.2.2.1
        have := g0 (by unfold innK; rw [if_neg (by omega)]) fun i hi => by
          rw [hl] at hi
          match i, hi with
          | 0, _ => exact ⟨q, hq⟩
        omega
      have hk0 : k = .nil := by
        by_cases hm0 : m = 0
        · subst hm0
          rw [coF_0, Bool.and_eq_true] at hc
          have h2 := hc.1
          have h3 := coT_kinds h2
          unfold coT at h2
          simp only at h2
          rw [if_neg (by omega), Bool.and_eq_true, if_pos (by omega)] at h2
          exact Fr.len0 (beq_iff_eq.1 h2.2)
        · by_cases hm1 : m = 1
          · subst hm1; rw [coF_1, Bool.and_eq_true] at hc; have := kdT_k hc.1; omega
          · rw [coF_f hm0 hm1, Bool.and_eq_true] at hc; have := fdT_k hc.1; omega
      subst hk0
      have e2 : Fr.fv (d + innK x.k) .nil = 0 := rfl
      omega
theorem of_free {s : Bool} {c : List Tr} {t k : Tr} (hc : coT t = true) (h : ofT s c t = .ok k) : fvT 0 t ≤ c.length := by
  have h1 := of_free0 (s := s) (.cons t.1 t.2 .nil) 0 c 0 (by rw [coT_F]; exact hc) (Nat.zero_le _) (fun i hi => by
    have hi : i < 1 := hi
    match i, hi with
    | 0, _ => exact ⟨k, h⟩)
  rw [Fr.fv_c] at h1
  have e : max (fvT 0 (t.1, t.2)) (Fr.fv 0 .nil) ≤ (c.length : Int) - ((0 : Nat) : Int) := h1
  have e2 : fvT 0 (t.1, t.2) = fvT 0 t := rfl
  omega

/-! ### Kind's answers -/
theorem kn_some {C : List (Option Tr)} {o : Option Tr} {k : Tr} {z : Int} (h : knR C o = (some k, z)) : z = 0 ∧ ∃ t c', o = some t ∧ C = c'.map some ∧ GoodC c' 65536 ∧ coT t = true ∧ szT t ≤ 65536 ∧ ofT true c' t = .ok k := by
  unfold knR at h
  by_cases h1 : cxN C = true
  · rw [if_pos h1] at h; cases h
  rw [if_neg h1] at h
  by_cases h2 : ckE o = 0
  · rw [if_pos h2] at h
    by_cases h3 : cxB C = true
    · rw [if_pos h3] at h; cases h
    rw [if_neg h3] at h
    obtain ⟨t, rfl, hz, hc⟩ := ckE_ok h2
    obtain ⟨c', e1, e2, e3⟩ := cx_all (by simpa using h1) (by simpa using h3)
    simp only at h
    rw [e2] at h
    cases hq : ofT true c' t with
    | error e => rw [hq] at h; cases h
    | ok q =>
      rw [hq] at h
      injection h with h4 h5
      injection h4 with h4
      subst h4
      exact ⟨h5.symm, t, c', rfl, e1, e3, hc, hz, hq⟩
  · rw [if_neg h2] at h; cases h
theorem kk_of {t : Tr} (h : kdT t = true) (hz : szT t ≤ 65536) : kkE (some t) = 0 := by unfold kkE; simp only; rw [if_pos hz, if_pos h]
theorem kn_mk {c : List Tr} {t : Tr} (hg : GoodC c 65536) (hc : coT t = true) (hz : szT t ≤ 65536) : knR (c.map some) (some t) = match ofT true c t with
    | .ok k => (some k, 0)
    | .error e => (none, ((e + 1 : Nat) : Int)) := by
  have h1 : cxN (c.map some) = false := by
    unfold cxN
    rw [List.any_eq_false]
    intro x hx
    obtain ⟨y, _, rfl⟩ := List.mem_map.1 hx
    exact Bool.false_ne_true
  have h2 : cxB (c.map some) = false := by
    unfold cxB
    rw [List.any_eq_false]
    intro x hx
    obtain ⟨y, hy, rfl⟩ := List.mem_map.1 hx
    have := hg y hy
    rw [kk_of this.1 this.2]
    exact Bool.false_ne_true
  have h3 : (c.map some).filterMap id = c := by
    rw [List.filterMap_map]
    exact List.filterMap_some
  unfold knR
  rw [if_neg (by rw [h1]; decide), if_pos (ckE_of hz hc), if_neg (by rw [h2]; decide)]
  simp only
  rw [h3]
  cases ofT true c t <;> rfl
theorem kn_more {C : List (Option Tr)} {o p : Option Tr} {k : Tr} (h : knR C o = (some k, 0)) (hp : kkE p = 0) : knR (C ++ [p]) o = (some k, 0) := by
  obtain ⟨_, t, c', rfl, rfl, hg, hc, hz, hk⟩ := kn_some h
  obtain ⟨m, rfl⟩ : ∃ m, p = some m := by
    cases p with
    | none => cases hp
    | some m => exact ⟨m, rfl⟩
  rw [show c'.map some ++ [some m] = (c' ++ [m]).map some by rw [List.map_append]; rfl, kn_mk (fun q hq => by
    rcases List.mem_append.1 hq with hq | hq
    · exact hg q hq
    · rw [List.mem_singleton.1 hq]; exact kk_ok hp) hc hz, ofT_more hk]
theorem kn_free {C : List (Option Tr)} {o : Option Tr} {k : Tr} (h : knR C o = (some k, 0)) : frR o ≤ C.length := by
  obtain ⟨_, t, c', rfl, rfl, hg, hc, hz, hk⟩ := kn_some h
  have h1 : frR (some t) = fvT 0 t := if_pos (ckE_of hz hc)
  rw [h1, List.length_map]
  exact of_free hc hk
theorem kn_small {C : List (Option Tr)} {o : Option Tr} {n M : Nat} (hC : ∀ t ∈ C, szO t ≤ M) (ho : szO o ≤ n) : szO (knR C o).1 ≤ 2 * n + M := by
  rcases kn_form C o with ⟨k, hk⟩ | ⟨e, _, hk⟩
  · rw [hk]
    obtain ⟨_, t, c', rfl, rfl, hg, hc, hz, hq⟩ := kn_some hk
    have h1 := (of_good (s := true) (szT t) t (Nat.le_refl _) hc c' M (fun q hq => ⟨(hg q hq).1, hC (some q) (List.mem_map.2 ⟨q, hq, rfl⟩)⟩) k hq).2
    have h2 : szT t ≤ n := ho
    show szT k ≤ _
    omega
  · rw [hk]; exact Nat.zero_le _
theorem kn_norm {C : List (Option Tr)} {o : Option Tr} {k m : Tr} (h : knR C o = (some k, 0)) (hm : nmR o = (some m, 0)) : knR C (some m) = (some k, 0) ∨ knR C (some m) = (none, 15) := by
  obtain ⟨_, t, c', rfl, rfl, hg, hc, hz, hk⟩ := kn_some h
  have hms : stR (some m) = (none, false, 0) := by
    rcases nmR_form (some t) with ⟨x, hx, hxs⟩ | ⟨e, he, hx⟩
    · rw [hx] at hm; injection hm with hm _; injection hm with hm; rw [← hm]; exact hxs
    · rw [hx] at hm; cases hm
  have h1 := nm_kind (c := c') 1000 t m hm k (ofT_lax hk)
  rw [kn_mk hg (ck_co (st_ck hms)) (nf_sz hms)]
  rcases ofT_fit h1 with h2 | h2
  · rw [h2]; exact .inl rfl
  · rw [h2]; exact .inr rfl
def apT (K a b : Tr) : Tr := (⟨120, 0, ⟨#[]⟩, ⟨#[]⟩⟩, .cons ⟨119, 0, ⟨#[]⟩, ⟨#[]⟩⟩ (.cons K.1 K.2 (.cons a.1 a.2 .nil)) (.cons b.1 b.2 .nil))
theorem apT_co {K a b : Tr} (hK : kdT K = true) (ha : coT a = true) (hb : coT b = true) : coT (apT K a b) = true := by
  have h1 : coT (⟨119, 0, ⟨#[]⟩, ⟨#[]⟩⟩, .cons K.1 K.2 (.cons a.1 a.2 .nil)) = true := by
    unfold coT
    simp only
    rw [if_neg (by decide), pln_lit, if_neg (by decide), if_neg (by decide), if_neg (by decide), if_pos (by decide), coF_1, coF_0, show ((a.1, a.2) : Tr) = a from rfl, ha, show ((K.1, K.2) : Tr) = K from rfl, hK]
    rfl
  unfold coT apT
  simp only
  rw [if_neg (by decide), pln_lit, if_neg (by decide), if_pos (by simp), coF_0, coF_0, h1, show ((b.1, b.2) : Tr) = b from rfl, hb]
  rfl
theorem apT_of {s : Bool} {c : List Tr} {K t u a : Tr} (ht : ofT s (K :: c) t = .ok a) (hu : ofT s c u = .ok K) : ofT s c (apT K t u) = .ok a := by
  show apX (laX K (ofT s (K :: c) t)) (ofT s c u) = _
  rw [ht, hu]
  show (if eqTB (K.1, K.2) K = true then (Except.ok (a.1, a.2) : Kx) else .error 9) = _
  rw [if_pos (eqTB_iff.2 rfl)]
theorem kn_sub {K t u a : Tr} {p : Option Tr} (h : knR [some K] (some t) = (some a, 0)) (h' : knR [] p = (some K, 0)) (hp : p = some u) (hs : szT K + szT t + szT u ≤ 60000) :
    knR [] (some (apT K t u)) = (some a, 0) ∧ ∀ m, sbR 0 (some t) (some u) = (some m, 0) → knR [] (some m) = (some a, 0) ∨ knR [] (some m) = (none, 15) := by
  subst hp
  obtain ⟨_, t', c', e1, e2, hg, hc, hz, hk⟩ := kn_some h
  injection e1 with e1
  subst e1
  obtain ⟨_, u', c'', e3, e4, hg', hc', hz', hk'⟩ := kn_some h'
  injection e3 with e3
  subst e3
  have e5 : c'' = [] := by
    cases c'' with
    | nil => rfl
    | cons x y => cases e4
  subst e5
  have e6 : c' = [K] := by
    cases c' with
    | nil => cases e2
    | cons x y =>
      cases y with
      | nil => injection e2 with e2 _; injection e2 with e2; rw [e2]
      | cons z w => cases e2
  subst e6
  have hK := (hg K (List.mem_singleton.2 rfl)).1
  have hnil : GoodC [] 65536 := fun q hq => by cases hq
  constructor
  · have := kn_mk (c := []) (t := apT K t u) hnil (apT_co hK hc hc') (by unfold szT at hs ⊢; unfold apT; simp only [Fr.sz]; omega)
    rw [apT_of hk hk'] at this
    exact this
  · intro m hm
    obtain ⟨g1, g2, _⟩ := sb_pt hm
    have hl := ptT_of (c := []) hc' (ofT_lax hk') hc g1 (ofT_lax hk)
    have := kn_mk (c := []) (t := m) hnil (ptT_co (by decide) hc' g1 hc) g2
    rcases ofT_fit hl with h2 | h2
    · rw [h2] at this; exact .inl this
    · rw [h2] at this; exact .inr this
end Go.Proofs.YtmiicfdigkkbdaaDoor
namespace Go.Proofs.YtmiicfdigkkbdaaDoor
open Go.RowKit

set_option maxHeartbeats 12800000 in
set_option maxRecDepth 100000 in
theorem lawFits12 (w : World) (ct : CtT w) (kd : KdAll) (cs0 : List Cel) (cv0 : Value) (hcl0 : Cls w w.heap.size cv0 cs0) (hfit0 : ∀ c ∈ cs0, fitD c) :
    Calls Tryd.prog 3 #[.agg #[cv0]] w (BoP true w) := by
  obtain ⟨H, hH⟩ : ∃ H, w.heap.size = H := ⟨_, rfl⟩
  obtain ⟨CA0, cc0, hcv0, -, -⟩ := id hcl0
  obtain ⟨A0, hA0⟩ : ∃ W0, w.alloc (.cells #[cv0] 24) = W0 := ⟨_, rfl⟩
  have a0 : Up w A0 := by rw [← hA0]; exact (Up.refl _).alloc _
  have hx0 : A0.heap[H]? = some (.cells #[cv0] 24 (0, 0)) := by rw [← hA0, ← hH]; exact heap_alloc_new w _
  have hs0 : A0.heap.size = H + 1 := by rw [← hA0, ← hH]; simp
  have u0 : Up w A0 := a0
  have k0 : A0.cell? ⟨H, 0, none⟩ = some cv0 := (cell_of_row _ (H) 0 _ _ _ hx0)
  have HSZ0 := Lib.hid (kept_sz cs0)
  have HCL0 := Lib.hid (hcl0.upp u0)
  have HF0 := Lib.hid hfit0
  have HA0 := Lib.hid hA0
  have U0 := Lib.hid u0
  have CT := Lib.hid ct
  have KD := Lib.hid kd
  clear u0 hcl0 hA0 hfit0 hx0 a0 hs0 ct kd
  subst hcv0
  go_enter Tryd.func3, Tryd.ntmps3
  go_wp2_with fail
  rw [HA0.out]
  have C0 := Lib.hid (fun W (u : Up A0 W) => uFew10 cs0 HCL0.out HF0.out u)
  obtain ⟨V0, hV0⟩ : ∃ V, Value.slice CA0 cs0.length cc0 = V := ⟨_, rfl⟩
  rw [hV0] at C0 k0 ⊢
  clear HCL0 HF0 hV0
  refine (C0.out _ (Up.refl _)).mono ?_
  rintro e1 w1 ⟨v1, rfl, h1, u1⟩
  have uu1 : Up A0 w1 := u1
  have g1 := h1
  obtain ⟨o, ho⟩ : ∃ o, kept cs0 = o := ⟨_, rfl⟩
  have hz0 := HSZ0.out
  rw [ho] at g1 hz0
  have G1 := Lib.hid g1
  have HZ0 := Lib.hid hz0
  clear ho hz0
  have U1 := Lib.hid (U0.out.trans uu1)
  clear h1 u1 uu1 g1
  clear k0 HSZ0 HA0 C0 U0
  have HP := Lib.hid (fun W (u : Up w1 W) => KD.out.fits W o v1 (G1.out.up u) (by have := HZ0.out; omega))
  have HR := Lib.hid (fun W (u : Up w1 W) => refFits o (G1.out.up u) (by have := HZ0.out; omega))
  obtain ⟨R, hR⟩ : ∃ R, fiE o = R := ⟨_, rfl⟩
  rw [hR] at HP HR
  clear hR
  go_wp2_with fail
  refine (HP.out w1 (Up.refl _)).mono ?_
  rintro e w3 ⟨rfl, u3⟩
  have U3 := Lib.hid u3
  clear u3
  go_wp2_with fail
  refine (HR.out w3 U3.out).mono ?_
  rintro e w4 ⟨rfl, u4⟩
  have U4 := Lib.hid (U1.out.trans (U3.out.trans u4))
  clear u4
  go_wp2_with fail
  refine (works12 CT.out KD.out U4.out).mono ?_
  rintro e w99 ⟨rfl, u99⟩
  go_wp2_with fail
  go_ret
  exact bopU rfl u99
end Go.Proofs.YtmiicfdigkkbdaaDoor
