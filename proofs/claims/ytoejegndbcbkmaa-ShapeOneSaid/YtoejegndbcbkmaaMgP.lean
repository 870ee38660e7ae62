/-
  What few cells are opened to: a tree of few nodes, whose texts are short.
-/
import Derived.Test.YtoejegndbcbkmaaFw
import Derived.Test.YtoejegndbcbkmaaMgJ
import Derived.Test.YtoejegndbcbkmaaArUM
import Derived.Test.YtoejegndbcbkmaaAop
namespace Go.Proofs.Ytoejegndbcbkmaa
open Go.RowKit

theorem fewL_sz (cs : List Cel) : ∀ c ∈ fewL cs, c.x.a.size ≤ 130 ∧ c.x.m.size ≤ 130 := by
  intro c hc
  obtain ⟨d, _, rfl⟩ := List.mem_map.1 hc
  exact ⟨trT_le _, trT_le _⟩
theorem okS_row : ∀ {l : List Tr}, (∀ t ∈ l, okST t) → okS (rowOf l)
  | [], _ => trivial
  | t :: _, h => ⟨(h t (List.mem_cons_self ..)).1, (h t (List.mem_cons_self ..)).2.1, (h t (List.mem_cons_self ..)).2.2, okS_row fun u hu => h u (List.mem_cons_of_mem _ hu)⟩
theorem cel_sz {L : List Cel} (h : ∀ c ∈ L, c.x.a.size ≤ 130 ∧ c.x.m.size ≤ 130) (i : Nat) : (cel L i).x.a.size ≤ 1000000000 ∧ (cel L i).x.m.size ≤ 1000000000 := by
  by_cases hi : i < L.length
  · have := h _ (List.mem_of_getElem? (cel_lt hi))
    omega
  · have : cel L i = ⟨nod0, []⟩ := by unfold cel; rw [List.getD_eq_getElem?_getD, List.getElem?_eq_none (by omega)]; rfl
    rw [this]
    exact ⟨by decide, by decide⟩
theorem gr_okS {L : List Cel} (h : ∀ c ∈ L, c.x.a.size ≤ 130 ∧ c.x.m.size ≤ 130) : ∀ f i, okST (gr L f i)
  | 0, i => ⟨(cel_sz h i).1, (cel_sz h i).2, trivial⟩
  | f + 1, i => ⟨(cel_sz h i).1, (cel_sz h i).2, okS_row fun t ht => by
    obtain ⟨x, _, rfl⟩ := List.mem_map.1 ht
    exact gr_okS h f x.toNat⟩
/-- What few cells are opened to. -/
theorem op_few (cs : List Cel) : ∃ (o : Option Tr) (z : Int), opR (fewL cs) = (o, z) ∧ szO o ≤ 80 ∧ okSO o ∧ ((∃ t, o = some t ∧ z = 0) ∨ (o = none ∧ z ≠ 0)) := by
  have hl := fewL_len cs
  by_cases h0 : (fewL cs).length = 0
  · exact ⟨none, 1, op_nil h0, Nat.zero_le _, fun t h => (by cases h), .inr ⟨rfl, by decide⟩⟩
  · by_cases h : okK (fewL cs) ∧ okC (fewL cs)
    · have hs := open_size h.1 h.2 (by omega)
      refine ⟨_, _, op_good h0 (by omega) h, ?_, fun t ht => ?_, .inl ⟨_, rfl, rfl⟩⟩
      · show szT _ ≤ 80
        omega
      · injection ht with ht
        subst ht
        exact gr_okS (fewL_sz cs) _ _
    · exact ⟨none, 16, op_bad h0 (by omega) h, Nat.zero_le _, fun t h => (by cases h), .inr ⟨rfl, by decide⟩⟩
theorem few_kids (cs : List Cel) : ∀ (j : Nat) (c : Cel), (fewL cs)[j]? = some c → c.ks.length ≤ 1000000 := fun j c h => by have := fewL_ks cs c (List.mem_of_getElem? h); omega
theorem few_le (cs : List Cel) : (fewL cs).length ≤ 1000000 := by have := fewL_len cs; omega
theorem fit_few {cs : List Cel} (h : ∀ c ∈ cs, fitC c) : ∀ c ∈ cs, c.x.a.size ≤ 9223372036854775807 ∧ c.x.m.size ≤ 9223372036854775807 ∧ c.ks.length ≤ 9223372036854775807 := by
  intro c hc
  obtain ⟨h1, h2, h3⟩ := h c hc
  unfold maxLen at h1 h2 h3
  exact ⟨by omega, by omega, by omega⟩
theorem uFew (cs : List Cel) {W w : World} {v : Value} (h : Cls W W.heap.size v cs) (hf : ∀ c ∈ cs, fitC c) (u : Up W w) :
    Calls Try.prog 9 #[.agg #[v]] w fun e w' => ∃ v, e = .returned (.agg #[v]) ∧ Cls w' w'.heap.size v (fewL cs) ∧ Up W w' :=
  (few_any cs w v (h.upp u) (fit_few hf)).mono fun _ _ k => by
    obtain ⟨v, he, hc, hb⟩ := k
    exact ⟨v, he, hc, u.of hb⟩
end Go.Proofs.Ytoejegndbcbkmaa
/-
  The laws ShapeTells and ShapeOne.
-/
namespace Go.Proofs.Ytoejegndbcbkmaa
open Go.RowKit

theorem chk_zero {nk lg : ByteArray → Bool} {t : Tr} {c : Int} (h : chk nk lg (some t) c = 0) : ¬ 8192 < szT t ∧ ¬ 60 < dpT t ∧ isT nk lg t c = true := by
  unfold chk at h
  simp only at h
  split at h
  · cases h
  · rename_i h1
    split at h
    · cases h
    · rename_i h2
      split at h
      · rename_i h3
        exact ⟨h1, h2, h3⟩
      · cases h
theorem chk_one {nk lg : ByteArray → Bool} {o : Option Tr} {c c' : Int} (h : chk nk lg o c = 0) (h' : chk nk lg o c' = 0) : c = c' := by
  cases o with
  | none => cases h
  | some t => exact is_one (chk_zero h).2.2 (chk_zero h').2.2
set_option maxHeartbeats 6400000 in
set_option maxRecDepth 100000 in
theorem lawTells (S : ShpAll) (cs : List Cel) (w : World) (cv : Value) (hx : B.Nx w) (hcl : Cls w w.heap.size cv cs) (hfit : ∀ c ∈ cs, fitC c) :
    Calls Try.prog 3 #[.agg #[cv]] w (BoP true w) := by
  obtain ⟨H, hH⟩ : ∃ H, w.heap.size = H := ⟨_, rfl⟩
  obtain ⟨CA, cc, hcv, -, -⟩ := id hcl
  have u0 : Up w (w.alloc (.cells #[cv] 24)) := (Up.refl w).alloc _
  obtain ⟨W0, hW0⟩ : ∃ W0, w.alloc (.cells #[cv] 24) = W0 := ⟨_, rfl⟩
  have hx0 : W0.heap[H]? = some (.cells #[cv] 24 (0, 0)) := by rw [← hW0, ← hH]; exact heap_alloc_new w _
  rw [hW0] at u0
  have hcl0 := hcl.upp u0
  have kc : W0.cell? ⟨H, 0, none⟩ = some cv := cell_of_row _ H 0 _ _ _ hx0
  obtain ⟨o, z, ho, hs, hk, -⟩ := op_few cs
  have HW0 := Lib.hid hW0
  have U0 := Lib.hid u0
  have HCL := Lib.hid hcl0
  have HF := Lib.hid hfit
  have HO := Lib.hid ho
  have HS := Lib.hid hs
  have HK := Lib.hid hk
  have HX := Lib.hid hx
  have HSH := Lib.hid S
  clear hcl u0 hW0 hcl0 hfit ho hs hk hx0 hx S
  subst hcv
  go_enter Try.func3, Try.ntmps3
  go_wp2_with fail
  rw [HW0.out]
  refine (uFew cs HCL.out HF.out (Up.refl _)).mono ?_
  rintro e w1 ⟨v1, rfl, h1, u1⟩
  have H1 := Lib.hid h1
  have U1 := Lib.hid (U0.out.trans u1)
  clear h1 u1 kc
  go_wp2_with fail
  refine (rOpen (fewL cs) H1.out (few_kids cs) (few_le cs) (Up.refl _)).mono ?_
  rw [HO.out]
  rintro e w2 ⟨n, rfl, h2, u2⟩
  have HN := Lib.hid h2
  have U2 := Lib.hid (U1.out.trans u2)
  clear h2 u2
  go_wp2_with fail
  refine (all_any HSH.out o (by have := HS.out; omega) HK.out w2 w2 n (Nx.up HX.out U2.out) HN.out (Up.refl _)).mono ?_
  rintro e w3 ⟨g, rfl, hcells, u3⟩
  have cC := fun c w' (h : Up w3 w') => check_any o c (by have := HS.out; omega) HK.out w3 w' n (HN.out.up u3) h
  have HC := Lib.hid hcells
  have CC := Lib.hid cC
  have U3 := Lib.hid u3
  clear hcells cC u3
  go_wp2_with fail
  go_loopw [5, 6, 16] (fun _ _ i wr => ∃ I : Nat, i = .int .i64 I ∧ I ≤ 7 ∧ Up w3 wr) (fun _ _ i _ => 7 - (intOf i).toNat)
  case atStart => exact ⟨0, rfl, by omega, Up.refl _⟩
  case round =>
    obtain ⟨I, rfl, hI, hur⟩ := hrel
    have HUR := Lib.hid hur
    clear hur
    by_cases hlt : I < 7
    · have hiz : (I : Int) < 7 := by omega
      have hcell := HUR.out.cell (HC.out I hlt)
      go_wp2_with fail
      refine (CC.out _ _ HUR.out).mono ?_
      rintro e w4 ⟨rfl, u4⟩
      go_wp2_with fail
      go_roundw
      case rel => exact ⟨I + 1, by go_num, by omega, u4⟩
      case measure => simp [intOf]; omega
    · have hiz : ¬ (I : Int) < 7 := by omega
      go_wp2_with fail
      refine (works5 HSH.out w _ HX.out (U2.out.trans (U3.out.trans HUR.out))).mono ?_
      rintro e w5 ⟨rfl, u5⟩
      go_wp2_with fail
      go_ret
      exact bop_ret rfl u5
set_option maxHeartbeats 6400000 in
set_option maxRecDepth 100000 in
theorem lawOne (S : ShpAll) (cs : List Cel) (w : World) (cv : Value) (hx : B.Nx w) (hcl : Cls w w.heap.size cv cs) (hfit : ∀ c ∈ cs, fitC c) :
    Calls Try.prog 5 #[.agg #[cv]] w (BoP true w) := by
  obtain ⟨H, hH⟩ : ∃ H, w.heap.size = H := ⟨_, rfl⟩
  obtain ⟨CA, cc, hcv, -, -⟩ := id hcl
  have u0 : Up w (w.alloc (.cells #[cv] 24)) := (Up.refl w).alloc _
  obtain ⟨W0, hW0⟩ : ∃ W0, w.alloc (.cells #[cv] 24) = W0 := ⟨_, rfl⟩
  have hx0 : W0.heap[H]? = some (.cells #[cv] 24 (0, 0)) := by rw [← hW0, ← hH]; exact heap_alloc_new w _
  rw [hW0] at u0
  have hcl0 := hcl.upp u0
  have kc : W0.cell? ⟨H, 0, none⟩ = some cv := cell_of_row _ H 0 _ _ _ hx0
  obtain ⟨o, z, ho, hs, hk, h2⟩ := op_few cs
  have H2 := Lib.hid h2
  have HW0 := Lib.hid hW0
  have U0 := Lib.hid u0
  have HCL := Lib.hid hcl0
  have HF := Lib.hid hfit
  have HO := Lib.hid ho
  have HS := Lib.hid hs
  have HK := Lib.hid hk
  have HX := Lib.hid hx
  have HSH := Lib.hid S
  clear hcl u0 hW0 hcl0 hfit ho hs hk hx0 hx S h2
  subst hcv
  go_enter Try.func5, Try.ntmps5
  go_wp2_with fail
  rw [HW0.out]
  refine (uFew cs HCL.out HF.out (Up.refl _)).mono ?_
  rintro e w1 ⟨v1, rfl, h1, u1⟩
  have H1 := Lib.hid h1
  have U1 := Lib.hid (U0.out.trans u1)
  clear h1 u1 kc
  go_wp2_with fail
  refine (uOpen (fewL cs) H1.out (few_kids cs) (few_le cs) (Up.refl _)).mono ?_
  rw [HO.out]
  rintro e w2 ⟨n, rfl, h2, u2⟩
  have HN := Lib.hid h2
  have U2 := Lib.hid (U1.out.trans u2)
  clear h2 u2
  rcases H2.out with ⟨t, rfl, rfl⟩ | ⟨rfl, hz⟩
  · go_wp2_with fail
    refine (all_any HSH.out (some t) (by have := HS.out; omega) HK.out w2 w2 n (Nx.up HX.out U2.out) HN.out (Up.refl _)).mono ?_
    rintro e w3 ⟨g, rfl, hcells, u3⟩
    have hon : ∀ c c', chk B.nck B.long (some t) c = 0 → chk B.nck B.long (some t) c' = 0 → c = c' := fun c c' h h' => chk_one h h'
    obtain ⟨F, hF⟩ : ∃ F, chk B.nck B.long (some t) = F := ⟨_, rfl⟩
    rw [hF] at hcells hon
    have HC := Lib.hid hcells
    have HON := Lib.hid hon
    have U3 := Lib.hid u3
    clear hcells u3 hF hon
    go_wp2_with fail
    go_loopw [5, 7, 20] (fun m _ i wr => ∃ (I M : Nat), i = .int .i64 I ∧ m = .int .i64 M ∧ I ≤ 7 ∧ ((M = 0 ∧ ∀ j : Nat, j < I → F ((j : Int) + 1) ≠ 0) ∨ (M = 1 ∧ ∃ j : Nat, j < I ∧ F ((j : Int) + 1) = 0)) ∧ Up w3 wr) (fun _ _ i _ => 7 - (intOf i).toNat)
    case atStart => exact ⟨0, 0, rfl, rfl, by omega, .inl ⟨rfl, fun j hj => absurd hj (Nat.not_lt_zero _)⟩, Up.refl _⟩
    case round =>
      obtain ⟨I, M, rfl, rfl, hI, hM, hur⟩ := hrel
      have HUR := Lib.hid hur
      have HM := Lib.hid hM
      have hM1 : M ≤ 1 := by rcases hM with h | h <;> omega
      clear hur hM
      by_cases hlt : I < 7
      · have hiz : (I : Int) < 7 := by omega
        have hcell := HUR.out.cell (HC.out I hlt)
        by_cases hf : F ((I : Int) + 1) = 0
        · have hM0 : M = 0 := by
            rcases HM.out with h | ⟨_, j, hj, h⟩
            · exact h.1
            · have := HON.out _ _ h hf
              omega
          subst hM0
          rw [hf] at hcell
          have HFF := Lib.hid hf
          clear hf
          go_wp2_with fail
          go_roundw
          case rel => exact ⟨I + 1, 1, by go_num, by go_num, by omega, .inr ⟨rfl, I, by omega, HFF.out⟩, HUR.out⟩
          case measure => simp [intOf]; omega
        · have hf1 : (F ((I : Int) + 1) == 0) = false := by rw [beq_eq_false_iff_ne]; exact hf
          have HNX : Hid ((M = 0 ∧ ∀ j : Nat, j < I + 1 → F ((j : Int) + 1) ≠ 0) ∨ (M = 1 ∧ ∃ j : Nat, j < I + 1 ∧ F ((j : Int) + 1) = 0)) := Lib.hid (by
            rcases HM.out with ⟨h, g⟩ | ⟨h, j, hj, g⟩
            · refine .inl ⟨h, fun j hj => ?_⟩
              by_cases e : j = I
              · subst e; exact hf
              · exact g j (by omega)
            · exact .inr ⟨h, j, by omega, g⟩)
          clear hf
          go_wp2_with fail
          go_roundw
          case rel => exact ⟨I + 1, M, by go_num, rfl, by omega, HNX.out, HUR.out⟩
          case measure => simp [intOf]; omega
      · have hiz : ¬ (I : Int) < 7 := by omega
        have hm1 : (M : Int) ≤ 1 := by omega
        go_wp2_with fail
        refine (works5 HSH.out w _ HX.out (U2.out.trans (U3.out.trans HUR.out))).mono ?_
        rintro e w5 ⟨rfl, u5⟩
        go_wp2_with fail
        go_ret
        exact bop_ret rfl u5
  · have hz1 : (z != 0) = true := by rw [bne_iff_ne]; exact hz
    clear hz
    go_wp2_with fail
    refine (works5 HSH.out w _ HX.out U2.out).mono ?_
    rintro e w5 ⟨rfl, u5⟩
    go_wp2_with fail
    go_ret
    exact bop_ret rfl u5
end Go.Proofs.Ytoejegndbcbkmaa
/-
  The law ShapeParts.
-/
namespace Go.Proofs.Ytoejegndbcbkmaa
open Go.RowKit

theorem Fr.get_dp {f : Fr} {i : Nat} {t : Tr} (h : f.get i = some t) : dpT t ≤ f.dp := by
  induction f generalizing i with
  | nil => cases h
  | cons x k r _ ih =>
    cases i with
    | zero => injection h with h; subst h; show 1 + k.dp ≤ max (1 + k.dp) r.dp; omega
    | succ i => have := ih h; simp only [Fr.dp]; omega
theorem at_dp : ∀ (p : List Int) (t u : Tr), atT t p = some u → dpT u ≤ dpT t
  | [], t, u, h => by injection h with h; subst h; exact Nat.le_refl _
  | i :: p, t, u, h => by
    unfold atT at h
    cases hg : getZ t.2 i with
    | none => rw [hg] at h; cases h
    | some v =>
      rw [hg] at h
      have h1 := at_dp p v u h
      have h2 := Fr.get_dp (getZ_some hg).2
      have h3 : dpT t = 1 + t.2.dp := rfl
      omega
theorem chk_yes {nk lg : ByteArray → Bool} {t : Tr} {c : Int} (h1 : szT t ≤ 8192) (h2 : dpT t ≤ 60) (h3 : isT nk lg t c = true) : chk nk lg (some t) c = 0 := by
  unfold chk
  simp only
  rw [if_neg (by omega), if_neg (by omega), if_pos h3]
theorem okS_at : ∀ (p : List Int) (t u : Tr), okST t → atT t p = some u → okST u
  | [], t, u, h, ha => by injection ha with ha; subst ha; exact h
  | i :: p, t, u, h, ha => by
    unfold atT at ha
    cases hg : getZ t.2 i with
    | none => rw [hg] at ha; cases ha
    | some v =>
      rw [hg] at ha
      exact okS_at p v u (okS_get h.2.2 (getZ_some hg).2) ha
/-- What lies in a tree of a form: of one, or a constructor, an arm. -/
theorem part_ok {nk lg : ByteArray → Bool} {t u : Tr} {c : Int} {p : List Int} (h : chk nk lg (some t) c = 0) (hu : atT t p = some u) : ((u.1.k = 8 ∨ u.1.k = 34) ∧ u.2.len = 1) ∨ ∃ j : Nat, j < 7 ∧ chk nk lg (some u) ((j : Int) + 1) = 0 := by
  obtain ⟨h1, h2, h3⟩ := chk_zero h
  obtain ⟨c', hc⟩ := is_at p t u c h3 hu
  have h9 := is_nine hc
  have hs := at_sz p t u hu
  have hd := at_dp p t u hu
  by_cases h7 : c' ≤ 7
  · refine .inr ⟨(c' - 1).toNat, by omega, ?_⟩
    have : (((c' - 1).toNat : Nat) : Int) + 1 = c' := by omega
    rw [this]
    exact chk_yes (by omega) (by omega) hc
  · exact .inl (is_one_kid hc (by omega))
set_option maxHeartbeats 6400000 in
set_option maxRecDepth 100000 in
theorem lawParts (S : ShpAll) (cs : List Cel) (w : World) (cv : Value) (hx : B.Nx w) (hcl : Cls w w.heap.size cv cs) (hfit : ∀ c ∈ cs, fitC c) :
    Calls Try.prog 6 #[.agg #[cv]] w (BoP true w) := by
  obtain ⟨H, hH⟩ : ∃ H, w.heap.size = H := ⟨_, rfl⟩
  obtain ⟨CA, cc, hcv, -, -⟩ := id hcl
  have u0 : Up w (w.alloc (.cells #[cv] 24)) := (Up.refl w).alloc _
  obtain ⟨W0, hW0⟩ : ∃ W0, w.alloc (.cells #[cv] 24) = W0 := ⟨_, rfl⟩
  have hx0 : W0.heap[H]? = some (.cells #[cv] 24 (0, 0)) := by rw [← hW0, ← hH]; exact heap_alloc_new w _
  rw [hW0] at u0
  have hcl0 := hcl.upp u0
  have kc : W0.cell? ⟨H, 0, none⟩ = some cv := cell_of_row _ H 0 _ _ _ hx0
  obtain ⟨o, z, ho, hs, hk, h2⟩ := op_few cs
  have H2 := Lib.hid h2
  have HW0 := Lib.hid hW0
  have U0 := Lib.hid u0
  have HCL := Lib.hid hcl0
  have HF := Lib.hid hfit
  have HO := Lib.hid ho
  have HS := Lib.hid hs
  have HK := Lib.hid hk
  have HX := Lib.hid hx
  have HSH := Lib.hid S
  clear hcl u0 hW0 hcl0 hfit ho hs hk hx0 hx S h2
  subst hcv
  go_enter Try.func6, Try.ntmps6
  go_wp2_with fail
  rw [HW0.out]
  refine (uFew cs HCL.out HF.out (Up.refl _)).mono ?_
  rintro e w1 ⟨v1, rfl, h1, u1⟩
  have H1 := Lib.hid h1
  have U1 := Lib.hid (U0.out.trans u1)
  clear h1 u1 kc
  go_wp2_with fail
  refine (uOpen (fewL cs) H1.out (few_kids cs) (few_le cs) (Up.refl _)).mono ?_
  rw [HO.out]
  rintro e w2 ⟨n, rfl, h2, u2⟩
  have HN := Lib.hid h2
  have U2 := Lib.hid (U1.out.trans u2)
  clear h2 u2
  rcases H2.out with ⟨t, rfl, rfl⟩ | ⟨rfl, hz⟩
  · go_wp2_with fail
    refine (all_any HSH.out (some t) (by have := HS.out; omega) HK.out w2 w2 n (Nx.up HX.out U2.out) HN.out (Up.refl _)).mono ?_
    rintro e w3 ⟨g, rfl, hcells, u3⟩
    have hpart : ∀ (c : Int) (p : List Int) (u : Tr), chk B.nck B.long (some t) c = 0 → atT t p = some u → ((u.1.k = 8 ∨ u.1.k = 34) ∧ u.2.len = 1) ∨ ∃ j : Nat, j < 7 ∧ chk B.nck B.long (some u) ((j : Int) + 1) = 0 := fun c p u h hu => part_ok h hu
    obtain ⟨F, hF⟩ : ∃ F, chk B.nck B.long (some t) = F := ⟨_, rfl⟩
    rw [hF] at hcells hpart
    have HC := Lib.hid hcells
    have HPT := Lib.hid hpart
    have HN3 := Lib.hid (HN.out.up u3)
    have U3 := Lib.hid (U2.out.trans u3)
    clear hcells u3 hF hpart
    go_wp2_with fail
    go_loopw [5, 7, 27] (fun m _ i wr => ∃ (I : Nat) (b : Bool), i = .int .i64 I ∧ m = .bool b ∧ I ≤ 7 ∧ (b = true → ∃ j : Nat, j < 7 ∧ F ((j : Int) + 1) = 0) ∧ Up w3 wr) (fun _ _ i _ => 7 - (intOf i).toNat)
    case atStart => exact ⟨0, false, rfl, rfl, by omega, fun h => (by cases h), Up.refl _⟩
    case round =>
      obtain ⟨I, b, rfl, rfl, hI, hb, hur⟩ := hrel
      have HUR := Lib.hid hur
      have HB := Lib.hid hb
      clear hur hb
      by_cases hlt : I < 7
      · have hiz : (I : Int) < 7 := by omega
        have hcell := HUR.out.cell (HC.out I hlt)
        cases b with
        | true =>
          go_wp2_with fail
          go_roundw
          case rel => exact ⟨I + 1, true, by go_num, rfl, by omega, HB.out, HUR.out⟩
          case measure => simp [intOf]; omega
        | false =>
          obtain ⟨b1, hb1⟩ : ∃ b1, (F ((I : Int) + 1) == 0) = b1 := ⟨_, rfl⟩
          have HNX : Hid (b1 = true → ∃ j : Nat, j < 7 ∧ F ((j : Int) + 1) = 0) := Lib.hid fun h => ⟨I, hlt, by rw [h] at hb1; exact eq_of_beq hb1⟩
          go_wp2_with fail
          go_roundw
          case rel => exact ⟨I + 1, b1, by go_num, rfl, by omega, HNX.out, HUR.out⟩
          case measure => simp [intOf]; omega
      · have hiz : ¬ (I : Int) < 7 := by omega
        cases b with
        | false =>
          go_wp2_with fail
          refine (works5 HSH.out w _ HX.out (U3.out.trans HUR.out)).mono ?_
          rintro e w5 ⟨rfl, u5⟩
          go_wp2_with fail
          go_ret
          exact bop_ret rfl u5
        | true =>
          obtain ⟨jf, hj7, hjf⟩ := HB.out rfl
          have HPT2 := Lib.hid fun p u h => HPT.out _ p u hjf h
          clear hjf hj7
          go_wp2_with fail
          refine (uPaths (some t) (-1) (HN3.out.up HUR.out) (by have := HS.out; omega) (Up.refl _)).mono ?_
          rintro e w4 ⟨all, rfl, h4, u4⟩
          obtain ⟨L, hL⟩ : ∃ L, pathsO (-1) (some t) = L := ⟨_, rfl⟩
          rw [hL] at h4
          obtain ⟨PA, pc, rfl, hpc, hj⟩ := h4
          have hple := pathsT_num (-1) t
          have hsz : szT t ≤ 80 := HS.out
          have hL' : pathsT (-1) t = L := hL
          rw [hL'] at hple
          have hat : ∀ (i : Nat) (p : List Int), L[i]? = some p → p.length ≤ 80 ∧ ∃ u, atT t p = some u := fun i p h => by
            have hm := List.mem_of_getElem? h
            obtain ⟨u, hu, -⟩ := pathsT_at (by rw [← hL'] at hm; exact hm)
            exact ⟨by have := hple.2 p hm; omega, u, hu⟩
          obtain ⟨M, hM⟩ : ∃ M, L.length = M := ⟨_, rfl⟩
          have hM80 : M ≤ 80 := by have := hple.1; omega
          rw [hM] at hpc ⊢
          have HJ := Lib.hid hj
          have HAT := Lib.hid hat
          have HM := Lib.hid hM
          have HN4 := Lib.hid ((HN3.out.up HUR.out).up u4)
          have U4 := Lib.hid ((U3.out.trans HUR.out).trans u4)
          have nn := fun w a => ptr_nil w a
          clear hj hat hM u4 hple hL hL'
          go_wp2_with fail
          go_loopw [9, 10, 11, 12, 14, 43, 78] (fun _ _ _ _ _ i _ wr => ∃ I : Nat, i = .int .i64 I ∧ I ≤ M ∧ Up w4 wr) (fun _ _ _ _ _ i _ _ => M - (intOf i).toNat)
          case atStart => exact ⟨0, rfl, Nat.zero_le _, Up.refl _⟩
          case round =>
            obtain ⟨I, rfl, hI, hur⟩ := hrel
            by_cases hlt : I < M
            · have hiz : (I : Int) < (M : Int) := by omega
              obtain ⟨p, hp⟩ : ∃ p, L[I]? = some p := ⟨_, List.getElem?_eq_getElem (by have := HM.out; omega)⟩
              obtain ⟨pb, po, pv, rfl, hpb, hcell, hsp⟩ := HJ.out I p hp
              obtain ⟨hpl, u, hu⟩ := HAT.out I p hp
              have hcr := hur.cell hcell
              have HPR := Lib.hid (hsp.up hur)
              have HNR := Lib.hid (HN4.out.up hur)
              have hE : Hid (atE (some t) p = 0) := Lib.hid (by show (match atT t p with | none => 21 | some _ => 0) = (0 : Int); rw [hu])
              have hA : Hid (atO (some t) p = some u) := Lib.hid hu
              have HPL := Lib.hid hpl
              have UR := Lib.hid hur
              have hcs : ((u.1.k == 8) = true ∧ ((u.1.k = 8 ∨ u.1.k = 34) ∧ u.2.len = 1 → ((u.2.len : Int) == 1) = true)) ∨ ((u.1.k == 8) = false ∧ (u.1.k == 34) = true ∧ ((u.1.k = 8 ∨ u.1.k = 34) ∧ u.2.len = 1 → ((u.2.len : Int) == 1) = true)) ∨ ((u.1.k == 8) = false ∧ (u.1.k == 34) = false ∧ ¬ ((u.1.k = 8 ∨ u.1.k = 34) ∧ u.2.len = 1)) := by
                have hl : u.2.len = 1 → ((u.2.len : Int) == 1) = true := fun h => by rw [h]; rfl
                by_cases e1 : u.1.k = 8
                · exact .inl ⟨by rw [e1]; rfl, fun h => hl h.2⟩
                · by_cases e2 : u.1.k = 34
                  · exact .inr (.inl ⟨by rw [beq_eq_false_iff_ne]; exact e1, by rw [e2]; rfl, fun h => hl h.2⟩)
                  · exact .inr (.inr ⟨by rw [beq_eq_false_iff_ne]; exact e1, by rw [beq_eq_false_iff_ne]; exact e2, fun h => h.1.elim e1 e2⟩)
              have HPU := Lib.hid (HPT2.out p u hu)
              have HSU : Hid (szO (some u) ≤ 80) := Lib.hid (by have := at_sz p t u hu; show szT u ≤ 80; omega)
              have HKU : Hid (okSO (some u)) := Lib.hid fun v hv => by injection hv with hv; subst hv; exact okS_at p t u (HK.out t rfl) hu
              clear hcell hsp hu hp hpl hur
              go_wp2_with fail
              refine (uAt (some t) p HNR.out HPR.out (by have := HPL.out; omega) (Up.refl _)).mono ?_
              rw [hE.out, hA.out]
              rintro e w5 ⟨x, rfl, h5, u5⟩
              have hT5 : HasT w5 x (some u) := h5
              obtain ⟨q, o, A, c, rfl, -, d0, -, -, -, d4, -⟩ := InT.open h5
              obtain ⟨UL, hUL⟩ : ∃ UL, u.2.len = UL := ⟨_, rfl⟩
              rw [hUL] at d4 hcs
              have HT5 := Lib.hid hT5
              have U5 := Lib.hid (UR.out.trans u5)
              have cA := all_any HSH.out (some u) (by have := HSU.out; omega) HKU.out w5 w5 _ (Nx.up HX.out (U4.out.trans U5.out)) hT5 (Up.refl _)
              obtain ⟨G, hG⟩ : ∃ G, chk B.nck B.long (some u) = G := ⟨_, rfl⟩
              have hpu := HPU.out
              rw [hG, hUL] at hpu
              rw [hG] at cA
              have HPG := Lib.hid hpu
              have CA := Lib.hid cA
              clear h5 u5 hcr hT5 cA hG hpu hUL
              rcases hcs with ⟨k1, k2⟩ | ⟨k1, k3, k2⟩ | ⟨k1, k3, k2⟩
              all_goals
                have HK2 := Lib.hid k2
                clear k2
                obtain ⟨b0, hb0⟩ : ∃ b0, ((UL : Int) == 1) = b0 := ⟨_, rfl⟩
                have HB0 := Lib.hid hb0
                go_wp2_with fail
                refine CA.out.mono ?_
                rintro e w6 ⟨g6, rfl, hcells6, u6⟩
                have HC6 := Lib.hid hcells6
                have U6 := Lib.hid (U5.out.trans u6)
                clear hcells6 u6
                go_wp2_with fail
                go_loopw [12, 14, 78] (fun ok _ j wb => ∃ (J : Nat) (b : Bool), j = .int .i64 J ∧ ok = .bool b ∧ J ≤ 7 ∧ (((u.1.k = 8 ∨ u.1.k = 34) ∧ UL = 1) → b = true) ∧ ((∃ i : Nat, i < J ∧ G ((i : Int) + 1) = 0) → b = true) ∧ Up w6 wb) (fun _ _ j _ => 7 - (intOf j).toNat)
                case atStart =>
                  first
                    | exact ⟨0, b0, rfl, rfl, by omega, fun h => HB0.out ▸ HK2.out h, fun ⟨i, hi, _⟩ => absurd hi (Nat.not_lt_zero _), Up.refl _⟩
                    | exact ⟨0, false, rfl, rfl, by omega, fun h => absurd h HK2.out, fun ⟨i, hi, _⟩ => absurd hi (Nat.not_lt_zero _), Up.refl _⟩
                case round =>
                  obtain ⟨J, b, rfl, rfl, hJ, hA1, hA2, hub⟩ := hrel
                  have HUB := Lib.hid hub
                  have HA1 := Lib.hid hA1
                  have HA2 := Lib.hid hA2
                  clear hub hA1 hA2
                  by_cases hlt2 : J < 7
                  · have hjz : (J : Int) < 7 := by omega
                    have hcell6 := HUB.out.cell (HC6.out J hlt2)
                    cases b with
                    | true =>
                      go_wp2_with fail
                      go_roundw
                      case rel => exact ⟨J + 1, true, by go_num, rfl, by omega, fun _ => rfl, fun _ => rfl, HUB.out⟩
                      case measure => simp [intOf]; omega
                    | false =>
                      obtain ⟨b1, hb1⟩ : ∃ b1, (G ((J : Int) + 1) == 0) = b1 := ⟨_, rfl⟩
                      have HNX : Hid ((∃ i : Nat, i < J + 1 ∧ G ((i : Int) + 1) = 0) → b1 = true) := Lib.hid fun ⟨i, hi, hg⟩ => by
                        by_cases e : i = J
                        · subst e
                          rw [← hb1, hg]
                          rfl
                        · exact absurd (HA2.out ⟨i, by omega, hg⟩) (by decide)
                      have HN1 : Hid (((u.1.k = 8 ∨ u.1.k = 34) ∧ UL = 1) → b1 = true) := Lib.hid fun h => absurd (HA1.out h) (by decide)
                      go_wp2_with fail
                      go_roundw
                      case rel => exact ⟨J + 1, b1, by go_num, rfl, by omega, HN1.out, HNX.out, HUB.out⟩
                      case measure => simp [intOf]; omega
                  · have hjz : ¬ (J : Int) < 7 := by omega
                    obtain rfl : b = true := by
                      rcases HPG.out with h | ⟨i, hi, h⟩
                      · exact HA1.out h
                      · exact HA2.out ⟨i, by omega, h⟩
                    go_wp2_with fail
                    go_roundw
                    case rel => exact ⟨I + 1, by go_num, by omega, U6.out.trans HUB.out⟩
                    case measure => simp [intOf]; omega
            · have hiz : ¬ (I : Int) < (M : Int) := by omega
              go_wp2_with fail
              refine (works5 HSH.out w _ HX.out (U4.out.trans hur)).mono ?_
              rintro e w5 ⟨rfl, u5⟩
              go_wp2_with fail
              go_ret
              exact bop_ret rfl u5
  · have hz1 : (z != 0) = true := by rw [bne_iff_ne]; exact hz
    clear hz
    go_wp2_with fail
    refine (works5 HSH.out w _ HX.out U2.out).mono ?_
    rintro e w5 ⟨rfl, u5⟩
    go_wp2_with fail
    go_ret
    exact bop_ret rfl u5
end Go.Proofs.Ytoejegndbcbkmaa
/-
  The law ShapePuts.
-/
namespace Go.Proofs.Ytoejegndbcbkmaa
open Go.RowKit

theorem w64 (n : Int) (h : -9223372036854775808 ≤ n ∧ n ≤ 9223372036854775807) : IntKind.i64.wrap n = n := by rw [IntKind.wrap_i64]; omega
theorem tmod_fit {x n : Int} (h0 : 0 < n) : 0 ≤ (Int.tmod (Int.tmod x n + n) n) ∧ Int.tmod (Int.tmod x n + n) n < n := by
  have h1 : -n < Int.tmod x n := by
    have := Int.lt_tmod_of_pos x h0
    omega
  have h2 : 0 ≤ Int.tmod x n + n := by omega
  exact ⟨Int.tmod_nonneg _ h2, Int.tmod_lt_of_pos _ h0⟩
theorem okS_set : ∀ {f : Fr} {i : Nat} {t : Tr}, okS f → okST t → okS (f.set i t)
  | .nil, _, _, _, _ => trivial
  | .cons _ _ _, 0, _, h, ht => ⟨ht.1, ht.2.1, ht.2.2, h.2.2.2⟩
  | .cons _ _ _, _ + 1, _, h, ht => ⟨h.1, h.2.1, h.2.2.1, okS_set h.2.2.2 ht⟩
theorem okS_with : ∀ (p : List Int) (t s : Tr), okST t → okST s → okST (withT t p s)
  | [], _, _, _, hs => hs
  | i :: p, t, s, ht, hs => by
    rw [withT_cons]
    cases hg : getZ t.2 i with
    | none => exact ht
    | some v => exact ⟨ht.1, ht.2.1, okS_set ht.2.2 (okS_with p v s (okS_get ht.2.2 (getZ_some hg).2) hs)⟩
def unitT : Tr := (ndk 3, .nil)
theorem unitT_is : isT B.nck B.long unitT 1 = true := by decide
/-- What comes of an expression in the place of an empty one; and of a type there. -/
theorem puts_facts {t t2 e : Tr} {p : List Int} (h1 : chk B.nck B.long (some t) 7 = 0) (h2 : chk B.nck B.long (some t2) 2 = 0) (hp : atT t p = some e) (he : e.1.k = 22) (hs1 : szT t ≤ 80) (hs2 : szT t2 ≤ 80) :
    chk B.nck B.long (some (withT t p t2)) 7 = (if 60 < dpT (withT t p t2) then 7 else 0) ∧ chk B.nck B.long (some (withT t p unitT)) 7 = 16 ∧ szT (withT t p t2) ≤ 160 ∧ szT (withT t p unitT) ≤ 160 := by
  obtain ⟨-, d1, i1⟩ := chk_zero h1
  obtain ⟨-, d2, i2⟩ := chk_zero h2
  obtain ⟨c', hc⟩ := is_at p t e 7 i1 hp
  obtain ⟨e2, ed, es⟩ := unit_leaf hc he
  have z1 := with_sz p t t2 e hp
  have z2 := with_sz p t unitT e hp
  have zu : szT unitT = 1 := rfl
  have hne : p ≠ [] := by
    rintro rfl
    injection hp with hp
    subst hp
    exact absurd (is_one i1 e2) (by decide)
  have im := put_expr p t t2 e 7 i1 hp e2 i2
  have io := put_other p t unitT e 7 2 1 i1 hp e2 unitT_is (by decide) hne 7
  have dd := with_dp p t unitT e hp (by rw [ed]; rfl)
  refine ⟨?_, ?_, by omega, by omega⟩
  · unfold chk
    simp only
    rw [if_neg (by omega), if_pos im]
  · unfold chk
    simp only
    rw [if_neg (by omega), if_neg (by omega), io]
    rfl
set_option maxHeartbeats 12800000 in
set_option maxRecDepth 100000 in
theorem lawPuts (S : ShpAll) (cs ds : List Cel) (k : Int) (w : World) (cv dv : Value) (hx : B.Nx w) (hcl : Cls w w.heap.size cv cs) (hdl : Cls w w.heap.size dv ds) (hfit : ∀ c ∈ cs, fitC c) (hfit2 : ∀ c ∈ ds, fitC c) :
    Calls Try.prog 7 #[.agg #[cv], .int .i64 k, .agg #[dv]] w (BoP true w) := by
  obtain ⟨H, hH⟩ : ∃ H, w.heap.size = H := ⟨_, rfl⟩
  obtain ⟨CA, cc, hcv, -, -⟩ := id hcl
  obtain ⟨DA, dc, hdv, -, -⟩ := id hdl
  have u0 : Up w ((w.alloc (.cells #[cv] 24)).alloc (.cells #[dv] 24)) := ((Up.refl w).alloc _).alloc _
  obtain ⟨W0, hW0⟩ : ∃ W0, (w.alloc (.cells #[cv] 24)).alloc (.cells #[dv] 24) = W0 := ⟨_, rfl⟩
  have kc : W0.cell? ⟨H, 0, none⟩ = some cv := by
    rw [← hW0, ← hH]
    exact cell_of_row _ w.heap.size 0 _ _ _ (block_alloc _ (heap_alloc_new w (.cells #[cv] 24)))
  have kd : W0.cell? ⟨H + 1, 0, none⟩ = some dv := by
    rw [← hW0, ← hH]
    have h := heap_alloc_new (w.alloc (.cells #[cv] 24)) (.cells #[dv] 24)
    rw [show (w.alloc (.cells #[cv] 24)).heap.size = w.heap.size + 1 by simp] at h
    exact cell_of_row _ (w.heap.size + 1) 0 _ _ _ h
  rw [hW0] at u0
  have hcl0 := hcl.upp u0
  have hdl0 := hdl.upp u0
  obtain ⟨o, z, ho, hs, hk, h2⟩ := op_few cs
  obtain ⟨s, y, ho2, hs2, hk2, h22⟩ := op_few ds
  have HW0 := Lib.hid hW0
  have HK := Lib.hid hk
  have HK2 := Lib.hid hk2
  have HX := Lib.hid hx
  have HSH := Lib.hid S
  have U0 := Lib.hid u0
  have HCL := Lib.hid hcl0
  have HDL := Lib.hid hdl0
  have HF := Lib.hid hfit
  have HF2 := Lib.hid hfit2
  have HO := Lib.hid ho
  have HO2 := Lib.hid ho2
  have HS := Lib.hid hs
  have HS2 := Lib.hid hs2
  have H2 := Lib.hid h2
  have H22 := Lib.hid h22
  clear hcl hdl u0 hW0 hcl0 hdl0 hfit hfit2 ho ho2 hs hs2 h2 h22 hk hk2 hx S
  subst hcv hdv
  go_enter Try.func7, Try.ntmps7
  go_wp2_with fail
  rw [HW0.out]
  refine (uFew cs HCL.out HF.out (Up.refl _)).mono ?_
  rintro e w1 ⟨v1, rfl, h1, u1⟩
  have kd1 := u1.cell kd
  have H1 := Lib.hid h1
  have U1 := Lib.hid u1
  clear h1 u1 kc kd
  go_wp2_with fail
  refine (uOpen (fewL cs) H1.out (few_kids cs) (few_le cs) (Up.refl _)).mono ?_
  rw [HO.out]
  rintro e w2 ⟨n, rfl, h2, u2⟩
  have kd2 := u2.cell kd1
  have HN2 := Lib.hid h2
  have U2 := Lib.hid (U1.out.trans u2)
  clear h2 u2 kd1
  go_wp2_with fail
  refine (uFew ds (HDL.out.upp U2.out) HF2.out (Up.refl _)).mono ?_
  rintro e w3 ⟨v3, rfl, h3, u3⟩
  have H3 := Lib.hid h3
  have HN3 := Lib.hid (HN2.out.up u3)
  have U3 := Lib.hid (U2.out.trans u3)
  clear h3 u3 kd2
  go_wp2_with fail
  refine (uOpen (fewL ds) H3.out (few_kids ds) (few_le ds) (Up.refl _)).mono ?_
  rw [HO2.out]
  rintro e w4 ⟨sv, rfl, h4, u4⟩
  have HN4 := Lib.hid (HN3.out.up u4)
  have HS4 := Lib.hid h4
  have U4 := Lib.hid (U0.out.trans (U3.out.trans u4))
  clear h4 u4
  rcases H2.out with ⟨t, rfl, rfl⟩ | ⟨rfl, hz⟩
  · rcases H22.out with ⟨t2, rfl, rfl⟩ | ⟨rfl, hz⟩
    · have c7 := HSH.out.h7 (some t) (by have := HS.out; omega) HK.out w4 w4 n (Nx.up HX.out U4.out) HN4.out (Up.refl _)
      have c2 := fun w' (h : Up w4 w') => HSH.out.h2 (some t2) (by have := HS2.out; omega) HK2.out w4 w' sv (Nx.up HX.out U4.out) HS4.out h
      obtain ⟨F, hF⟩ : ∃ F, chk B.nck B.long (some t) 7 = F := ⟨_, rfl⟩
      obtain ⟨G, hG⟩ : ∃ G, chk B.nck B.long (some t2) 2 = G := ⟨_, rfl⟩
      rw [hF] at c7
      rw [hG] at c2
      have C7 := Lib.hid c7
      have C2 := Lib.hid c2
      by_cases hf : F = 0
      · subst hf
        by_cases hg : G = 0
        · subst hg
          have HFF := Lib.hid hF
          have HGG := Lib.hid hG
          clear hF hG c7 c2
          go_wp2_with fail
          refine C7.out.mono ?_
          rintro e w5 ⟨rfl, u5⟩
          go_wp2_with fail
          refine (C2.out _ u5).mono ?_
          rintro e w6 ⟨rfl, u6⟩
          have HN6 := Lib.hid (HN4.out.up u6)
          have HS6 := Lib.hid (HS4.out.up u6)
          have U6 := Lib.hid (U4.out.trans u6)
          clear u5 u6
          go_wp2_with fail
          refine (uPaths (some t) 22 HN6.out (by have := HS.out; omega) (Up.refl _)).mono ?_
          rintro e w7 ⟨all, rfl, h7, u7⟩
          obtain ⟨L, hL⟩ : ∃ L, pathsO 22 (some t) = L := ⟨_, rfl⟩
          rw [hL] at h7
          obtain ⟨PA, pc, rfl, hpc, hj⟩ := h7
          have hple := pathsT_num 22 t
          have hsz : szT t ≤ 80 := HS.out
          have hL' : pathsT 22 t = L := hL
          rw [hL'] at hple
          obtain ⟨M, hM⟩ : ∃ M, L.length = M := ⟨_, rfl⟩
          have hM80 : M ≤ 80 := by have := hple.1; omega
          rw [hM] at hpc ⊢
          have U7 := Lib.hid (U6.out.trans u7)
          have HN7 := Lib.hid (HN6.out.up u7)
          have HS7 := Lib.hid (HS6.out.up u7)
          clear u7 hL
          by_cases hM0 : M = 0
          · subst hM0
            go_wp2_with fail
            refine (works5 HSH.out w _ HX.out U7.out).mono ?_
            rintro e w9 ⟨rfl, u9⟩
            go_wp2_with fail
            go_ret
            exact bop_ret rfl u9
          · have e0 : ((M : Int) == 0) = false := by rw [beq_eq_false_iff_ne]; omega
            have hm0 : (M : Int) ≠ 0 := by omega
            obtain ⟨hi0, hi1⟩ := tmod_fit (x := k) (n := (M : Int)) (by omega)
            have hb1 : -(M : Int) < Int.tmod k M ∧ Int.tmod k M < M := ⟨by have := Int.lt_tmod_of_pos k (b := (M : Int)) (by omega); omega, Int.tmod_lt_of_pos _ (by omega)⟩
            have hw1 : IntKind.i64.wrap (Int.tmod k M) = Int.tmod k M := w64 _ (by omega)
            have hw2 : IntKind.i64.wrap (Int.tmod k M + M) = Int.tmod k M + M := w64 _ (by omega)
            have hw3 : IntKind.i64.wrap (Int.tmod (Int.tmod k M + M) M) = Int.tmod (Int.tmod k M + M) M := w64 _ (by omega)
            obtain ⟨J, hJ⟩ : ∃ J : Nat, Int.tmod (Int.tmod k M + M) M = J := ⟨(Int.tmod (Int.tmod k M + M) M).toNat, by omega⟩
            rw [hJ] at hi0 hi1 hw3
            have hJM : J < M := by omega
            obtain ⟨p, hp⟩ : ∃ p, L[J]? = some p := ⟨_, List.getElem?_eq_getElem (by omega)⟩
            obtain ⟨pb, po, pv, rfl, hpb, hcell, hsp⟩ := hj J p hp
            have hmem : p ∈ pathsT 22 t := by rw [hL']; exact List.mem_of_getElem? hp
            obtain ⟨u, hu, hk22⟩ := pathsT_at hmem
            have hpl : p.length ≤ 80 := by have := (pathsT_num 22 t).2 p hmem; omega
            obtain ⟨q1, q2, q3, q4⟩ := puts_facts HFF.out HGG.out hu (hk22 (by decide)) hsz HS2.out
            have hE : Hid (atE (some t) p = 0) := Lib.hid (by show (match atT t p with | none => 21 | some _ => 0) = (0 : Int); rw [hu])
            have hPO : ∀ s, Hid (putO (some t) p (some s) = some (withT t p s)) := fun s => Lib.hid (by unfold putO; simp only [hu])
            have hPE : ∀ s, Hid (putE (some t) p (some s) = 0) := fun s => Lib.hid (by unfold putE; rw [hE.out]; rfl)
            have HSP := Lib.hid hsp
            have HPL := Lib.hid hpl
            have Q1 := Lib.hid q1
            have Q2 := Lib.hid q2
            have Q3 := Lib.hid q3
            have Q4 := Lib.hid q4
            have HPO := Lib.hid hPO
            have HPE := Lib.hid hPE
            have HSZ := Lib.hid hsz
            clear hsp hpl q1 q2 q3 q4 hmem hu hk22 hp hj hPO hPE hL' hple hM
            go_wp2_with fail
            refine (uPut (some t) p (some t2) HN7.out HS7.out HSP.out (by have := HPL.out; omega) (by show szT t ≤ _; have := HSZ.out; omega) (Up.refl _)).mono ?_
            rw [(HPO.out t2).out, (HPE.out t2).out]
            rintro e w8 ⟨m, rfl, h8, u8⟩
            have HM8 := Lib.hid h8
            have HN8 := Lib.hid (HN7.out.up u8)
            have HP8 := Lib.hid (HSP.out.up u8)
            have U8 := Lib.hid (U7.out.trans u8)
            clear h8 u8
            have ua : Up w8 (w8.alloc (.cells #[.int .i64 3, .int .i64 0, .string ⟨#[]⟩, .string ⟨#[]⟩, .slice none 0 0] 37)) := (Up.refl w8).alloc _
            have hut : HasT (w8.alloc (.cells #[.int .i64 3, .int .i64 0, .string ⟨#[]⟩, .string ⟨#[]⟩, .slice none 0 0] 37)) (.pointer (some ⟨w8.heap.size, 0, none⟩)) (some unitT) := leaf5 (x := ndk 3) (heap_alloc_new w8 _) (by simp)
            have c9 := uPut (some t) p (some unitT) (HN8.out.up ua) hut (HP8.out.up ua) (by have := HPL.out; omega) (by show szT t ≤ _; have := HSZ.out; omega) (Up.refl _)
            rw [(HPO.out unitT).out, (HPE.out unitT).out] at c9
            have UA := Lib.hid ua
            clear ua hut
            go_wp2_with fail
            refine c9.mono ?_
            rintro e w9 ⟨o, rfl, h9, u9⟩
            have HO9 := Lib.hid h9
            have HM9 := Lib.hid (HM8.out.up (UA.out.trans u9))
            have U9 := Lib.hid (U8.out.trans (UA.out.trans u9))
            have hokm : okSO (some (withT t p t2)) := fun v hv => by injection hv with hv; subst hv; exact okS_with p t t2 (HK.out t rfl) (HK2.out t2 rfl)
            have hoko : okSO (some (withT t p unitT)) := fun v hv => by injection hv with hv; subst hv; exact okS_with p t unitT (HK.out t rfl) ⟨by decide, by decide, trivial⟩
            have cm := HSH.out.h7 (some (withT t p t2)) (by show szT _ ≤ _; have := Q3.out; omega) hokm w9 w9 m (Nx.up HX.out U9.out) HM9.out (Up.refl _)
            have co := fun w' (h : Up w9 w') => HSH.out.h7 (some (withT t p unitT)) (by show szT _ ≤ _; have := Q4.out; omega) hoko w9 w' o (Nx.up HX.out U9.out) HO9.out h
            have cd := fun w' (h : Up w9 w') => uDeep (some (withT t p t2)) HM9.out (by show szT _ ≤ _; have := Q3.out; omega) h
            rw [Q1.out] at cm
            rw [Q2.out] at co
            obtain ⟨D, hD⟩ : ∃ D, dpT (withT t p t2) = D := ⟨_, rfl⟩
            have hdo : dpO (some (withT t p t2)) = D := hD
            rw [hD] at cm
            rw [hdo] at cd
            have CO := Lib.hid co
            have CD := Lib.hid cd
            clear h9 u9 hokm hoko co cd hD hdo c9
            by_cases hd : 60 < D
            · rw [if_pos hd] at cm
              have hd1 : (60 : Int) < (D : Int) := by omega
              have CM := Lib.hid cm
              clear cm hd
              go_wp2_with fail
              refine CM.out.mono ?_
              rintro e x1 ⟨rfl, y1⟩
              go_wp2_with fail
              refine (CD.out _ y1).mono ?_
              rintro e x2 ⟨rfl, y2⟩
              go_wp2_with fail
              refine (CO.out _ y2).mono ?_
              rintro e x3 ⟨rfl, y3⟩
              go_wp2_with fail
              refine (works5 HSH.out w _ HX.out (U9.out.trans y3)).mono ?_
              rintro e x4 ⟨rfl, y4⟩
              go_wp2_with fail
              go_ret
              exact bop_ret rfl y4
            · rw [if_neg hd] at cm
              have hd1 : ¬ (60 : Int) < (D : Int) := by omega
              have CM := Lib.hid cm
              clear cm hd
              go_wp2_with fail
              refine CM.out.mono ?_
              rintro e x1 ⟨rfl, y1⟩
              go_wp2_with fail
              refine (CD.out _ y1).mono ?_
              rintro e x2 ⟨rfl, y2⟩
              go_wp2_with fail
              refine (CO.out _ y2).mono ?_
              rintro e x3 ⟨rfl, y3⟩
              go_wp2_with fail
              refine (works5 HSH.out w _ HX.out (U9.out.trans y3)).mono ?_
              rintro e x4 ⟨rfl, y4⟩
              go_wp2_with fail
              go_ret
              exact bop_ret (by have h := hd1; simp at h ⊢; omega) y4
        · have hg1 : (G != 0) = true := by rw [bne_iff_ne]; exact hg
          clear hF hG c7 c2 hg
          go_wp2_with fail
          refine C7.out.mono ?_
          rintro e w5 ⟨rfl, u5⟩
          go_wp2_with fail
          refine (C2.out _ u5).mono ?_
          rintro e w6 ⟨rfl, u6⟩
          go_wp2_with fail
          refine (works5 HSH.out w _ HX.out (U4.out.trans u6)).mono ?_
          rintro e w9 ⟨rfl, u9⟩
          go_wp2_with fail
          go_ret
          exact bop_ret rfl u9
      · have hf1 : (F != 0) = true := by rw [bne_iff_ne]; exact hf
        clear hF hG c7 c2 hf
        go_wp2_with fail
        refine C7.out.mono ?_
        rintro e w5 ⟨rfl, u5⟩
        go_wp2_with fail
        refine (works5 HSH.out w _ HX.out (U4.out.trans u5)).mono ?_
        rintro e w9 ⟨rfl, u9⟩
        go_wp2_with fail
        go_ret
        exact bop_ret rfl u9
    · have hz1 : (y != 0) = true := by rw [bne_iff_ne]; exact hz
      clear hz
      go_wp2_with fail
      refine (works5 HSH.out w _ HX.out U4.out).mono ?_
      rintro e w9 ⟨rfl, u9⟩
      go_wp2_with fail
      go_ret
      exact bop_ret rfl u9
  · have hz1 : (z != 0) = true := by rw [bne_iff_ne]; exact hz
    clear hz
    go_wp2_with fail
    refine (works5 HSH.out w _ HX.out U4.out).mono ?_
    rintro e w9 ⟨rfl, u9⟩
    go_wp2_with fail
    go_ret
    exact bop_ret rfl u9
end Go.Proofs.Ytoejegndbcbkmaa
/-
  The law ShapeNil.
-/
namespace Go.Proofs.Ytoejegndbcbkmaa
open Go.RowKit

/-! ### a tower, a row -/
def tow : Nat → Tr
  | 0 => (ndk 22, .nil)
  | i + 1 => (ndk 27, .cons (tow i).1 (tow i).2 .nil)
def opn : Tr := (⟨76, 0, ⟨#[97]⟩, emp5⟩, .nil)
def rowK : Nat → Fr
  | 0 => .nil
  | k + 1 => (rowK k).app (.cons opn.1 opn.2 .nil)
def wid (k : Nat) : Tr := (ndk 80, rowK k)
theorem tow_sz : ∀ i, szT (tow i) = i + 1
  | 0 => rfl
  | i + 1 => by
    have := tow_sz i
    show 1 + (1 + (tow i).2.sz + 0) = _
    unfold szT at this
    omega
theorem tow_dp : ∀ i, dpT (tow i) = i + 1
  | 0 => rfl
  | i + 1 => by
    have := tow_dp i
    show 1 + (max (1 + (tow i).2.dp) 0) = _
    unfold dpT at this
    omega
theorem tow_is : ∀ i, isT B.nck B.long (tow i) 2 = true
  | 0 => by decide
  | i + 1 => by
    refine isX_row.2 ⟨⟨2, 27, [], [], 0, 0, [101]⟩, by simp [RWS], fitR_is.2 ⟨rfl, rfl, rfl, rfl, (Int.le_refl 0 : (0 : Int) ≤ 0), (Int.le_refl 0 : (0 : Int) ≤ 0), ?_⟩⟩
    show (isT B.nck B.long (tow i) 2 && true) = true
    rw [tow_is i]
    rfl
theorem tow_ok : ∀ i, okST (tow i)
  | 0 => ⟨by decide, by decide, trivial⟩
  | i + 1 => ⟨(Nat.zero_le _ : 0 ≤ 1000000000), (Nat.zero_le _ : 0 ≤ 1000000000), (tow_ok i).1, (tow_ok i).2.1, (tow_ok i).2.2, trivial⟩
theorem rowK_len : ∀ k, (rowK k).len = k
  | 0 => rfl
  | k + 1 => by rw [rowK, Fr.len_app, rowK_len k]; rfl
theorem rowK_sz : ∀ k, (rowK k).sz = k
  | 0 => rfl
  | k + 1 => by rw [rowK, Fr.sz_app, rowK_sz k]; rfl
theorem rowK_dp : ∀ k, (rowK k).dp ≤ 1
  | 0 => by decide
  | k + 1 => by
    rw [rowK, Fr.dp_app]
    have := rowK_dp k
    have h : (Fr.cons opn.1 opn.2 .nil).dp = 1 := rfl
    omega
theorem okS_app : ∀ {a b : Fr}, okS a → okS b → okS (a.app b)
  | .nil, _, _, hb => hb
  | .cons _ _ _, _, ha, hb => ⟨ha.1, ha.2.1, ha.2.2.1, okS_app ha.2.2.2 hb⟩
theorem rowK_ok : ∀ k, okS (rowK k)
  | 0 => trivial
  | k + 1 => okS_app (rowK_ok k) ⟨by decide, by decide, trivial, trivial⟩
theorem opn_ok : starOk 100 (infT B.nck B.long opn) = true := by decide
theorem rowK_all : ∀ k, (infF B.nck B.long (rowK k)).all (starOk 100) = true
  | 0 => rfl
  | k + 1 => by
    rw [rowK, infF_app, List.all_append, rowK_all k]
    show (true && (starOk 100 (infT B.nck B.long opn) && true)) = true
    rw [opn_ok]
    rfl
theorem wid_is (k : Nat) : isT B.nck B.long (wid k) 7 = true := by
  refine isX_row.2 ⟨⟨7, 80, [], [], 0, 0, [42, 100]⟩, by simp [RWS], fitR_is.2 ⟨rfl, rfl, rfl, rfl, (Int.le_refl 0 : (0 : Int) ≤ 0), (Int.le_refl 0 : (0 : Int) ≤ 0), ?_⟩⟩
  show seqOk (infF B.nck B.long (rowK k)) [42, 100] = true
  rw [seq_star, rowK_all]
theorem tow_chk (i : Nat) (h : i ≤ 100) : chk B.nck B.long (some (tow i)) 2 = if 60 < i + 1 then 7 else 0 := by
  unfold chk
  simp only
  rw [if_neg (by rw [tow_sz]; omega), tow_dp, if_pos (tow_is i)]
theorem wid_chk (k : Nat) : chk B.nck B.long (some (wid k)) 7 = if 8192 < k + 1 then 3 else 0 := by
  have h1 : szT (wid k) = k + 1 := by show 1 + (rowK k).sz = _; rw [rowK_sz]; omega
  have h2 : ¬ 60 < dpT (wid k) := by have := rowK_dp k; show ¬ 60 < 1 + (rowK k).dp; omega
  unfold chk
  simp only
  rw [h1, if_neg h2, if_pos (wid_is k)]

/-! ### a node with a nil in it -/
def Hole (w : World) (v : Value) : Prop := ∃ q g, v = .pointer (some ⟨q, 0, none⟩) ∧ w.heap[q]? = some (.cells #[.int .i64 27, .int .i64 0, .string ⟨#[]⟩, .string ⟨#[]⟩, .slice (some ⟨g, 0, none⟩) 1 1] 37 (0, 0)) ∧ w.heap[g]? = some (.cells #[.pointer none] 25 (0, 0))
def HolAt (f : FuncId) : Prop := ∀ (W w : World) (v : Value), B.Nx W → Hole W v → Up W w → Calls Try.prog f #[v] w (InP 1 W)
structure HolAll : Prop where
  h1 : HolAt 21
  h2 : HolAt 13
  h3 : HolAt 22
  h4 : HolAt 23
  h5 : HolAt 24
  h6 : HolAt 25
  h7 : HolAt 14
theorem all_hole (S : HolAll) (W w : World) (v : Value) (hx : B.Nx W) (hv : Hole W v) (hu : Up W w) :
    Calls Try.prog 10 #[v] w (AllP (fun _ => 1) W) :=
  all_gen (fun _ => 1) W w v (fun w' h => S.h1 W w' v hx hv h) (fun w' h => S.h2 W w' v hx hv h) (fun w' h => S.h3 W w' v hx hv h) (fun w' h => S.h4 W w' v hx hv h) (fun w' h => S.h5 W w' v hx hv h) (fun w' h => S.h6 W w' v hx hv h) (fun w' h => S.h7 W w' v hx hv h) hu
theorem tow_more {wr : World} {q p I : Nat} (h : HasT wr (.pointer (some ⟨q, p, none⟩)) (some (tow I))) : HasT ((wr.alloc (.cells #[.pointer (some ⟨q, p, none⟩)] 25)).alloc (.cells #[.int .i64 27, .int .i64 0, .string ⟨#[]⟩, .string ⟨#[]⟩, .slice (some ⟨wr.heap.size, 0, none⟩) 1 1] 37)) (.pointer (some ⟨wr.heap.size + 1, 0, none⟩)) (some (tow (I + 1))) := by
  have u : Up wr ((wr.alloc (.cells #[.pointer (some ⟨q, p, none⟩)] 25)).alloc (.cells #[.int .i64 27, .int .i64 0, .string ⟨#[]⟩, .string ⟨#[]⟩, .slice (some ⟨wr.heap.size, 0, none⟩) 1 1] 37)) := ((Up.refl wr).alloc _).alloc _
  have s1 := size_new wr (.cells #[.pointer (some ⟨q, p, none⟩)] 25) rfl
  have a1 := old_at (o' := .cells #[.int .i64 27, .int .i64 0, .string ⟨#[]⟩, .string ⟨#[]⟩, .slice (some ⟨wr.heap.size, 0, none⟩) 1 1] 37) (at_new wr (.cells #[.pointer (some ⟨q, p, none⟩)] 25) rfl)
  have a2 := at_new (wr.alloc (.cells #[.pointer (some ⟨q, p, none⟩)] 25)) (.cells #[.int .i64 27, .int .i64 0, .string ⟨#[]⟩, .string ⟨#[]⟩, .slice (some ⟨wr.heap.size, 0, none⟩) 1 1] 37) s1
  exact node5 (x := ndk 27) (f := .cons (tow I).1 (tow I).2 .nil) a2 rfl (Nat.le_refl _) (heap_lt a2) (heap_lt a1) ⟨⟨_, cell_of_row _ wr.heap.size 0 _ _ _ a1, h.up u⟩, trivial⟩
/-- The row that the second loop makes. -/
def WidRel (w1 : World) (Mb J : Nat) (vk : Value) (ps : List Value) (wr : World) : Prop :=
  wr.ownsRow (Mb + 1) 25 1 vk (rowK J).len ps ∧ PtF wr (Sk No Mb wr vk) ps (rowK J) ∧ Nb wr Mb (ndk 80) vk ∧ Below Mb w1 wr ∧ vk.ownBlock ≠ some Mb ∧ (∀ g, vk.ownBlock = some g → Mb + 1 ≤ g)
theorem WidRel.has {w1 wr : World} {Mb J : Nat} {vk : Value} {ps : List Value} (h : WidRel w1 Mb J vk ps wr) : HasT wr (.pointer (some ⟨Mb, 0, none⟩)) (some (wid J)) := by
  obtain ⟨ho, hp, hn, hb, hv, hl⟩ := h
  have hg : ∀ g, vk.ownBlock = some g → g < wr.heap.size := fun g h => (ho.lt g h).2
  exact OwnT.tree (x := ndk 80) ⟨ps, ho, hp.keep (fun q hq => by rcases hq with h | h; exact h.elim; exact h.2.1) fun _ _ => rfl⟩ hn (heap_lt hn) hg
theorem twelve (x : Int) : ∃ A : Nat, A < 12 ∧ Int.tmod (Int.tmod x 12 + 12) 12 = (A : Int) ∧ IntKind.i64.wrap (Int.tmod x 12) = Int.tmod x 12 ∧ IntKind.i64.wrap (Int.tmod x 12 + 12) = Int.tmod x 12 + 12 := by
  obtain ⟨h0, h1⟩ := tmod_fit (x := x) (n := 12) (by decide)
  have h2 := Int.lt_tmod_of_pos x (b := 12) (by decide)
  have h3 := Int.tmod_lt_of_pos x (b := 12) (by decide)
  refine ⟨(Int.tmod (Int.tmod x 12 + 12) 12).toNat, by omega, by omega, w64 _ (by omega), w64 _ (by omega)⟩
set_option maxHeartbeats 12800000 in
set_option maxRecDepth 100000 in
theorem lawNil (S : ShpAll) (SH : HolAll) (x y : Int) (w : World) (hx : B.Nx w) : Calls Try.prog 4 #[.int .i64 x, .int .i64 y] w (BoP true w) := by
  obtain ⟨A, hA, a1, a2, a3⟩ := twelve x
  obtain ⟨B', hB, b1, b2, b3⟩ := twelve y
  have a4 : IntKind.i64.wrap (A : Int) = A := w64 _ (by omega)
  have b4 : IntKind.i64.wrap (B' : Int) = B' := w64 _ (by omega)
  obtain ⟨D, hD⟩ : ∃ D, 54 + A = D := ⟨_, rfl⟩
  obtain ⟨K, hK⟩ : ∃ K, 8184 + B' = K := ⟨_, rfl⟩
  have a5 : (55 : Int) + (A : Int) = (D : Int) + 1 := by omega
  have b5 : (8185 : Int) + (B' : Int) = (K : Int) + 1 := by omega
  have a6 : IntKind.i64.wrap ((D : Int) + 1) = (D : Int) + 1 := w64 _ (by omega)
  have b6 : IntKind.i64.wrap ((K : Int) + 1) = (K : Int) + 1 := w64 _ (by omega)
  have a7 : IntKind.i64.wrap (D : Int) = D := w64 _ (by omega)
  have b7 : IntKind.i64.wrap (K : Int) = K := w64 _ (by omega)
  have hD2 : D < 66 := by omega
  have hK2 : K < 8196 := by omega
  have HX := Lib.hid hx
  have HSH := Lib.hid S
  have HSO := Lib.hid SH
  have hl0 : HasT (w.alloc (.cells #[.int .i64 22, .int .i64 0, .string ⟨#[]⟩, .string ⟨#[]⟩, .slice none 0 0] 37)) (.pointer (some ⟨w.heap.size, 0, none⟩)) (some (tow 0)) := leaf5 (x := ndk 22) (heap_alloc_new w _) (by simp)
  have u0 : Up w (w.alloc (.cells #[.int .i64 22, .int .i64 0, .string ⟨#[]⟩, .string ⟨#[]⟩, .slice none 0 0] 37)) := (Up.refl w).alloc _
  have HL0 := Lib.hid hl0
  have U0 := Lib.hid u0
  clear hx S SH hA hB hD hK hl0 u0
  go_enter Try.func4, Try.ntmps4
  go_wp2_with fail
  go_loopw [5, 25] (fun v i wr => ∃ (I q p : Nat), i = .int .i64 I ∧ v = .pointer (some ⟨q, p, none⟩) ∧ I ≤ D ∧ HasT wr v (some (tow I)) ∧ Up w wr) (fun _ i _ => D - (intOf i).toNat)
  case atStart => exact ⟨0, _, _, rfl, rfl, Nat.zero_le _, HL0.out, U0.out⟩
  case round =>
    obtain ⟨I, q, p, rfl, rfl, hI, hT, hur⟩ := hrel
    have HT := Lib.hid hT
    have HUR := Lib.hid hur
    clear hT hur
    by_cases hlt : I < D
    · have hiz : (I : Int) < (D : Int) := by omega
      go_wp2_with fail
      go_roundw
      case rel => exact ⟨I + 1, _, _, by go_num, rfl, by omega, tow_more HT.out, (HUR.out.alloc _).alloc _⟩
      case measure => simp [intOf]; omega
    · have hiz : ¬ (I : Int) < (D : Int) := by omega
      have hID : I = D := by omega
      have HT : Hid (HasT wr (.pointer (some ⟨q, p, none⟩)) (some (tow D))) := Lib.hid (hID ▸ HT.out)
      clear hID
      obtain ⟨Mb, hMb⟩ : ∃ Mb, wr.heap.size = Mb := ⟨_, rfl⟩
      have hn0 : Nb (wr.alloc (.cells #[.int .i64 80, .int .i64 0, .string ⟨#[]⟩, .string ⟨#[]⟩, .slice none 0 0] 37)) Mb (ndk 80) (.slice none 0 0) := at_new wr _ hMb
      have hw0 : WidRel wr Mb 0 (.slice none 0 0) [] (wr.alloc (.cells #[.int .i64 80, .int .i64 0, .string ⟨#[]⟩, .string ⟨#[]⟩, .slice none 0 0] 37)) :=
        ⟨World.ownsRow_nil _ _ _ _, trivial, hn0, (Below.refl Mb wr).alloc (by omega) _, by simp [Value.ownBlock], by intro g hg; simp [Value.ownBlock] at hg⟩
      have HW0 := Lib.hid hw0
      have HMB := Lib.hid hMb
      clear hn0 hw0
      obtain ⟨i0, hi, hz0, hz1, hz2⟩ := info_parts infoPtr
      go_wp2_with fail
      rename World => wa
      go_loopw [36] (fun i w2 => ∃ (J : Nat) (vk : Value) (ps : List Value), i = .int .i64 J ∧ J ≤ K ∧ WidRel wa Mb J vk ps w2) (fun i _ => K - (intOf i).toNat)
      case atStart => exact ⟨0, _, _, rfl, Nat.zero_le _, HW0.out⟩
      case round =>
        obtain ⟨J, vk, ps, rfl, hJ, hrel⟩ := hrel
        by_cases hlt2 : J < K
        · have hjz : (J : Int) < (K : Int) := by omega
          obtain ⟨ho, hp, hn, hb, hv, hvl⟩ := hrel
          rw [rowK_len] at ho
          have hHr : Mb < wr.heap.size := heap_lt hn
          have cn := hn.cell.1
          have ua : Up wr (wr.alloc (.cells #[.int .i64 76, .int .i64 0, .string ⟨#[97]⟩, .string ⟨#[]⟩, .slice none 0 0] 37)) := (Up.refl wr).alloc _
          have hq := at_new wr (.cells #[.int .i64 76, .int .i64 0, .string ⟨#[97]⟩, .string ⟨#[]⟩, .slice none 0 0] 37) rfl
          obtain ⟨w3, hw3⟩ : ∃ w3, wr.alloc (.cells #[.int .i64 76, .int .i64 0, .string ⟨#[97]⟩, .string ⟨#[]⟩, .slice none 0 0] 37) = w3 := ⟨_, rfl⟩
          have hs3 := size_new wr (.cells #[.int .i64 76, .int .i64 0, .string ⟨#[97]⟩, .string ⟨#[]⟩, .slice none 0 0] 37) rfl
          rw [hw3] at ua hq hs3
          have ho3 := own_below ho ua
          have hn3 : Nb w3 Mb (ndk 80) vk := ua.row hn
          have hp3 : PtF w3 (Sk No Mb w3 vk) ps (rowK J) := hp.keep (by
            rintro q' (h | ⟨h1, h2, h3⟩)
            · exact h.elim
            · exact .inr ⟨h1, by omega, h3⟩) fun b hb => ua.block b (by
            rcases hb with h | h
            · exact h.elim
            · exact h.2.1)
          have hu3 : InT w3 (Sk No Mb w3 vk) (.pointer (some ⟨wr.heap.size, 0, none⟩)) opn := leaf5 (x := ⟨76, 0, ⟨#[97]⟩, emp5⟩) hq (.inr ⟨hHr, by omega, fun he => by have := (ho.lt _ he).2; omega⟩)
          have hb3 : Below Mb wa w3 := hb.trans (Below.mono ua (Nat.le_of_lt hHr))
          obtain ⟨Q, hQ⟩ : ∃ Q, wr.heap.size = Q := ⟨_, rfl⟩
          rw [hQ] at hu3 hs3 hHr
          have HS3 := Lib.hid hs3
          have HO3 := Lib.hid ho3
          have HN3 := Lib.hid hn3
          have HP3 := Lib.hid hp3
          have HU3 := Lib.hid hu3
          have HB3 := Lib.hid hb3
          have HV := Lib.hid hv
          have HVL := Lib.hid hvl
          clear ho hp hn hb hv hvl ua hq ho3 hn3 hp3 hu3 hb3 hs3
          go_wp2_with (at_builtin; (refine wpList_append_own_at _ rfl _ _ 35 rfl (Mb + 1) 25 i0 (.pointer none) 1 8 Try.underlying35 hi hz0 hz1 hz2 rfl (by decide) vk J ps rfl (HO3.out.alloc _) ⟨w3.heap.size, 0, none⟩ 1 1 [.pointer (some ⟨Q, 0, none⟩)] rfl rfl (cell_one_new _ _ _) (fun x hx => by simp at hx; subst hx; rfl) (by unfold maxLen; omega) (by omega) (by have := HS3.out; simp; omega) ?_); intro v' w4 hown4 hgrow4 _ hat4; have HOWN4 := Lib.hid hown4; have HG4 := Lib.hid hgrow4; have HAT4 := Lib.hid hat4; have hn4 := (HN3.out.far HG4.out HV.out); have hc4 := hn4.cell.1; have hf4 := hn4.cell.2; obtain ⟨g4, cap4, hv4, _, _⟩ := hown4.form (by omega); subst hv4; clear hown4 hgrow4 hat4 hn4)
          have hmore := kid_more (w := wa) (t := opn) (no_bel Mb) HB3.out HN3.out HP3.out HV.out HU3.out (by rw [rowK_len]; exact HOWN4.out) HG4.out (by have := HAT4.out; simpa using this) HVL.out
          have HMORE := Lib.hid hmore
          clear hmore
          go_roundw
          case rel =>
            obtain ⟨⟨ps', ho', hp'⟩, hn', hb', hv1, hv2⟩ := HMORE.out
            exact ⟨J + 1, _, ps', by go_num, by omega, ho', hp', hn', hb', hv1, hv2⟩
          case measure => simp [intOf]; omega
        · have hjz : ¬ (J : Int) < (K : Int) := by omega
          have hJK : J = K := by omega
          have HMM : Hid (HasT wr (.pointer (some ⟨Mb, 0, none⟩)) (some (wid K))) := Lib.hid (hJK ▸ hrel.has)
          have UM : Hid (Up wa wr) := Lib.hid (show Below wa.heap.size wa wr from by rw [HMB.out]; exact hrel.2.2.2.1)
          clear hrel hJK
          have HTT := Lib.hid (HT.out.up UM.out)
          have UW := Lib.hid (HUR.out.trans UM.out)
          have c2 := fun w' (h : Up wr w') => HSH.out.h2 (some (tow D)) (by show szT _ ≤ _; rw [tow_sz]; omega) (fun t ht => by injection ht with ht; subst ht; exact tow_ok D) wr w' _ (Nx.up HX.out UW.out) HTT.out h
          have c7 := fun w' (h : Up wr w') => HSH.out.h7 (some (wid K)) (by show 1 + (rowK K).sz ≤ _; rw [rowK_sz]; omega) (fun t ht => by injection ht with ht; subst ht; exact ⟨Nat.zero_le _, Nat.zero_le _, rowK_ok K⟩) wr w' _ (Nx.up HX.out UW.out) HMM.out h
          rw [tow_chk D (by omega)] at c2
          rw [wid_chk K] at c7
          have cN := all_any HSH.out none (Nat.zero_le _) (fun t ht => by cases ht) wr wr (.pointer none) (Nx.up HX.out UW.out) rfl (Up.refl _)
          have HCN := Lib.hid cN
          have hcs : ((60 : Int) < (D : Int) + 1 ∧ (if 60 < D + 1 then (7 : Int) else 0) = 7 ∨ ¬ (60 : Int) < (D : Int) + 1 ∧ (if 60 < D + 1 then (7 : Int) else 0) = 0) := by
            by_cases h : 60 < D + 1
            · exact .inl ⟨by omega, if_pos h⟩
            · exact .inr ⟨by omega, if_neg h⟩
          have hks : ((8192 : Int) < (K : Int) + 1 ∧ (if 8192 < K + 1 then (3 : Int) else 0) = 3 ∨ ¬ (8192 : Int) < (K : Int) + 1 ∧ (if 8192 < K + 1 then (3 : Int) else 0) = 0) := by
            by_cases h : 8192 < K + 1
            · exact .inl ⟨by omega, if_pos h⟩
            · exact .inr ⟨by omega, if_neg h⟩
          rcases hcs with ⟨d1, d2⟩ | ⟨d1, d2⟩ <;> rcases hks with ⟨k1, k2⟩ | ⟨k1, k2⟩
          all_goals
            rw [d2] at c2
            rw [k2] at c7
            have C2 := Lib.hid c2
            have C7 := Lib.hid c7
            clear c2 c7 d2 k2 cN
            go_wp2_with fail
            refine HCN.out.mono ?_
            rintro e w5 ⟨g, rfl, hcells, u5⟩
            have HC := Lib.hid hcells
            have U5 := Lib.hid u5
            clear hcells u5
            go_wp2_with fail
            rename World => wb
            go_loopw [9, 10, 56] (fun _ _ i w6 => ∃ I : Nat, i = .int .i64 I ∧ I ≤ 7 ∧ Up wb w6) (fun _ _ i _ => 7 - (intOf i).toNat)
            case atStart => exact ⟨0, rfl, by omega, Up.refl _⟩
            case round =>
              obtain ⟨I3, rfl, hI3, hur3⟩ := hrel
              have HUR3 := Lib.hid hur3
              clear hur3
              by_cases hlt3 : I3 < 7
              · have hiz3 : (I3 : Int) < 7 := by omega
                have hcell := HUR3.out.cell (HC.out I3 hlt3)
                have hch : chk B.nck B.long none ((I3 : Int) + 1) = 1 := rfl
                rw [hch] at hcell
                have u7 : Up wr ((wr.alloc (.cells #[.pointer none] 25)).alloc (.cells #[.int .i64 27, .int .i64 0, .string ⟨#[]⟩, .string ⟨#[]⟩, .slice (some ⟨wr.heap.size, 0, none⟩) 1 1] 37)) := ((Up.refl wr).alloc _).alloc _
                have hol : Hole ((wr.alloc (.cells #[.pointer none] 25)).alloc (.cells #[.int .i64 27, .int .i64 0, .string ⟨#[]⟩, .string ⟨#[]⟩, .slice (some ⟨wr.heap.size, 0, none⟩) 1 1] 37)) (.pointer (some ⟨wr.heap.size + 1, 0, none⟩)) :=
                  ⟨_, wr.heap.size, rfl, at_new _ _ (size_new wr _ rfl), old_at (at_new wr _ rfl)⟩
                have cH := all_hole HSO.out _ _ _ (Nx.up HX.out (UW.out.trans (U5.out.trans (HUR3.out.trans u7)))) hol (Up.refl _)
                have CH := Lib.hid cH
                have U7 := Lib.hid u7
                clear cH u7 hol hch
                go_wp2_with fail
                refine CH.out.mono ?_
                rintro e w8 ⟨g8, rfl, hc8, u8⟩
                have hcell8 : w8.cell? ⟨g8, I3, none⟩ = some (.int .i64 1) := hc8 I3 hlt3
                have U8 := Lib.hid (HUR3.out.trans (U7.out.trans u8))
                clear hc8 u8
                go_wp2_with fail
                go_roundw
                case rel => exact ⟨I3 + 1, by go_num, by omega, U8.out⟩
                case measure => simp [intOf]; omega
              · have hiz3 : ¬ (I3 : Int) < 7 := by omega
                go_wp2_with fail
                refine (C2.out _ (U5.out.trans HUR3.out)).mono ?_
                rintro e x1 ⟨rfl, y1⟩
                go_wp2_with fail
                refine (C7.out _ y1).mono ?_
                rintro e x2 ⟨rfl, y2⟩
                go_wp2_with fail
                refine (works5 HSH.out w _ HX.out (UW.out.trans y2)).mono ?_
                rintro e x3 ⟨rfl, y3⟩
                go_wp2_with fail
                go_ret
                exact bop_ret rfl y3
end Go.Proofs.Ytoejegndbcbkmaa
