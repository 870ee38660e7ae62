/-
  LexerShows: the walk.
-/
import Derived.Test.YteennkekpblccaaGreatDoorRefM
import Derived.Test.YteennkekpblccaaGreatDoorRefT
namespace Go.Proofs.YteennkekpblccaaGreatDoor
open Go.RowKit

/-- A text's first bytes, as the law cuts it. -/
def cutS (s : ByteArray) : ByteArray := if s.size ≤ 140 then s else s.extract 0 140
def cutT (t : RTok) : RTok := ⟨t.k, cutS t.s, t.n, t.a⟩
theorem cutS_size (s : ByteArray) : (cutS s).size ≤ 140 := by
  unfold cutS
  split
  · assumption
  · rw [ByteArray.size_extract]; omega
def rcl (t : RTok) : List Value := [.int .i64 t.k, .string t.s, .int .i64 t.n, .int .i64 t.a]
def rcel : List RTok → List Value
  | [] => []
  | t :: r => rcl t ++ rcel r
theorem rcel_len (l : List RTok) : (rcel l).length = l.length * 4 := by
  induction l with
  | nil => rfl
  | cons t r ih => show (rcl t ++ rcel r).length = _; rw [List.length_append, ih, List.length_cons]; show 4 + _ = _; omega
theorem rcel_app (a b : List RTok) : rcel (a ++ b) = rcel a ++ rcel b := by
  induction a with
  | nil => rfl
  | cons t r ih => show rcl t ++ rcel (r ++ b) = _; rw [ih, ← List.append_assoc]; rfl
theorem rcel_at {l : List RTok} {j : Nat} {t : RTok} (h : l[j]? = some t) {i : Nat} {u : Value} (hu : (rcl t)[i]? = some u) : (rcel l)[j * 4 + i]? = some u := by
  have hi : i < 4 := (List.getElem?_eq_some_iff.1 hu).1
  induction l generalizing j with
  | nil => simp at h
  | cons x r ih =>
    show (rcl x ++ rcel r)[j * 4 + i]? = _
    cases j with
    | zero =>
      simp at h; subst h
      rw [Nat.zero_mul, Nat.zero_add, List.getElem?_append_left (by exact hi)]
      exact hu
    | succ j =>
      rw [List.getElem?_append_right (by show 4 ≤ _; omega)]
      have : (j + 1) * 4 + i - (rcl x).length = j * 4 + i := by show _ - 4 = _; omega
      rw [this]
      exact ih (by simpa using h)
theorem RTks.own {w : World} {base : Nat} {e : TypeId} {v : Value} {n : Nat} {l : List RTok} (h : w.ownsRow base e 4 v n (rcel l)) : RTks w w.heap.size v l := by
  have hn : l.length = n := by have := h.1; rw [rcel_len] at this; omega
  subst hn
  by_cases h0 : 0 < l.length
  · obtain ⟨g, cap, hv, _, hlt⟩ := h.form h0
    refine ⟨some ⟨g, 0, none⟩, cap, hv, fun j t ht => ⟨_, rfl, hlt, ?_⟩⟩
    have hc : ∀ i u, (rcl t)[i]? = some u → w.cell? (((⟨g, 0, none⟩ : Addr).add (j * 4)).add i) = some u := fun i u hu => by
      rw [addAdd]; exact h.cells (g := g) (by rw [hv]; rfl) _ _ (rcel_at ht hu)
    exact ⟨hc 0 _ rfl, hc 1 _ rfl, hc 2 _ rfl, hc 3 _ rfl⟩
  · have hl : l = [] := List.eq_nil_of_length_eq_zero (by omega)
    subst hl
    rcases h.2 with ⟨hv, _⟩ | ⟨g, cap, cur, hv, _⟩
    · exact ⟨none, 0, hv, fun j u hu => by simp at hu⟩
    · exact ⟨_, cap, hv, fun j u hu => by simp at hu⟩

set_option maxHeartbeats 12800000 in
set_option maxRecDepth 100000 in
theorem lawShows (v : Value) (l : List RTok) (n : Int) (w : World) (hl : l.length ≤ 9223372036854775807) (hn : -9223372036854775808 ≤ n ∧ n ≤ 9223372036854775807) (ht : RTks w w.heap.size v l) (hsz : ∀ t ∈ l, t.s.size ≤ 9223372036854775807) (hL : Lx w) :
    Calls Tryz.prog 3 #[v, .int .i64 n] w (Yes w) := by
  obtain ⟨A, c, rfl, hA⟩ := ht
  have HA := Lib.hid hA
  have HX := Lib.hid hsz
  clear hA hsz
  obtain ⟨N, hN⟩ : ∃ N, l.length = N := ⟨_, rfl⟩
  rw [hN] at hl ⊢
  have HN := Lib.hid hN
  clear hN
  obtain ⟨i0, hi, hz0, hz1, hz2⟩ := info_parts infoTok
  go_enter Tryz.func3, Tryz.ntmps3
  go_wp2_with fail
  go_loopw [5, 6, 7] (fun z i _ wr => ∃ k : Nat, k ≤ N ∧ k ≤ 20 ∧ i = .int .i64 (k : Int) ∧ Below w.heap.size w wr ∧ wr.ownsRow w.heap.size 24 4 z k (rcel ((l.take k).map cutT))) (fun _ i _ _ => 20 - (intOf i).toNat)
  case atStart => exact ⟨0, Nat.zero_le _, Nat.zero_le _, rfl, Below.refl _ _, ⟨rfl, .inl ⟨rfl, rfl⟩⟩⟩
  case round =>
    obtain ⟨k, hk, hk20, rfl, hbw, hown⟩ := hrel
    have HOWN := Lib.hid hown
    have HBW := Lib.hid hbw
    have hszr := hbw.size
    clear hown
    by_cases hlt20 : k < 20
    · have hz20 : (k : Int) < 20 := by omega
      by_cases hlt : k < N
      · have hzN : (k : Int) < (N : Int) := by omega
        obtain ⟨x, hx⟩ : ∃ x, l[k]? = some x := ⟨_, List.getElem?_eq_getElem (by rw [HN.out]; exact hlt)⟩
        obtain ⟨ad, rfl, hadB, hat⟩ := HA.out k x hx
        have hat2 := hat.below hbw (by rw [addBlock]; exact hadB)
        have hxs := HX.out x (List.mem_of_getElem? hx)
        have htk : (l.take (k + 1)).map cutT = (l.take k).map cutT ++ [cutT x] := by rw [List.take_add_one, hx, List.map_append]; rfl
        have HTK := Lib.hid htk
        clear hat hx htk hbw hadB
        obtain ⟨K, X, M, P⟩ := x
        dsimp only at hat2 hxs
        obtain ⟨p0, p1, p2, p3⟩ := hat2
        obtain ⟨⟨q0, q1, q2, q3⟩, f0, f1, f2, f3⟩ := (Rc.newc wr #[.int .i64 K, .string X, .int .i64 M, .int .i64 P]).cells
        by_cases h140 : X.size ≤ 140
        · have HC : Hid (cutS X = X) := Lib.hid (by unfold cutS; rw [if_pos h140])
          have hz : (X.size : Int) ≤ 140 := by omega
          have hm : min (X.size : Int) 140 = (X.size : Int) := by omega
          have hm2 : min X.size 140 = X.size := by omega
          go_wp2_with (at_builtin; (refine wpList_append_own _ rfl _ _ 22 rfl w.heap.size 24 i0 (.agg #[.int .i64 0, .string ⟨#[]⟩, .int .i64 0, .int .i64 0]) 4 40 Tryz.underlying22 hi hz0 hz1 hz2 rfl (by decide) _ _ _ rfl ((HOWN.out.alloc _).alloc _) ⟨wr.heap.size + 1, 0, none⟩ 1 1 [.int .i64 K, .string X, .int .i64 M, .int .i64 P] rfl rfl (cell_four_new _ _ _ _ _ _ _) (one_four rfl rfl rfl rfl) (by unfold maxLen; omega) (by omega) (by simp; omega) ?_); intro v' w5 hown5 hgrow5 _)
          have hbel := ((HBW.out.alloc hszr _).alloc (by simp; omega) _).grown hgrow5 (by simp; omega) (fun g hg => (HOWN.out.lt g hg).1)
          have HBEL := Lib.hid hbel
          have HOWN5 := Lib.hid hown5
          clear hbel hown5 hgrow5
          go_roundw
          case rel =>
            refine ⟨k + 1, by omega, by omega, by go_num, HBEL.out, ?_⟩
            rw [HTK.out, rcel_app]
            have e : rcel [cutT ⟨K, X, M, P⟩] = [.int .i64 K, .string X, .int .i64 M, .int .i64 P] := by
              show rcl _ ++ [] = _
              rw [List.append_nil]
              unfold rcl cutT
              dsimp only
              rw [HC.out]
            rw [e]
            exact HOWN5.out
          case measure => simp [intOf]; omega
        · obtain ⟨CUT, hcut⟩ : ∃ C, X.extract 0 140 = C := ⟨_, rfl⟩
          have HC : Hid (cutS X = CUT) := Lib.hid (by unfold cutS; rw [if_neg h140, hcut])
          have hz : ¬ (X.size : Int) ≤ 140 := by omega
          have h140z : (140 : Int) ≤ (X.size : Int) := by omega
          have hm : min (X.size : Int) 140 = 140 := by omega
          go_wp2_with (at_builtin; (refine wpList_append_own _ rfl _ _ 22 rfl w.heap.size 24 i0 (.agg #[.int .i64 0, .string ⟨#[]⟩, .int .i64 0, .int .i64 0]) 4 40 Tryz.underlying22 hi hz0 hz1 hz2 rfl (by decide) _ _ _ rfl ((HOWN.out.alloc _).alloc _) ⟨wr.heap.size + 1, 0, none⟩ 1 1 [.int .i64 K, .string CUT, .int .i64 M, .int .i64 P] rfl rfl (cell_four_new _ _ _ _ _ _ _) (one_four rfl rfl rfl rfl) (by unfold maxLen; omega) (by omega) (by simp; omega) ?_); intro v' w5 hown5 hgrow5 _)
          have hbel := ((HBW.out.alloc hszr _).alloc (by simp; omega) _).grown hgrow5 (by simp; omega) (fun g hg => (HOWN.out.lt g hg).1)
          have HBEL := Lib.hid hbel
          have HOWN5 := Lib.hid hown5
          clear hbel hown5 hgrow5
          go_roundw
          case rel =>
            refine ⟨k + 1, by omega, by omega, by go_num, HBEL.out, ?_⟩
            rw [HTK.out, rcel_app]
            have e : rcel [cutT ⟨K, X, M, P⟩] = [.int .i64 K, .string CUT, .int .i64 M, .int .i64 P] := by
              show rcl _ ++ [] = _
              rw [List.append_nil]
              unfold rcl cutT
              dsimp only
              rw [HC.out]
            rw [e]
            exact HOWN5.out
          case measure => simp [intOf]; omega
      · have hzN : ¬ (k : Int) < (N : Int) := by omega
        obtain ⟨R, hR⟩ : ∃ R, (l.take k).map cutT = R := ⟨_, rfl⟩
        have hRl : R.length ≤ 20 := by rw [← hR, List.length_map, List.length_take]; omega
        have hRx : ∀ t ∈ R, t.s.size ≤ 140 := by
          intro t ht
          rw [← hR] at ht
          obtain ⟨y, _, rfl⟩ := List.mem_map.1 ht
          exact cutS_size y.s
        have hRj := shB_size hRx R.length (Nat.le_refl _)
        rw [List.take_length] at hRj
        have hrt := RTks.own (l := R) (by rw [← hR]; exact HOWN.out)
        obtain ⟨A', c', hv⟩ : ∃ A' c', u5 = .slice A' R.length c' := by obtain ⟨A', c', hv, _⟩ := hrt; exact ⟨A', c', hv⟩
        subst hv
        have hL1 := hL.below hbw
        have c1 := show_any _ R _ (by omega) (fun t ht => by have := hRx t ht; omega) (by have h : (shB R).size = (Lib.join (R.map fun t => t.s.data.toList) [32]).length := rfl; omega) wr hL1 hrt (Nat.le_refl _)
        have c2 := fun W (hb : Below wr.heap.size wr W) => show_ref _ R _ hRl hRx W (hrt.below hb) hb.size
        unfold ShowPost at c1 c2
        obtain ⟨Y, hY⟩ : ∃ Y, (if R.all tld then shB R else ⟨#[]⟩) = Y := ⟨_, rfl⟩
        obtain ⟨Z, hZ⟩ : ∃ Z : Int, (if R.all tld then 0 else 2) = Z := ⟨_, rfl⟩
        rw [hY, hZ] at c1 c2
        have c3 := fun W (hL : Lx W) => number_txt n hn.1 hn.2 W hL
        have c4 := fun W => refNumber n.natAbs n (Nat.le_refl _) hn.1 hn.2 W
        obtain ⟨V, hV⟩ : ∃ V, T (numb n) = V := ⟨_, rfl⟩
        rw [hV] at c3 c4
        have C1 := Lib.hid c1
        have C2 := Lib.hid c2
        have C3 := Lib.hid c3
        have C4 := Lib.hid c4
        clear hR hRl hRx hRj hrt c1 c2 c3 c4 hY hZ hV
        go_wp2_with fail
        refine C1.out.mono ?_
        rintro e w2 ⟨rfl, hb2⟩
        have HB2 := Lib.hid hb2
        have hl2 := hL1.below hb2
        have hs2 := hb2.size
        clear hb2
        go_wp2_with fail
        refine (C2.out _ HB2.out).mono ?_
        rintro e w3 ⟨rfl, hb3⟩
        have HB3 := Lib.hid hb3
        have hl3 := hl2.below hb3
        have hs3 := hb3.size
        clear hb3
        go_wp2_with fail
        refine (C3.out _ hl3).mono ?_
        rintro e w4 ⟨rfl, hb4⟩
        have HB4 := Lib.hid hb4
        have hl4 := hl3.below hb4
        have hs4 := hb4.size
        clear hb4
        go_wp2_with fail
        refine (C4.out _).mono ?_
        rintro e w5 ⟨rfl, m5, rfl⟩
        have hl5 := hl4.below (below_drewN' (Below.refl _ _) m5)
        go_wp2_with fail
        refine (works_any _ hl5).mono ?_
        rintro e w6 ⟨rfl, hb6⟩
        have hfin := (((HBW.out.trans (HB2.out.mono hszr)).trans (HB3.out.mono (by omega))).trans (HB4.out.mono (by omega))).trans ((below_drewN' (Below.refl _ _) m5).trans (hb6.mono (by show w4.heap.size ≤ w4.heap.size; omega)) |>.mono (by omega))
        go_wp2
        go_ret
        exact ⟨rfl, hfin⟩
    · have hz20 : ¬ (k : Int) < 20 := by omega
      have hk20' : k = 20 := by omega
      by_cases hlt : k < N
      · have hzN : (k : Int) < (N : Int) := by omega
        obtain ⟨R, hR⟩ : ∃ R, (l.take k).map cutT = R := ⟨_, rfl⟩
        have hRl : R.length ≤ 20 := by rw [← hR, List.length_map, List.length_take]; omega
        have hRx : ∀ t ∈ R, t.s.size ≤ 140 := by
          intro t ht
          rw [← hR] at ht
          obtain ⟨y, _, rfl⟩ := List.mem_map.1 ht
          exact cutS_size y.s
        have hRj := shB_size hRx R.length (Nat.le_refl _)
        rw [List.take_length] at hRj
        have hrt := RTks.own (l := R) (by rw [← hR]; exact HOWN.out)
        obtain ⟨A', c', hv⟩ : ∃ A' c', u5 = .slice A' R.length c' := by obtain ⟨A', c', hv, _⟩ := hrt; exact ⟨A', c', hv⟩
        subst hv
        have hL1 := hL.below hbw
        have c1 := show_any _ R _ (by omega) (fun t ht => by have := hRx t ht; omega) (by have h : (shB R).size = (Lib.join (R.map fun t => t.s.data.toList) [32]).length := rfl; omega) wr hL1 hrt (Nat.le_refl _)
        have c2 := fun W (hb : Below wr.heap.size wr W) => show_ref _ R _ hRl hRx W (hrt.below hb) hb.size
        unfold ShowPost at c1 c2
        obtain ⟨Y, hY⟩ : ∃ Y, (if R.all tld then shB R else ⟨#[]⟩) = Y := ⟨_, rfl⟩
        obtain ⟨Z, hZ⟩ : ∃ Z : Int, (if R.all tld then 0 else 2) = Z := ⟨_, rfl⟩
        rw [hY, hZ] at c1 c2
        have c3 := fun W (hL : Lx W) => number_txt n hn.1 hn.2 W hL
        have c4 := fun W => refNumber n.natAbs n (Nat.le_refl _) hn.1 hn.2 W
        obtain ⟨V, hV⟩ : ∃ V, T (numb n) = V := ⟨_, rfl⟩
        rw [hV] at c3 c4
        have C1 := Lib.hid c1
        have C2 := Lib.hid c2
        have C3 := Lib.hid c3
        have C4 := Lib.hid c4
        clear hR hRl hRx hRj hrt c1 c2 c3 c4 hY hZ hV
        go_wp2_with fail
        refine C1.out.mono ?_
        rintro e w2 ⟨rfl, hb2⟩
        have HB2 := Lib.hid hb2
        have hl2 := hL1.below hb2
        have hs2 := hb2.size
        clear hb2
        go_wp2_with fail
        refine (C2.out _ HB2.out).mono ?_
        rintro e w3 ⟨rfl, hb3⟩
        have HB3 := Lib.hid hb3
        have hl3 := hl2.below hb3
        have hs3 := hb3.size
        clear hb3
        go_wp2_with fail
        refine (C3.out _ hl3).mono ?_
        rintro e w4 ⟨rfl, hb4⟩
        have HB4 := Lib.hid hb4
        have hl4 := hl3.below hb4
        have hs4 := hb4.size
        clear hb4
        go_wp2_with fail
        refine (C4.out _).mono ?_
        rintro e w5 ⟨rfl, m5, rfl⟩
        have hl5 := hl4.below (below_drewN' (Below.refl _ _) m5)
        go_wp2_with fail
        refine (works_any _ hl5).mono ?_
        rintro e w6 ⟨rfl, hb6⟩
        have hfin := (((HBW.out.trans (HB2.out.mono hszr)).trans (HB3.out.mono (by omega))).trans (HB4.out.mono (by omega))).trans ((below_drewN' (Below.refl _ _) m5).trans (hb6.mono (by show w4.heap.size ≤ w4.heap.size; omega)) |>.mono (by omega))
        go_wp2
        go_ret
        exact ⟨rfl, hfin⟩
      · have hzN : ¬ (k : Int) < (N : Int) := by omega
        obtain ⟨R, hR⟩ : ∃ R, (l.take k).map cutT = R := ⟨_, rfl⟩
        have hRl : R.length ≤ 20 := by rw [← hR, List.length_map, List.length_take]; omega
        have hRx : ∀ t ∈ R, t.s.size ≤ 140 := by
          intro t ht
          rw [← hR] at ht
          obtain ⟨y, _, rfl⟩ := List.mem_map.1 ht
          exact cutS_size y.s
        have hRj := shB_size hRx R.length (Nat.le_refl _)
        rw [List.take_length] at hRj
        have hrt := RTks.own (l := R) (by rw [← hR]; exact HOWN.out)
        obtain ⟨A', c', hv⟩ : ∃ A' c', u5 = .slice A' R.length c' := by obtain ⟨A', c', hv, _⟩ := hrt; exact ⟨A', c', hv⟩
        subst hv
        have hL1 := hL.below hbw
        have c1 := show_any _ R _ (by omega) (fun t ht => by have := hRx t ht; omega) (by have h : (shB R).size = (Lib.join (R.map fun t => t.s.data.toList) [32]).length := rfl; omega) wr hL1 hrt (Nat.le_refl _)
        have c2 := fun W (hb : Below wr.heap.size wr W) => show_ref _ R _ hRl hRx W (hrt.below hb) hb.size
        unfold ShowPost at c1 c2
        obtain ⟨Y, hY⟩ : ∃ Y, (if R.all tld then shB R else ⟨#[]⟩) = Y := ⟨_, rfl⟩
        obtain ⟨Z, hZ⟩ : ∃ Z : Int, (if R.all tld then 0 else 2) = Z := ⟨_, rfl⟩
        rw [hY, hZ] at c1 c2
        have c3 := fun W (hL : Lx W) => number_txt n hn.1 hn.2 W hL
        have c4 := fun W => refNumber n.natAbs n (Nat.le_refl _) hn.1 hn.2 W
        obtain ⟨V, hV⟩ : ∃ V, T (numb n) = V := ⟨_, rfl⟩
        rw [hV] at c3 c4
        have C1 := Lib.hid c1
        have C2 := Lib.hid c2
        have C3 := Lib.hid c3
        have C4 := Lib.hid c4
        clear hR hRl hRx hRj hrt c1 c2 c3 c4 hY hZ hV
        go_wp2_with fail
        refine C1.out.mono ?_
        rintro e w2 ⟨rfl, hb2⟩
        have HB2 := Lib.hid hb2
        have hl2 := hL1.below hb2
        have hs2 := hb2.size
        clear hb2
        go_wp2_with fail
        refine (C2.out _ HB2.out).mono ?_
        rintro e w3 ⟨rfl, hb3⟩
        have HB3 := Lib.hid hb3
        have hl3 := hl2.below hb3
        have hs3 := hb3.size
        clear hb3
        go_wp2_with fail
        refine (C3.out _ hl3).mono ?_
        rintro e w4 ⟨rfl, hb4⟩
        have HB4 := Lib.hid hb4
        have hl4 := hl3.below hb4
        have hs4 := hb4.size
        clear hb4
        go_wp2_with fail
        refine (C4.out _).mono ?_
        rintro e w5 ⟨rfl, m5, rfl⟩
        have hl5 := hl4.below (below_drewN' (Below.refl _ _) m5)
        go_wp2_with fail
        refine (works_any _ hl5).mono ?_
        rintro e w6 ⟨rfl, hb6⟩
        have hfin := (((HBW.out.trans (HB2.out.mono hszr)).trans (HB3.out.mono (by omega))).trans (HB4.out.mono (by omega))).trans ((below_drewN' (Below.refl _ _) m5).trans (hb6.mono (by show w4.heap.size ≤ w4.heap.size; omega)) |>.mono (by omega))
        go_wp2
        go_ret
        exact ⟨rfl, hfin⟩
end Go.Proofs.YteennkekpblccaaGreatDoor
