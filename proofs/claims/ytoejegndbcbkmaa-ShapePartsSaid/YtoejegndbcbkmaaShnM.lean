/-
  The document's Is and Check: what they tell of trees.
-/
import Derived.Test.YtoejegndbcbkmaaMgI
import Derived.Test.YtoejegndbcbkmaaShwM
namespace Go.Proofs.Ytoejegndbcbkmaa
open Go.RowKit

theorem flat7 : ∀ (L : List Rw) (i : Nat) (R : Rw) (j : Nat), L[i]? = some R → j < 7 → (L.flatMap rcl)[i * 7 + j]? = (rcl R)[j]?
  | [], _, _, _, h, _ => by simp at h
  | x :: L, 0, R, j, h, hj => by
    have : x = R := by simpa using h
    subst this
    rw [List.flatMap_cons, List.getElem?_append_left (by show 0 * 7 + j < 7; omega)]
    simp
  | x :: L, i + 1, R, j, h, hj => by
    rw [List.flatMap_cons, List.getElem?_append_right (by show 7 ≤ (i + 1) * 7 + j; omega)]
    have := flat7 L i R j (by simpa using h) hj
    rw [← this]
    congr 1
    show (i + 1) * 7 + j - 7 = _
    omega
theorem Tbl.cell {w : World} {g I : Nat} {R : Rw} (h : Tbl w g) (hR : RWS[I]? = some R) (j : Nat) (hj : j < 7) : w.cell? ⟨g, I * 7 + j, none⟩ = (rcl R)[j]? := by
  rw [← flat7 RWS I R j hR hj]
  rw [cell_of_row w g (I * 7 + j) _ _ _ h]
  simp [RWC]
theorem row_cells (w : World) (vs : List Value) (e : TypeId) (j : Nat) (v : Value) (hj : vs[j]? = some v) : (w.alloc (.cells vs.toArray e)).cell? ⟨w.heap.size, j, none⟩ = some v := by
  rw [cell_of_row _ w.heap.size j _ _ _ (heap_alloc_new w _)]
  simpa using hj
set_option maxHeartbeats 12800000 in
set_option maxRecDepth 100000 in
theorem is_step (n : Nat) (hn : n ≤ 1000000) (ih : IsAt B.nck B.long n) : IsAt B.nck B.long (n + 1) := by
  rintro ⟨x, ks⟩ hsz ⟨ha, hm, hs⟩ c W w v hv hu
  have hsz2 : szT (x, ks) = 1 + ks.sz := rfl
  have cK := fun (W' : World) (l : List UInt8) (hl : goodW l = true) (v' : Value) (w' : World) (h1 : HasK W' v' ks) (h2 : Up W' w') => kids_any ih hn W' l hl ks v' w' (by omega) hs h1 h2
  obtain ⟨q, p, A, cp, rfl, hq, c0, c1, c2, c3, c4, hc, hkid⟩ := InT.open (x := x) (ks := ks) hv
  have hk : HasK W (.slice A ks.len cp) ks := ⟨A, cp, rfl, hc, fun h0 => by
    obtain ⟨kb, ko, hA, h1, h2⟩ := hkid h0
    exact ⟨kb, ko, hA, h1, h2⟩⟩
  have CK := Lib.hid cK
  have HA := Lib.hid ha
  have HM := Lib.hid hm
  have HU := Lib.hid hu
  have HK := Lib.hid hk
  obtain ⟨N, hN⟩ : ∃ N, ks.len = N := ⟨_, rfl⟩
  rw [hN] at c4 hk
  have HK := Lib.hid hk
  have C0 := Lib.hid c0
  have C1 := Lib.hid c1
  have C2 := Lib.hid c2
  have C3 := Lib.hid c3
  have C4 := Lib.hid c4
  clear cK ha hm hu hk hv hsz hsz2 hkid hc hs hq ih c0 c1 c2 c3 c4 hN
  go_enter Try.func28, Try.ntmps28
  go_wp2_with fail
  refine (rows_any _).mono ?_
  rintro e w1 ⟨g, rfl, hg, htb, hb1⟩
  have HU1 := Lib.hid (HU.out.of hb1)
  have HT := Lib.hid htb
  clear hb1 htb hg
  go_wp2_with fail
  go_loopw [6, 7] (fun i _ wr => ∃ I : Nat, i = .int .i64 I ∧ I ≤ 47 ∧ (∀ (j : Nat) R, j < I → RWS[j]? = some R → fitR B.nck B.long x (infF B.nck B.long ks) c R = false) ∧ Up w1 wr) (fun i _ _ => 47 - (intOf i).toNat)
  case atStart => exact ⟨0, rfl, by omega, fun j x hj => absurd hj (Nat.not_lt_zero _), Up.refl _⟩
  case round =>
    obtain ⟨I, rfl, hI, hall, hur⟩ := hrel
    have HALL := Lib.hid hall
    have HUR := Lib.hid hur
    clear hall hur
    by_cases hlt : I < 47
    · have hiz : (I : Int) < 47 := by omega
      obtain ⟨R, hR⟩ : ∃ R, RWS[I]? = some R := ⟨_, List.getElem?_eq_getElem (by rw [rows_num]; exact hlt)⟩
      obtain ⟨hgw, hkl, hnm, hmr⟩ := rows_good R (List.mem_of_getElem? hR)
      have tb := HUR.out.row HT.out
      have r0 := Tbl.cell tb hR 0 (by omega)
      have r1 := Tbl.cell tb hR 1 (by omega)
      have r2 := Tbl.cell tb hR 2 (by omega)
      have r3 := Tbl.cell tb hR 3 (by omega)
      have r4 := Tbl.cell tb hR 4 (by omega)
      have r5 := Tbl.cell tb hR 5 (by omega)
      have r6 := Tbl.cell tb hR 6 (by omega)
      have HRI := Lib.hid hR
      clear hR tb
      obtain ⟨rc, rk, rn, rm, rf, rt, rs⟩ := R
      simp only [rcl, List.getElem?_cons_zero, List.getElem?_cons_succ, Nat.add_zero] at r0 r1 r2 r3 r4 r5 r6
      have HNX : Hid (fitR B.nck B.long x (infF B.nck B.long ks) c ⟨rc, rk, rn, rm, rf, rt, rs⟩ = false → ∀ (j : Nat) R, j < I + 1 → RWS[j]? = some R → fitR B.nck B.long x (infF B.nck B.long ks) c R = false) := Lib.hid fun h j R hj hR => by
        by_cases e : j = I
        · subst e
          rw [HRI.out] at hR
          injection hR with hR
          rw [← hR]
          exact h
        · exact HALL.out j R (by omega) hR
      have hw1 := fun W' => word_any x.a rn hnm W' HA.out
      have hw2 := fun W' => word_any x.m rm hmr W' HM.out
      have hfit : fitR B.nck B.long x (infF B.nck B.long ks) c ⟨rc, rk, rn, rm, rf, rt, rs⟩ = (decide (rc = c) && decide (rk = x.k) && wordR B.nck B.long x.a rn && wordR B.nck B.long x.m rm && decide (rf ≤ x.n) && decide (x.n ≤ rt) && seqOk (infF B.nck B.long ks) rs) := rfl
      obtain ⟨F, hF⟩ : ∃ F, fitR B.nck B.long x (infF B.nck B.long ks) c ⟨rc, rk, rn, rm, rf, rt, rs⟩ = F := ⟨_, rfl⟩
      have UW2 : Hid (Up w1 (wr.alloc (.cells [Value.int .i64 rc, .int .i64 rk, .string (byt rn), .string (byt rm), .int .i64 rf, .int .i64 rt, .string (byt rs)].toArray 68))) := Lib.hid (HUR.out.alloc _)
      have rcell := row_cells wr [Value.int .i64 rc, .int .i64 rk, .string (byt rn), .string (byt rm), .int .i64 rf, .int .i64 rt, .string (byt rs)] 68
      obtain ⟨W2, hW2⟩ : ∃ W2, wr.alloc (.cells [Value.int .i64 rc, .int .i64 rk, .string (byt rn), .string (byt rm), .int .i64 rf, .int .i64 rt, .string (byt rs)].toArray 68) = W2 := ⟨_, rfl⟩
      rw [hW2] at UW2 rcell
      have HKK := Lib.hid fun w' (h : Up W2 w') => CK.out W2 rs hgw _ w' (HK.out.up (HU1.out.trans UW2.out)) h
      rw [hF] at hfit
      obtain ⟨b1, hb1⟩ : ∃ b, wordR B.nck B.long x.a rn = b := ⟨_, rfl⟩
      obtain ⟨b2, hb2⟩ : ∃ b, wordR B.nck B.long x.m rm = b := ⟨_, rfl⟩
      obtain ⟨b3, hb3⟩ : ∃ b, seqOk (infF B.nck B.long ks) rs = b := ⟨_, rfl⟩
      rw [hb1] at hw1 hfit
      rw [hb2] at hw2 hfit
      rw [hb3] at HKK hfit
      have HW1 := Lib.hid hw1
      have HW2 := Lib.hid hw2
      obtain ⟨Q, hQ⟩ : ∃ Q, wr.heap.size = Q := ⟨_, rfl⟩
      rw [hQ] at rcell
      have s0 : ∀ u : Upw W2, u.w.cell? ⟨Q, 0, none⟩ = some (.int .i64 rc) := fun u => u.cell (rcell 0 _ rfl)
      have s1 : ∀ u : Upw W2, u.w.cell? ⟨Q, 1, none⟩ = some (.int .i64 rk) := fun u => u.cell (rcell 1 _ rfl)
      have s2 : ∀ u : Upw W2, u.w.cell? ⟨Q, 2, none⟩ = some (.string (byt rn)) := fun u => u.cell (rcell 2 _ rfl)
      have s3 : ∀ u : Upw W2, u.w.cell? ⟨Q, 3, none⟩ = some (.string (byt rm)) := fun u => u.cell (rcell 3 _ rfl)
      have s4 : ∀ u : Upw W2, u.w.cell? ⟨Q, 4, none⟩ = some (.int .i64 rf) := fun u => u.cell (rcell 4 _ rfl)
      have s5 : ∀ u : Upw W2, u.w.cell? ⟨Q, 5, none⟩ = some (.int .i64 rt) := fun u => u.cell (rcell 5 _ rfl)
      have s6 : ∀ u : Upw W2, u.w.cell? ⟨Q, 6, none⟩ = some (.string (byt rs)) := fun u => u.cell (rcell 6 _ rfl)
      have UU := Lib.hid (HU1.out.trans UW2.out)
      have n0 : ∀ u : Upw W2, u.w.cell? ⟨q, p, none⟩ = some (.int .i64 x.k) := fun u => u.cell (UU.out.cell C0.out)
      have n1 : ∀ u : Upw W2, u.w.cell? ⟨q, p + 1, none⟩ = some (.int .i64 x.n) := fun u => u.cell (UU.out.cell C1.out)
      have n2 : ∀ u : Upw W2, u.w.cell? ⟨q, p + 2, none⟩ = some (.string x.a) := fun u => u.cell (UU.out.cell C2.out)
      have n3 : ∀ u : Upw W2, u.w.cell? ⟨q, p + 3, none⟩ = some (.string x.m) := fun u => u.cell (UU.out.cell C3.out)
      have n4 : ∀ u : Upw W2, u.w.cell? ⟨q, p + 4, none⟩ = some (.slice A N cp) := fun u => u.cell (UU.out.cell C4.out)
      have hcase : ((rc == c) = false ∧ F = false) ∨ ((rc == c) = true ∧ (rk == x.k) = false ∧ F = false) ∨ ((rc == c) = true ∧ (rk == x.k) = true ∧ b1 = false ∧ F = false) ∨ ((rc == c) = true ∧ (rk == x.k) = true ∧ b1 = true ∧ b2 = false ∧ F = false) ∨
          ((rc == c) = true ∧ (rk == x.k) = true ∧ b1 = true ∧ b2 = true ∧ decide (rf ≤ x.n) = false ∧ F = false) ∨ ((rc == c) = true ∧ (rk == x.k) = true ∧ b1 = true ∧ b2 = true ∧ decide (rf ≤ x.n) = true ∧ decide (x.n ≤ rt) = false ∧ F = false) ∨
          ((rc == c) = true ∧ (rk == x.k) = true ∧ b1 = true ∧ b2 = true ∧ decide (rf ≤ x.n) = true ∧ decide (x.n ≤ rt) = true ∧ b3 = F) := by
        have e1 : (rc == c) = decide (rc = c) := rfl
        have e2 : (rk == x.k) = decide (rk = x.k) := rfl
        rw [e1, e2, hfit]
        cases decide (rc = c) <;> cases decide (rk = x.k) <;> cases b1 <;> cases b2 <;> cases decide (rf ≤ x.n) <;> cases decide (x.n ≤ rt) <;> simp
      have HB := Lib.hid (⟨hb1, hb2, hb3⟩ : _ ∧ _ ∧ _)
      clear rcell hb1 hb2 hb3 hfit hw1 hw2 hnm hmr hgw
      rcases hcase with ⟨d1, rfl⟩ | ⟨d1, d2, rfl⟩ | ⟨d1, d2, rfl, rfl⟩ | ⟨d1, d2, rfl, rfl, rfl⟩ | ⟨d1, d2, rfl, rfl, d3, rfl⟩ | ⟨d1, d2, rfl, rfl, d3, d4, rfl⟩ | ⟨d1, d2, rfl, rfl, d3, d4, rfl⟩
      · have HFF := Lib.hid hF
        clear hF
        go_wp2_with fail
        refine wp_region_up (W := W2) (Up.refl _) (by kernel_rfl) (by kernel_rfl) ?_
        repeat (go_big_quiet_step (first
            | (go_at_call_of 46 (Value.string x.a); exact Calls.upw ((HW1.out _).mono fun _ _ h => ⟨h.1, (by assumption : Upw W2).h.of h.2⟩))
            | (go_at_call_of 46 (Value.string x.m); exact Calls.upw ((HW2.out _).mono fun _ _ h => ⟨h.1, (by assumption : Upw W2).h.of h.2⟩))
            | (go_at_call 47; exact Calls.upw (HKK.out _ (by assumption : Upw W2).h))))
        refine wpQuiet_nil ?_
        rintro _ ⟨⟨w9, u9⟩, rfl⟩
        go_wp2_with fail
        go_roundw
        case rel => exact ⟨I + 1, by go_num, by omega, HNX.out HFF.out, UW2.out.trans u9⟩
        case measure => simp [intOf]; omega
      · have HFF := Lib.hid hF
        clear hF
        go_wp2_with fail
        refine wp_region_up (W := W2) (Up.refl _) (by kernel_rfl) (by kernel_rfl) ?_
        repeat (go_big_quiet_step (first
            | (go_at_call_of 46 (Value.string x.a); exact Calls.upw ((HW1.out _).mono fun _ _ h => ⟨h.1, (by assumption : Upw W2).h.of h.2⟩))
            | (go_at_call_of 46 (Value.string x.m); exact Calls.upw ((HW2.out _).mono fun _ _ h => ⟨h.1, (by assumption : Upw W2).h.of h.2⟩))
            | (go_at_call 47; exact Calls.upw (HKK.out _ (by assumption : Upw W2).h))))
        refine wpQuiet_nil ?_
        rintro _ ⟨⟨w9, u9⟩, rfl⟩
        go_wp2_with fail
        go_roundw
        case rel => exact ⟨I + 1, by go_num, by omega, HNX.out HFF.out, UW2.out.trans u9⟩
        case measure => simp [intOf]; omega
      · have HFF := Lib.hid hF
        clear hF
        go_wp2_with fail
        refine wp_region_up (W := W2) (Up.refl _) (by kernel_rfl) (by kernel_rfl) ?_
        repeat (go_big_quiet_step (first
            | (go_at_call_of 46 (Value.string x.a); exact Calls.upw ((HW1.out _).mono fun _ _ h => ⟨h.1, (by assumption : Upw W2).h.of h.2⟩))
            | (go_at_call_of 46 (Value.string x.m); exact Calls.upw ((HW2.out _).mono fun _ _ h => ⟨h.1, (by assumption : Upw W2).h.of h.2⟩))
            | (go_at_call 47; exact Calls.upw (HKK.out _ (by assumption : Upw W2).h))))
        refine wpQuiet_nil ?_
        rintro _ ⟨⟨w9, u9⟩, rfl⟩
        go_wp2_with fail
        go_roundw
        case rel => exact ⟨I + 1, by go_num, by omega, HNX.out HFF.out, UW2.out.trans u9⟩
        case measure => simp [intOf]; omega
      · have HFF := Lib.hid hF
        clear hF
        go_wp2_with fail
        refine wp_region_up (W := W2) (Up.refl _) (by kernel_rfl) (by kernel_rfl) ?_
        repeat (go_big_quiet_step (first
            | (go_at_call_of 46 (Value.string x.a); exact Calls.upw ((HW1.out _).mono fun _ _ h => ⟨h.1, (by assumption : Upw W2).h.of h.2⟩))
            | (go_at_call_of 46 (Value.string x.m); exact Calls.upw ((HW2.out _).mono fun _ _ h => ⟨h.1, (by assumption : Upw W2).h.of h.2⟩))
            | (go_at_call 47; exact Calls.upw (HKK.out _ (by assumption : Upw W2).h))))
        refine wpQuiet_nil ?_
        rintro _ ⟨⟨w9, u9⟩, rfl⟩
        go_wp2_with fail
        go_roundw
        case rel => exact ⟨I + 1, by go_num, by omega, HNX.out HFF.out, UW2.out.trans u9⟩
        case measure => simp [intOf]; omega
      · have HFF := Lib.hid hF
        clear hF
        go_wp2_with fail
        refine wp_region_up (W := W2) (Up.refl _) (by kernel_rfl) (by kernel_rfl) ?_
        repeat (go_big_quiet_step (first
            | (go_at_call_of 46 (Value.string x.a); exact Calls.upw ((HW1.out _).mono fun _ _ h => ⟨h.1, (by assumption : Upw W2).h.of h.2⟩))
            | (go_at_call_of 46 (Value.string x.m); exact Calls.upw ((HW2.out _).mono fun _ _ h => ⟨h.1, (by assumption : Upw W2).h.of h.2⟩))
            | (go_at_call 47; exact Calls.upw (HKK.out _ (by assumption : Upw W2).h))))
        refine wpQuiet_nil ?_
        rintro _ ⟨⟨w9, u9⟩, rfl⟩
        go_wp2_with fail
        go_roundw
        case rel => exact ⟨I + 1, by go_num, by omega, HNX.out HFF.out, UW2.out.trans u9⟩
        case measure => simp [intOf]; omega
      · have HFF := Lib.hid hF
        clear hF
        go_wp2_with fail
        refine wp_region_up (W := W2) (Up.refl _) (by kernel_rfl) (by kernel_rfl) ?_
        repeat (go_big_quiet_step (first
            | (go_at_call_of 46 (Value.string x.a); exact Calls.upw ((HW1.out _).mono fun _ _ h => ⟨h.1, (by assumption : Upw W2).h.of h.2⟩))
            | (go_at_call_of 46 (Value.string x.m); exact Calls.upw ((HW2.out _).mono fun _ _ h => ⟨h.1, (by assumption : Upw W2).h.of h.2⟩))
            | (go_at_call 47; exact Calls.upw (HKK.out _ (by assumption : Upw W2).h))))
        refine wpQuiet_nil ?_
        rintro _ ⟨⟨w9, u9⟩, rfl⟩
        go_wp2_with fail
        go_roundw
        case rel => exact ⟨I + 1, by go_num, by omega, HNX.out HFF.out, UW2.out.trans u9⟩
        case measure => simp [intOf]; omega
      · cases b3 with
        | false =>
          have HFF := Lib.hid hF
          clear hF
          go_wp2_with fail
          refine wp_region_up (W := W2) (Up.refl _) (by kernel_rfl) (by kernel_rfl) ?_
          repeat (go_big_quiet_step (first
              | (go_at_call_of 46 (Value.string x.a); exact Calls.upw ((HW1.out _).mono fun _ _ h => ⟨h.1, (by assumption : Upw W2).h.of h.2⟩))
              | (go_at_call_of 46 (Value.string x.m); exact Calls.upw ((HW2.out _).mono fun _ _ h => ⟨h.1, (by assumption : Upw W2).h.of h.2⟩))
              | (go_at_call 47; exact Calls.upw (HKK.out _ (by assumption : Upw W2).h))))
          refine wpQuiet_nil ?_
          rintro _ ⟨⟨w9, u9⟩, rfl⟩
          go_wp2_with fail
          go_roundw
          case rel => exact ⟨I + 1, by go_num, by omega, HNX.out HFF.out, UW2.out.trans u9⟩
          case measure => simp [intOf]; omega
        | true =>
          have HE : Hid (isT B.nck B.long (x, ks) c = true) := Lib.hid (isX_row.2 ⟨_, List.mem_of_getElem? HRI.out, hF⟩)
          clear hF
          go_wp2_with fail
          refine wp_region_up (W := W2) (Up.refl _) (by kernel_rfl) (by kernel_rfl) ?_
          repeat (go_big_quiet_step (first
              | (go_at_call_of 46 (Value.string x.a); exact Calls.upw ((HW1.out _).mono fun _ _ h => ⟨h.1, (by assumption : Upw W2).h.of h.2⟩))
              | (go_at_call_of 46 (Value.string x.m); exact Calls.upw ((HW2.out _).mono fun _ _ h => ⟨h.1, (by assumption : Upw W2).h.of h.2⟩))
              | (go_at_call 47; exact Calls.upw (HKK.out _ (by assumption : Upw W2).h))))
          refine wpQuiet_nil ?_
          rintro _ ⟨⟨w9, u9⟩, rfl⟩
          go_wp2_with fail
          go_ret
          exact bop_ret HE.out (UU.out.trans u9)
    · have hI47 : I = 47 := by omega
      have hiz : ¬ (I : Int) < 47 := by omega
      have HE : Hid (isT B.nck B.long (x, ks) c = false) := Lib.hid (by
        cases h : isT B.nck B.long (x, ks) c with
        | false => rfl
        | true =>
          obtain ⟨R, hR, hf⟩ := isX_row.1 h
          obtain ⟨j, hj⟩ := List.getElem?_of_mem hR
          have := (List.getElem?_eq_some_iff.1 hj).1
          rw [rows_num] at this
          rw [HALL.out j R (by omega) hj] at hf
          cases hf)
      go_wp2_with fail
      go_ret
      exact bop_ret HE.out (HU1.out.trans HUR.out)
end Go.Proofs.Ytoejegndbcbkmaa
