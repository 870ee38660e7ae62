/-
  Layer 10, the program's side: Shift, Subst, Free, Occurs.
-/
import Derived.Test.YtdofcjnkpgbjaaaDoorGt27
namespace Go.Proofs.YtdofcjnkpgbjaaaDoor
open Go.RowKit

theorem erh_none {R : Option Tr × Int} {W w' : World} {z : Int} (h : R = (none, z)) (u : Up W w') : ErH R W (.returned (.tuple #[.pointer none, .int .i64 z])) w' := ⟨_, by rw [h], by rw [h]; rfl, u⟩
theorem erh_some {R : Option Tr × Int} {W w' : World} {v : Value} {t : Tr} (h : R = (some t, 0)) (u : Up W w') (hv : HasT w' v (some t)) : ErH R W (.returned (.tuple #[v, .int .i64 0])) w' := ⟨v, by rw [h], by rw [h]; exact hv, u⟩
set_option maxHeartbeats 6400000 in
set_option maxRecDepth 100000 in
theorem pFree (o : Option Tr) (w : World) (v : Value) (h : HasT w v o) (hz : szO o ≤ 65536) : Calls Tryd.prog 20 #[v] w (InP (frR o) w) := by
  have cC := pCheck o w v h hz
  by_cases h0 : ckE o = 0
  · obtain ⟨t, rfl, hz1, hc1⟩ := ckE_ok h0
    have cR := fun W (u : Up w W) => reach_any t (co_tvok hc1) (by omega) W (fun q => q < w.heap.size) v (fun q hq => Nat.lt_of_lt_of_le hq u.size) (InT.keep (t := t) h (fun _ h => h) fun b hb => u.block b hb)
    have e : frR (some t) = fvT 0 t := if_pos h0
    rw [e]
    rw [h0] at cC
    obtain ⟨T, hT⟩ : ∃ T, fvT 0 t = T := ⟨_, rfl⟩
    rw [hT] at cR ⊢
    have CR := Lib.hid cR
    clear hT cR e hz1 hc1 hz h h0
    go_enter Tryd.func20, Tryd.ntmps20
    go_wp2_with fail
    refine cC.mono ?_
    rintro e w1 ⟨rfl, u1⟩
    go_wp2_with fail
    refine (CR.out w1 u1).mono ?_
    rintro e w2 ⟨rfl, u2⟩
    go_wp2_with fail
    go_ret
    exact ⟨rfl, u1.trans u2⟩
  · have e : frR o = 0 := by
      cases o with
      | none => rfl
      | some t => exact if_neg h0
    rw [e]
    obtain ⟨E, hE⟩ : ∃ E, ckE o = E := ⟨_, rfl⟩
    rw [hE] at cC h0
    have h2 : (E != 0) = true := by rw [bne_iff_ne]; exact h0
    clear hE hz h e h0
    go_enter Tryd.func20, Tryd.ntmps20
    go_wp2_with fail
    refine cC.mono ?_
    rintro e w1 ⟨rfl, u1⟩
    go_wp2_with fail
    go_ret
    exact ⟨rfl, u1⟩
theorem ct_neg {i : Int} (hi : i < 0) {f : Fr} : ∀ {d : Nat}, Fr.ct i d f = 0 := by
  induction f with
  | nil => intro d; rfl
  | cons x k r ihk ihr =>
    intro d
    unfold Fr.ct
    rw [ihk, ihr, if_neg]
    rintro ⟨_, h1, h2⟩
    omega
theorem ctT_neg {i : Int} (hi : i < 0) (d : Nat) (t : Tr) : ctT i d t = 0 := by
  unfold ctT
  rw [ct_neg hi, if_neg]
  rintro ⟨_, h1, h2⟩
  omega
set_option maxHeartbeats 6400000 in
set_option maxRecDepth 100000 in
theorem pOccurs (o : Option Tr) (w : World) (v : Value) (i : Int) (h : HasT w v o) (hz : szO o ≤ 65536) : Calls Tryd.prog 22 #[v, .int .i64 i] w (BoP (ocR o i) w) := by
  have cC := pCheck o w v h hz
  by_cases h0 : ckE o = 0
  · obtain ⟨t, rfl, hz1, hc1⟩ := ckE_ok h0
    have cR := fun W (u : Up w W) => places_any i t (co_tvok hc1) (by omega) W (fun q => q < w.heap.size) v (fun q hq => Nat.lt_of_lt_of_le hq u.size) (InT.keep (t := t) h (fun _ h => h) fun b hb => u.block b hb)
    have e : ocR (some t) i = decide (0 < ctT i 0 t) := by
      show (decide (ckE (some t) = 0) && (decide (0 ≤ i) && decide (0 < ctT i 0 t))) = _
      rw [decide_eq_true h0, Bool.true_and]
      by_cases hi : 0 ≤ i
      · rw [decide_eq_true hi, Bool.true_and]
      · rw [ctT_neg (by omega)]; simp
    rw [e]
    rw [h0] at cC
    obtain ⟨T, hT⟩ : ∃ T, ctT i 0 t = T := ⟨_, rfl⟩
    rw [hT] at cR ⊢
    have CR := Lib.hid cR
    clear hT cR e hz1 hc1 hz h h0
    by_cases hTp : (0 : Int) < (T : Int)
    · have HX : Hid (decide (0 < T) = true) := Lib.hid (decide_eq_true (by omega))
      rw [HX.out]
      go_enter Tryd.func22, Tryd.ntmps22
      go_wp2_with fail
      refine cC.mono ?_
      rintro e w1 ⟨rfl, u1⟩
      go_wp2_with fail
      refine (CR.out w1 u1).mono ?_
      rintro e w2 ⟨rfl, u2⟩
      go_wp2_with fail
      go_ret
      exact bo_r HX.out.symm (u1.trans u2)
    · have HX : Hid (decide (0 < T) = false) := Lib.hid (decide_eq_false (by omega))
      rw [HX.out]
      go_enter Tryd.func22, Tryd.ntmps22
      go_wp2_with fail
      refine cC.mono ?_
      rintro e w1 ⟨rfl, u1⟩
      go_wp2_with fail
      refine (CR.out w1 u1).mono ?_
      rintro e w2 ⟨rfl, u2⟩
      go_wp2_with fail
      go_ret
      exact bo_r HX.out.symm (u1.trans u2)
  · have e : ocR o i = false := by
      cases o with
      | none => rfl
      | some t =>
        show (decide (ckE (some t) = 0) && _) = false
        rw [decide_eq_false h0, Bool.false_and]
    rw [e]
    obtain ⟨E, hE⟩ : ∃ E, ckE o = E := ⟨_, rfl⟩
    rw [hE] at cC h0
    have h2 : (E == 0) = false := by rw [beq_eq_false_iff_ne]; exact h0
    clear hE hz h e h0
    go_enter Tryd.func22, Tryd.ntmps22
    go_wp2_with fail
    refine cC.mono ?_
    rintro e w1 ⟨rfl, u1⟩
    go_wp2_with fail
    go_ret
    exact bo_r rfl u1
set_option maxHeartbeats 6400000 in
set_option maxRecDepth 100000 in
theorem pShift (o : Option Tr) (w : World) (v : Value) (b c : Int) (h : HasT w v o) (hz : szO o ≤ 65536) : Calls Tryd.prog 17 #[v, .int .i64 b, .int .i64 c] w (ErH (shR b c o) w) := by
  have cC := pCheck o w v h hz
  by_cases h0 : ckE o = 0
  · obtain ⟨t, rfl, hz1, hc1⟩ := ckE_ok h0
    have cS := fun W (u : Up w W) => shifted_any b c t (co_tvok hc1) (by omega) W (fun q => q < w.heap.size) v (fun q hq => Nat.lt_of_lt_of_le hq u.size) (InT.keep (t := t) h (fun _ h => h) fun b hb => u.block b hb)
    have hm := (fdT_sh b c (t := t) 0 true (co_tvok hc1)).2
    obtain ⟨R, hR⟩ : ∃ R, mvT b c 0 t = R := ⟨_, rfl⟩
    obtain ⟨T, hT⟩ : ∃ R, mpT (trS b c) 0 t = R := ⟨_, rfl⟩
    have e : shR b c (some t) = if c < 0 then (none, 2) else errO 2 R := by unfold shR; rw [if_pos h0, ← hR]
    rw [e]
    rw [h0] at cC
    rw [hR] at cS hm
    rw [hT] at cS hm
    have CS := Lib.hid cS
    have HM := Lib.hid hm
    clear hT hR cS e hz1 hc1 hz h h0 hm
    obtain ⟨b1, hb1⟩ : ∃ b, R.isSome = b := ⟨_, rfl⟩
    have CS1 : Hid (∀ W, Up w W → Calls Tryd.prog 38 #[v, .int .i64 b, .int .i64 c] W (fun e w' => ∃ v' t', e = .returned (.tuple #[v', .bool b1]) ∧ Up W w' ∧ InT w' (Sin (fun q => q < w.heap.size) W w') v' t' ∧ t' = T)) := Lib.hid (by rw [← hb1]; exact CS.out)
    by_cases hcn : c < 0
    · rw [if_pos hcn]
      go_enter Tryd.func17, Tryd.ntmps17
      go_wp2_with fail
      refine cC.mono ?_
      rintro e w1 ⟨rfl, u1⟩
      go_wp2_with fail
      refine (CS1.out w1 u1).mono ?_
      rintro e w2 ⟨v', t', rfl, u2, h2, rfl⟩
      go_wp2_with fail
      go_ret2
      exact erh_none rfl (u1.trans u2)
    · rw [if_neg hcn]
      cases R with
      | none =>
        have hb1 : false = b1 := hb1
        subst hb1
        go_enter Tryd.func17, Tryd.ntmps17
        go_wp2_with fail
        refine cC.mono ?_
        rintro e w1 ⟨rfl, u1⟩
        go_wp2_with fail
        refine (CS1.out w1 u1).mono ?_
        rintro e w2 ⟨v', t', rfl, u2, h2, rfl⟩
        go_wp2_with fail
        go_ret2
        exact erh_none rfl (u1.trans u2)
      | some m =>
        have hb1 : true = b1 := hb1
        subst hb1
        go_enter Tryd.func17, Tryd.ntmps17
        go_wp2_with fail
        refine cC.mono ?_
        rintro e w1 ⟨rfl, u1⟩
        go_wp2_with fail
        refine (CS1.out w1 u1).mono ?_
        rintro e w2 ⟨v', t', rfl, u2, h2, ht⟩
        have ht2 : t' = m := ht.trans (HM.out m rfl)
        go_wp2_with fail
        go_ret2
        refine erh_some rfl (u1.trans u2) ?_
        rw [← ht2]
        exact InT.keep (t := t') h2 (fun q hq => by
          rcases hq with h | h
          · exact Nat.lt_of_lt_of_le h (u1.trans u2).size
          · exact h.2) fun _ _ => rfl
  · have e : shR b c o = (none, ckE o) := if_neg h0
    rw [e]
    obtain ⟨E, hE⟩ : ∃ E, ckE o = E := ⟨_, rfl⟩
    rw [hE] at cC h0 ⊢
    have h2 : (E != 0) = true := by rw [bne_iff_ne]; exact h0
    clear hE hz h e h0
    go_enter Tryd.func17, Tryd.ntmps17
    go_wp2_with fail
    refine cC.mono ?_
    rintro e w1 ⟨rfl, u1⟩
    go_wp2_with fail
    go_ret2
    exact erh_none rfl u1
theorem wrap_mul (C D : Nat) (h : C * D ≤ 5000000000) : wrap64 ((C : Int) * (D : Int)) = ((C * D : Nat) : Int) := by
  have e : (C : Int) * (D : Int) = ((C * D : Nat) : Int) := (Int.natCast_mul C D).symm
  rw [e]
  generalize C * D = P at h ⊢
  unfold wrap64
  omega
theorem wrap_mulI (C D : Nat) (h : C * D ≤ 5000000000) : IntKind.i64.wrap ((C : Int) * (D : Int)) = ((C * D : Nat) : Int) := by
  have e : (C : Int) * (D : Int) = ((C * D : Nat) : Int) := (Int.natCast_mul C D).symm
  rw [e, IntKind.wrap_i64]
  generalize C * D = P at h ⊢
  omega
theorem mul_small {C D : Nat} (hc : C ≤ 65536) (hd : D ≤ 65536) : C * D ≤ 5000000000 := Nat.le_trans (Nat.mul_le_mul hc hd) (by decide)
theorem sb_size {s c u : Nat} (hc : c ≤ s) (hu : 1 ≤ u) : (65536 < s - c + c * u) ↔ 65536 < s + c * (u - 1) := by
  obtain ⟨k, rfl⟩ : ∃ k, u = k + 1 := ⟨u - 1, by omega⟩
  rw [Nat.add_sub_cancel, Nat.mul_succ]
  omega
set_option maxHeartbeats 6400000 in
set_option maxRecDepth 100000 in
theorem pSubst (o p : Option Tr) (w : World) (v vu : Value) (i : Int) (h : HasT w v o) (hz : szO o ≤ 65536) (h' : HasT w vu p) (hz' : szO p ≤ 65536) : Calls Tryd.prog 24 #[v, .int .i64 i, vu] w (ErH (sbR i o p) w) := by
  have cC := pCheck o w v h hz
  have cD := fun W (u : Up w W) => pCheck p W vu (h'.up u) hz'
  by_cases h0 : ckE o = 0
  · rw [h0] at cC
    by_cases h1 : ckE p = 0
    · obtain ⟨t, rfl, hz1, hc1⟩ := ckE_ok h0
      obtain ⟨u, rfl, hz2, hc2⟩ := ckE_ok h1
      rw [h1] at cD
      have hct := ctT_le i 0 t
      have hu1 : 1 ≤ szT u := by unfold szT; omega
      have cS := fun W (q : Up w W) => uSize (some t) h hz q
      have cU := fun W (q : Up w W) => uSize (some u) h' hz' q
      have cP := fun W (q : Up w W) => places_any i t (co_tvok hc1) (by omega) W (fun q => q < w.heap.size) v (fun q' hq => Nat.lt_of_lt_of_le hq q.size) (InT.keep (t := t) h (fun _ h => h) fun b hb => q.block b hb)
      have cR := fun W (q : Up w W) => replaced_any i u t (co_tvok hc2) (by omega) (co_tvok hc1) (by omega) W (fun q => q < w.heap.size) v vu (fun q' hq => Nat.lt_of_lt_of_le hq q.size) (InT.keep (t := t) h (fun _ h => h) fun b hb => q.block b hb) (InT.keep (t := u) h' (fun _ h => h) fun b hb => q.block b hb)
      have hm := (fdT_pt i u (co_tvok hc2) (t := t) 0 true (co_tvok hc1)).2
      have hs3 := sb_size hct hu1
      have e : sbR i (some t) (some u) = if i < 0 then (none, 2) else if 65536 < szT t - ctT i 0 t + ctT i 0 t * szT u then (none, 3) else errO 3 (ptT i u 0 t) := by unfold sbR; rw [if_pos h0, if_pos h1]
      rw [e]
      have eS : szO (some t) = szT t := rfl
      have eU : szO (some u) = szT u := rfl
      rw [eS] at cS
      rw [eU] at cU
      obtain ⟨S, hS⟩ : ∃ S, szT t = S := ⟨_, rfl⟩
      obtain ⟨U, hU⟩ : ∃ S, szT u = S := ⟨_, rfl⟩
      obtain ⟨C, hC⟩ : ∃ S, ctT i 0 t = S := ⟨_, rfl⟩
      obtain ⟨R, hR⟩ : ∃ R, ptT i u 0 t = R := ⟨_, rfl⟩
      obtain ⟨T, hT⟩ : ∃ R, mpT (trP i u) 0 t = R := ⟨_, rfl⟩
      rw [hS] at cS hs3 hct hz1 ⊢
      rw [hU] at cU hs3 hu1 hz2 ⊢
      rw [hC] at cP hs3 hct ⊢
      rw [hR] at cR hm ⊢
      rw [hT] at cR hm
      obtain ⟨D, hD⟩ : ∃ D, U = D + 1 := ⟨U - 1, by omega⟩
      subst hD
      rw [Nat.add_sub_cancel] at hs3
      have hCD : C * D ≤ 5000000000 := mul_small (by omega) (by omega)
      have hwD : wrap64 (((D + 1 : Nat) : Int) - 1) = (D : Int) := by unfold wrap64; omega
      obtain ⟨P, hP⟩ : ∃ P, C * D = P := ⟨_, rfl⟩
      have hwP : wrap64 ((C : Int) * (D : Int)) = (P : Int) := by rw [wrap_mul C D hCD, hP]
      have hwP' : IntKind.i64.wrap ((C : Int) * (D : Int)) = (P : Int) := by rw [wrap_mulI C D hCD, hP]
      have hPs : P ≤ 5000000000 := by rw [← hP]; exact hCD
      have hwS : wrap64 ((S : Int) + (P : Int)) = ((S + P : Nat) : Int) := by clear hCD hP hwP hwP' hs3; unfold wrap64; omega
      rw [hP] at hs3
      have HS3 := Lib.hid hs3
      clear hs3 hCD hP
      have CS := Lib.hid cS
      have CU := Lib.hid cU
      have CP := Lib.hid cP
      have CR := Lib.hid cR
      have CD := Lib.hid cD
      have HM := Lib.hid hm
      obtain ⟨b1, hb1⟩ : ∃ b, R.isSome = b := ⟨_, rfl⟩
      have CR1 : Hid (∀ W, Up w W → Calls Tryd.prog 45 #[v, .int .i64 i, vu] W (fun e w' => ∃ v' t', e = .returned (.tuple #[v', .bool b1]) ∧ Up W w' ∧ InT w' (Sin (fun q => q < w.heap.size) W w') v' t' ∧ t' = T)) := Lib.hid (by rw [← hb1]; exact CR.out)
      clear hT hR cR cS cU cP cD e hz1 hc1 hc2 hz hz' h h' h0 h1 hm hS hU hC eS eU
      by_cases hin : i < 0
      · rw [if_pos hin]
        go_enter Tryd.func24, Tryd.ntmps24
        go_wp2_with fail
        refine cC.mono ?_
        rintro e w1 ⟨rfl, u1⟩
        go_wp2_with fail
        refine (CD.out w1 u1).mono ?_
        rintro e w2 ⟨rfl, u2⟩
        go_wp2_with fail
        go_ret2
        exact erh_none rfl (u1.trans u2)
      · rw [if_neg hin]
        by_cases hbig : 65536 < S - C + C * (D + 1)
        · rw [if_pos hbig]
          have hb2 : (65536 : Int) < (S : Int) + (P : Int) := by have := HS3.out.1 hbig; omega
          go_enter Tryd.func24, Tryd.ntmps24
          go_wp2_with fail
          refine cC.mono ?_
          rintro e w1 ⟨rfl, u1⟩
          go_wp2_with fail
          refine (CD.out w1 u1).mono ?_
          rintro e w2 ⟨rfl, u2⟩
          go_wp2_with fail
          refine (CS.out w2 (u1.trans u2)).mono ?_
          rintro e w3 ⟨rfl, u3⟩
          go_wp2_with fail
          refine (CP.out w3 u3).mono ?_
          rintro e w4 ⟨rfl, u4⟩
          go_wp2_with fail
          refine (CU.out w4 (u3.trans u4)).mono ?_
          rintro e w5 ⟨rfl, u5⟩
          go_wp2_with fail
          go_ret2
          exact erh_none rfl u5
        · rw [if_neg hbig]
          have hb2 : ¬ (65536 : Int) < (S : Int) + (P : Int) := fun h => hbig (HS3.out.2 (by omega))
          cases R with
          | none =>
            have hb1 : false = b1 := hb1
            subst hb1
            go_enter Tryd.func24, Tryd.ntmps24
            go_wp2_with fail
            refine cC.mono ?_
            rintro e w1 ⟨rfl, u1⟩
            go_wp2_with fail
            refine (CD.out w1 u1).mono ?_
            rintro e w2 ⟨rfl, u2⟩
            go_wp2_with fail
            refine (CS.out w2 (u1.trans u2)).mono ?_
            rintro e w3 ⟨rfl, u3⟩
            go_wp2_with fail
            refine (CP.out w3 u3).mono ?_
            rintro e w4 ⟨rfl, u4⟩
            go_wp2_with fail
            refine (CU.out w4 (u3.trans u4)).mono ?_
            rintro e w5 ⟨rfl, u5⟩
            go_wp2_with fail
            refine (CR1.out w5 u5).mono ?_
            rintro e w6 ⟨v', t', rfl, u6, h6, rfl⟩
            go_wp2_with fail
            go_ret2
            exact erh_none rfl (u5.trans u6)
          | some m =>
            have hb1 : true = b1 := hb1
            subst hb1
            go_enter Tryd.func24, Tryd.ntmps24
            go_wp2_with fail
            refine cC.mono ?_
            rintro e w1 ⟨rfl, u1⟩
            go_wp2_with fail
            refine (CD.out w1 u1).mono ?_
            rintro e w2 ⟨rfl, u2⟩
            go_wp2_with fail
            refine (CS.out w2 (u1.trans u2)).mono ?_
            rintro e w3 ⟨rfl, u3⟩
            go_wp2_with fail
            refine (CP.out w3 u3).mono ?_
            rintro e w4 ⟨rfl, u4⟩
            go_wp2_with fail
            refine (CU.out w4 (u3.trans u4)).mono ?_
            rintro e w5 ⟨rfl, u5⟩
            go_wp2_with fail
            refine (CR1.out w5 u5).mono ?_
            rintro e w6 ⟨v', t', rfl, u6, h6, ht⟩
            have ht2 : t' = m := ht.trans (HM.out m rfl)
            go_wp2_with fail
            go_ret2
            refine erh_some rfl (u5.trans u6) ?_
            rw [← ht2]
            exact InT.keep (t := t') h6 (fun q hq => by
              rcases hq with h | h
              · exact Nat.lt_of_lt_of_le h (u5.trans u6).size
              · exact h.2) fun _ _ => rfl
    · have e : sbR i o p = (none, ckE p) := by unfold sbR; rw [if_pos h0, if_neg h1]
      rw [e]
      obtain ⟨E, hE⟩ : ∃ E, ckE p = E := ⟨_, rfl⟩
      rw [hE] at cD h1 ⊢
      have h2 : (E != 0) = true := by rw [bne_iff_ne]; exact h1
      have CD := Lib.hid cD
      clear hE hz hz' h h' e h0 h1 cD
      go_enter Tryd.func24, Tryd.ntmps24
      go_wp2_with fail
      refine cC.mono ?_
      rintro e w1 ⟨rfl, u1⟩
      go_wp2_with fail
      refine (CD.out w1 u1).mono ?_
      rintro e w2 ⟨rfl, u2⟩
      go_wp2_with fail
      go_ret2
      exact erh_none rfl (u1.trans u2)
  · have e : sbR i o p = (none, ckE o) := by unfold sbR; rw [if_neg h0]
    rw [e]
    obtain ⟨E, hE⟩ : ∃ E, ckE o = E := ⟨_, rfl⟩
    rw [hE] at cC h0 ⊢
    have h2 : (E != 0) = true := by rw [bne_iff_ne]; exact h0
    clear hE hz hz' h h' e h0 cD
    go_enter Tryd.func24, Tryd.ntmps24
    go_wp2_with fail
    refine cC.mono ?_
    rintro e w1 ⟨rfl, u1⟩
    go_wp2_with fail
    go_ret2
    exact erh_none rfl u1
end Go.Proofs.YtdofcjnkpgbjaaaDoor
