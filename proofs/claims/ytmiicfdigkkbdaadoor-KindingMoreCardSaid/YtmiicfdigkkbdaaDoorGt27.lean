/-
  Layer 10, the program's side: isCon, asked, Check, Kind.
-/
import Derived.Test.YtmiicfdigkkbdaaDoorGt10
import Derived.Test.YtmiicfdigkkbdaaDoorGt26
namespace Go.Proofs.YtmiicfdigkkbdaaDoor
open Go.RowKit

theorem allB_co0 (f : Fr) : ∀ k, allB (fun _ t => coT t) k f = coF 0 f := by
  induction f with
  | nil => intro k; rfl
  | cons x l r _ ih => intro k; rw [coF_0, ← ih (k + 1)]; rfl
theorem allB_co1 (f : Fr) (h : f.len = 2) : allB (fun j t => if j = 0 then kdT t else coT t) 0 f = coF 1 f := by
  obtain ⟨x, k, y, l, rfl⟩ := Fr.two h
  rw [coF_1, coF_0]
  rfl
theorem co_sma {f : Fr} (h : coF 3 f = true) : f.sma := by
  intro j t ht
  induction f generalizing j with
  | nil => cases ht
  | cons x k r _ ih =>
    rw [coF_3, Bool.and_eq_true] at h
    cases j with
    | zero =>
      injection ht with ht
      subst ht
      have h1 := h.1
      unfold fdT labB at h1
      simp only [Bool.and_eq_true, decide_eq_true_eq] at h1
      have := h1.2.2.1.2
      simp only
      omega
    | succ j => exact ih h.2 j ht
theorem lenI (N : Nat) : decide ((0 : Int) < (N : Int)) = (N != 0) := by
  cases N with
  | zero => rfl
  | succ n => rw [decide_eq_true (by omega)]; rfl
set_option maxHeartbeats 25600000 in
set_option maxRecDepth 100000 in
theorem pConA (n : Nat) (hbig : n + 1 ≤ 1000000000) (ih : CnAt n) (x : Nod) (ks : Fr) (hn : szT (x, ks) ≤ n + 1) (w : World) (Sq : Nat → Prop) (v : Value) (hS : Bel Sq w.heap.size) (hin : InT w Sq v (x, ks)) (hsel : x.k = 110) : Calls Tryd.prog 38 #[v] w (BoP (coT (x, ks)) w) := by
  have hsz : szT (x, ks) = 1 + ks.sz := rfl
  have hll := Fr.len_le ks
  have hks : ks.sz ≤ n := by omega
  have cP := pPlain hin
  have cK0 := pKids0 hin (by omega)
  have hbelU : ∀ W, Up w W → Bel Sq W.heap.size := fun W hu q hq => Nat.lt_of_lt_of_le (hS q hq) hu.size
  have ic : ∀ (t : Tr) (j : Nat), ks.get j = some t → ∀ (W : World) (u : Value), Up w W → InT W Sq u t → Calls Tryd.prog 38 #[u] W (BoP (coT t) W) := fun t j ht W u hu h => ih t (by have := Fr.get_le ht; omega) W Sq u (hbelU W hu) h
  have ik : ∀ (t : Tr) (j : Nat), ks.get j = some t → ∀ (W : World) (u : Value), Up w W → InT W Sq u t → Calls Tryd.prog 29 #[u] W (BoP (kdT t) W) := fun t j ht W u hu h => pKd n (by omega) t (by have := Fr.get_le ht; omega) W Sq u (hbelU W hu) h
  have cK2 := pKids2 hS hin (by omega) 38 38 ent_isCon ent_isCon coT coT (fun t ht => ic t 0 ht) (fun t ht => ic t 1 ht)
  have cKC := pKids2 hS hin (by omega) 29 38 ent_isKind ent_isCon kdT coT (fun t ht => ik t 0 ht) (fun t ht => ic t 1 ht)
  rw [show (fun (j : Nat) t => if j = 0 then coT t else coT t) = fun _ t => coT t from funext fun j => funext fun t => by split <;> rfl, allB_co0] at cK2
  have eKC : (ks.len == 2 && allB (fun j t => if j = 0 then kdT t else coT t) 0 ks) = (ks.len == 2 && coF 1 ks) := by
    cases h : (ks.len == 2) with
    | false => rfl
    | true => rw [allB_co1 ks (beq_iff_eq.1 h)]
  rw [eKC] at cKC
  have cF := pParts ih (by omega) 2 (by decide) (by decide) hS hin hks
  have cC := pParts ih (by omega) 3 (by decide) (by decide) hS hin hks
  obtain ⟨q, p, A, c, rfl, hq1, c0, c1, c2, c3, c4, hc, hkid⟩ := hin.open
  have hkU : ∀ W, Up w W → Kid W Sq A ks 0 := fun W hu => hkid.keep (fun _ h => h) fun b hb => hu.block b (hS b hb)
  have cR : ∀ W, Up w W → Calls Tryd.prog 67 #[.slice A ks.len c] W (BoP (lbF true [] ks) W) := fun W hu => pRise (hkU W hu) (by omega)
  have cD : coF 3 ks = true → ∀ W, Up w W → Calls Tryd.prog 68 #[.slice A ks.len c] W (BoP (lbF false [] ks) W) := fun h W hu => pDiffer (hbelU W hu) (hkU W hu) (by omega) (co_sma h)
  obtain ⟨R, hR⟩ : ∃ R, coT (x, ks) = R := ⟨_, rfl⟩
  have hV : coT (x, ks) = (if x.k = 110 then emq x.m && (emq x.a && (decide (0 ≤ x.n) && (decide (x.n ≤ 65536) && ks.len == 0)))
    else plnB x false && (if 111 ≤ x.k ∧ x.k ≤ 113 then ks.len == 0 else if x.k = 114 ∨ x.k = 120 then ks.len == 2 && coF 0 ks else if x.k = 115 then lbF true [] ks && coF 2 ks else if 117 ≤ x.k ∧ x.k ≤ 119 then ks.len == 2 && coF 1 ks
      else if x.k = 121 then ks.len != 0 && (lbF false [] ks && coF 3 ks) else false)) := rfl
  obtain ⟨K, hK⟩ : ∃ K, x.k = K := ⟨_, rfl⟩
  rw [hR, hK] at hV
  rw [hR]
  rw [hK] at c0 hsel
  clear hin ih hn hsz hR hK ic ik eKC hkU hbelU hkid hS hc
  by_cases h110 : K = 110
  · subst h110
    rw [if_pos rfl] at hV
    obtain ⟨M, hM⟩ : ∃ M, x.m = M := ⟨_, rfl⟩
    obtain ⟨Z, hZ⟩ : ∃ M, x.n = M := ⟨_, rfl⟩
    obtain ⟨Y, hY⟩ : ∃ M, x.a = M := ⟨_, rfl⟩
    rw [hM, hZ, hY] at hV
    rw [hM] at c3
    rw [hZ] at c1
    rw [hY] at c2
    unfold emq at hV
    obtain ⟨b1, h1⟩ : ∃ b, M.toList.isEmpty = b := ⟨_, rfl⟩
    obtain ⟨b2, h2⟩ : ∃ b, Y.toList.isEmpty = b := ⟨_, rfl⟩
    obtain ⟨b3, h3⟩ : ∃ b, decide (0 ≤ Z) = b := ⟨_, rfl⟩
    obtain ⟨b4, h4⟩ : ∃ b, decide (Z ≤ 65536) = b := ⟨_, rfl⟩
    obtain ⟨b5, h5⟩ : ∃ b, (ks.len == 0) = b := ⟨_, rfl⟩
    rw [h5] at cK0
    rw [h1, h2, h3, h4, h5] at hV
    have HV := Lib.hid hV
    have HT : Hid (b3 = true → b4 = true → b2 = true → b1 = true → R = b5) := Lib.hid (by rintro rfl rfl rfl rfl; rw [hV]; rfl)
    have HF : Hid (b3 = false ∨ b4 = false ∨ b2 = false ∨ b1 = false → R = false) := Lib.hid (by rintro (rfl | rfl | rfl | rfl) <;> rw [hV] <;> simp)
    clear hV hM hZ hY hll hks hbig cK2 cKC cF cC cR cD cP
    cases b3 with
    | false =>
      go_enter Tryd.func38, Tryd.ntmps38
      go_wp2_with fail
      go_ret
      exact bo_r (HF.out (by simp)) (Up.refl _)
    | true =>
      cases b4 with
      | false =>
        go_enter Tryd.func38, Tryd.ntmps38
        go_wp2_with fail
        go_ret
        exact bo_r (HF.out (by simp)) (Up.refl _)
      | true =>
        cases b2 with
        | false =>
          go_enter Tryd.func38, Tryd.ntmps38
          go_wp2_with fail
          go_ret
          exact bo_r (HF.out (by simp)) (Up.refl _)
        | true =>
          cases b1 with
          | false =>
            go_enter Tryd.func38, Tryd.ntmps38
            go_wp2_with fail
            go_ret
            exact bo_r (HF.out (by simp)) (Up.refl _)
          | true =>
            go_enter Tryd.func38, Tryd.ntmps38
            go_wp2_with fail
            refine cK0.mono ?_
            rintro e w' ⟨rfl, rfl⟩
            go_wp2_with fail
            go_ret
            exact bo_r (HT.out (by simp) (by simp) (by simp) (by simp)) (Up.refl _)
  · exfalso; omega
set_option maxHeartbeats 25600000 in
set_option maxRecDepth 100000 in
theorem pConB (n : Nat) (hbig : n + 1 ≤ 1000000000) (ih : CnAt n) (x : Nod) (ks : Fr) (hn : szT (x, ks) ≤ n + 1) (w : World) (Sq : Nat → Prop) (v : Value) (hS : Bel Sq w.heap.size) (hin : InT w Sq v (x, ks)) (hsel : 111 ≤ x.k ∧ x.k ≤ 113) : Calls Tryd.prog 38 #[v] w (BoP (coT (x, ks)) w) := by
  have hsz : szT (x, ks) = 1 + ks.sz := rfl
  have hll := Fr.len_le ks
  have hks : ks.sz ≤ n := by omega
  have cP := pPlain hin
  have cK0 := pKids0 hin (by omega)
  have hbelU : ∀ W, Up w W → Bel Sq W.heap.size := fun W hu q hq => Nat.lt_of_lt_of_le (hS q hq) hu.size
  have ic : ∀ (t : Tr) (j : Nat), ks.get j = some t → ∀ (W : World) (u : Value), Up w W → InT W Sq u t → Calls Tryd.prog 38 #[u] W (BoP (coT t) W) := fun t j ht W u hu h => ih t (by have := Fr.get_le ht; omega) W Sq u (hbelU W hu) h
  have ik : ∀ (t : Tr) (j : Nat), ks.get j = some t → ∀ (W : World) (u : Value), Up w W → InT W Sq u t → Calls Tryd.prog 29 #[u] W (BoP (kdT t) W) := fun t j ht W u hu h => pKd n (by omega) t (by have := Fr.get_le ht; omega) W Sq u (hbelU W hu) h
  have cK2 := pKids2 hS hin (by omega) 38 38 ent_isCon ent_isCon coT coT (fun t ht => ic t 0 ht) (fun t ht => ic t 1 ht)
  have cKC := pKids2 hS hin (by omega) 29 38 ent_isKind ent_isCon kdT coT (fun t ht => ik t 0 ht) (fun t ht => ic t 1 ht)
  rw [show (fun (j : Nat) t => if j = 0 then coT t else coT t) = fun _ t => coT t from funext fun j => funext fun t => by split <;> rfl, allB_co0] at cK2
  have eKC : (ks.len == 2 && allB (fun j t => if j = 0 then kdT t else coT t) 0 ks) = (ks.len == 2 && coF 1 ks) := by
    cases h : (ks.len == 2) with
    | false => rfl
    | true => rw [allB_co1 ks (beq_iff_eq.1 h)]
  rw [eKC] at cKC
  have cF := pParts ih (by omega) 2 (by decide) (by decide) hS hin hks
  have cC := pParts ih (by omega) 3 (by decide) (by decide) hS hin hks
  obtain ⟨q, p, A, c, rfl, hq1, c0, c1, c2, c3, c4, hc, hkid⟩ := hin.open
  have hkU : ∀ W, Up w W → Kid W Sq A ks 0 := fun W hu => hkid.keep (fun _ h => h) fun b hb => hu.block b (hS b hb)
  have cR : ∀ W, Up w W → Calls Tryd.prog 67 #[.slice A ks.len c] W (BoP (lbF true [] ks) W) := fun W hu => pRise (hkU W hu) (by omega)
  have cD : coF 3 ks = true → ∀ W, Up w W → Calls Tryd.prog 68 #[.slice A ks.len c] W (BoP (lbF false [] ks) W) := fun h W hu => pDiffer (hbelU W hu) (hkU W hu) (by omega) (co_sma h)
  obtain ⟨R, hR⟩ : ∃ R, coT (x, ks) = R := ⟨_, rfl⟩
  have hV : coT (x, ks) = (if x.k = 110 then emq x.m && (emq x.a && (decide (0 ≤ x.n) && (decide (x.n ≤ 65536) && ks.len == 0)))
    else plnB x false && (if 111 ≤ x.k ∧ x.k ≤ 113 then ks.len == 0 else if x.k = 114 ∨ x.k = 120 then ks.len == 2 && coF 0 ks else if x.k = 115 then lbF true [] ks && coF 2 ks else if 117 ≤ x.k ∧ x.k ≤ 119 then ks.len == 2 && coF 1 ks
      else if x.k = 121 then ks.len != 0 && (lbF false [] ks && coF 3 ks) else false)) := rfl
  obtain ⟨K, hK⟩ : ∃ K, x.k = K := ⟨_, rfl⟩
  rw [hR, hK] at hV
  rw [hR]
  rw [hK] at c0 hsel
  clear hin ih hn hsz hR hK ic ik eKC hkU hbelU hkid hS hc
  by_cases h110 : K = 110
  · exfalso; omega
  · rw [if_neg h110] at hV
    obtain ⟨b, hb⟩ : ∃ b, plnB x false = b := ⟨_, rfl⟩
    obtain ⟨N, hN⟩ : ∃ b, ks.len = b := ⟨_, rfl⟩
    obtain ⟨d0, hd0⟩ : ∃ b, (ks.len == 0) = b := ⟨_, rfl⟩
    obtain ⟨d2, hd2⟩ : ∃ b, (ks.len == 2 && coF 0 ks) = b := ⟨_, rfl⟩
    obtain ⟨d1, hd1⟩ : ∃ b, (ks.len == 2 && coF 1 ks) = b := ⟨_, rfl⟩
    obtain ⟨f2, hf2⟩ : ∃ b, coF 2 ks = b := ⟨_, rfl⟩
    obtain ⟨f3, hf3⟩ : ∃ b, coF 3 ks = b := ⟨_, rfl⟩
    obtain ⟨r1, hr1⟩ : ∃ b, lbF true [] ks = b := ⟨_, rfl⟩
    obtain ⟨r2, hr2⟩ : ∃ b, lbF false [] ks = b := ⟨_, rfl⟩
    obtain ⟨z, hz⟩ : ∃ b, (ks.len != 0) = b := ⟨_, rfl⟩
    have hz' : decide ((0 : Int) < (N : Int)) = z := by rw [lenI, ← hN]; exact hz
    rw [hb] at cP
    rw [hd0] at cK0
    rw [hd2] at cK2
    rw [hd1] at cKC
    rw [hf2] at cF
    rw [hf3] at cC cD
    rw [hr1, hN] at cR
    rw [hr2, hN] at cD
    rw [hN] at c4
    rw [hb, hd0, hd2, hd1, hf2, hf3, hr1, hr2, hz] at hV
    have CR := Lib.hid cR
    have CD := Lib.hid cD
    clear c1 c2 c3 hb hd0 hd2 hd1 hf2 hf3 hr1 hr2 hz hN hll hks hbig cR cD
    by_cases k : K = 111 ∨ K = 112 ∨ K = 113
    · rw [if_pos (by omega)] at hV
      cases b with
      | false =>
        have HX : Hid (R = false) := Lib.hid (by rw [hV]; simp)
        clear hV
        clear cK0 cK2 cKC cF cC CR CD
        rcases k with rfl | rfl | rfl
        all_goals
          go_enter Tryd.func38, Tryd.ntmps38
          go_wp2_with fail
          refine cP.mono ?_
          rintro e w' ⟨rfl, rfl⟩
          go_wp2_with fail
          go_ret
          exact bo_r HX.out (Up.refl _)
      | true =>
        have HX : Hid (R = d0) := Lib.hid (by rw [hV, Bool.true_and])
        clear hV
        rcases k with rfl | rfl | rfl
        all_goals
          go_enter Tryd.func38, Tryd.ntmps38
          go_wp2_with fail
          refine cP.mono ?_
          rintro e w' ⟨rfl, rfl⟩
          go_wp2_with fail
          refine cK0.mono ?_
          rintro e w' ⟨rfl, rfl⟩
          go_wp2_with fail
          go_ret
          exact bo_r HX.out (Up.refl _)
    · exfalso; omega
set_option maxHeartbeats 25600000 in
set_option maxRecDepth 100000 in
theorem pConC (n : Nat) (hbig : n + 1 ≤ 1000000000) (ih : CnAt n) (x : Nod) (ks : Fr) (hn : szT (x, ks) ≤ n + 1) (w : World) (Sq : Nat → Prop) (v : Value) (hS : Bel Sq w.heap.size) (hin : InT w Sq v (x, ks)) (hsel : x.k = 114 ∨ x.k = 120) : Calls Tryd.prog 38 #[v] w (BoP (coT (x, ks)) w) := by
  have hsz : szT (x, ks) = 1 + ks.sz := rfl
  have hll := Fr.len_le ks
  have hks : ks.sz ≤ n := by omega
  have cP := pPlain hin
  have cK0 := pKids0 hin (by omega)
  have hbelU : ∀ W, Up w W → Bel Sq W.heap.size := fun W hu q hq => Nat.lt_of_lt_of_le (hS q hq) hu.size
  have ic : ∀ (t : Tr) (j : Nat), ks.get j = some t → ∀ (W : World) (u : Value), Up w W → InT W Sq u t → Calls Tryd.prog 38 #[u] W (BoP (coT t) W) := fun t j ht W u hu h => ih t (by have := Fr.get_le ht; omega) W Sq u (hbelU W hu) h
  have ik : ∀ (t : Tr) (j : Nat), ks.get j = some t → ∀ (W : World) (u : Value), Up w W → InT W Sq u t → Calls Tryd.prog 29 #[u] W (BoP (kdT t) W) := fun t j ht W u hu h => pKd n (by omega) t (by have := Fr.get_le ht; omega) W Sq u (hbelU W hu) h
  have cK2 := pKids2 hS hin (by omega) 38 38 ent_isCon ent_isCon coT coT (fun t ht => ic t 0 ht) (fun t ht => ic t 1 ht)
  have cKC := pKids2 hS hin (by omega) 29 38 ent_isKind ent_isCon kdT coT (fun t ht => ik t 0 ht) (fun t ht => ic t 1 ht)
  rw [show (fun (j : Nat) t => if j = 0 then coT t else coT t) = fun _ t => coT t from funext fun j => funext fun t => by split <;> rfl, allB_co0] at cK2
  have eKC : (ks.len == 2 && allB (fun j t => if j = 0 then kdT t else coT t) 0 ks) = (ks.len == 2 && coF 1 ks) := by
    cases h : (ks.len == 2) with
    | false => rfl
    | true => rw [allB_co1 ks (beq_iff_eq.1 h)]
  rw [eKC] at cKC
  have cF := pParts ih (by omega) 2 (by decide) (by decide) hS hin hks
  have cC := pParts ih (by omega) 3 (by decide) (by decide) hS hin hks
  obtain ⟨q, p, A, c, rfl, hq1, c0, c1, c2, c3, c4, hc, hkid⟩ := hin.open
  have hkU : ∀ W, Up w W → Kid W Sq A ks 0 := fun W hu => hkid.keep (fun _ h => h) fun b hb => hu.block b (hS b hb)
  have cR : ∀ W, Up w W → Calls Tryd.prog 67 #[.slice A ks.len c] W (BoP (lbF true [] ks) W) := fun W hu => pRise (hkU W hu) (by omega)
  have cD : coF 3 ks = true → ∀ W, Up w W → Calls Tryd.prog 68 #[.slice A ks.len c] W (BoP (lbF false [] ks) W) := fun h W hu => pDiffer (hbelU W hu) (hkU W hu) (by omega) (co_sma h)
  obtain ⟨R, hR⟩ : ∃ R, coT (x, ks) = R := ⟨_, rfl⟩
  have hV : coT (x, ks) = (if x.k = 110 then emq x.m && (emq x.a && (decide (0 ≤ x.n) && (decide (x.n ≤ 65536) && ks.len == 0)))
    else plnB x false && (if 111 ≤ x.k ∧ x.k ≤ 113 then ks.len == 0 else if x.k = 114 ∨ x.k = 120 then ks.len == 2 && coF 0 ks else if x.k = 115 then lbF true [] ks && coF 2 ks else if 117 ≤ x.k ∧ x.k ≤ 119 then ks.len == 2 && coF 1 ks
      else if x.k = 121 then ks.len != 0 && (lbF false [] ks && coF 3 ks) else false)) := rfl
  obtain ⟨K, hK⟩ : ∃ K, x.k = K := ⟨_, rfl⟩
  rw [hR, hK] at hV
  rw [hR]
  rw [hK] at c0 hsel
  clear hin ih hn hsz hR hK ic ik eKC hkU hbelU hkid hS hc
  by_cases h110 : K = 110
  · exfalso; omega
  · rw [if_neg h110] at hV
    obtain ⟨b, hb⟩ : ∃ b, plnB x false = b := ⟨_, rfl⟩
    obtain ⟨N, hN⟩ : ∃ b, ks.len = b := ⟨_, rfl⟩
    obtain ⟨d0, hd0⟩ : ∃ b, (ks.len == 0) = b := ⟨_, rfl⟩
    obtain ⟨d2, hd2⟩ : ∃ b, (ks.len == 2 && coF 0 ks) = b := ⟨_, rfl⟩
    obtain ⟨d1, hd1⟩ : ∃ b, (ks.len == 2 && coF 1 ks) = b := ⟨_, rfl⟩
    obtain ⟨f2, hf2⟩ : ∃ b, coF 2 ks = b := ⟨_, rfl⟩
    obtain ⟨f3, hf3⟩ : ∃ b, coF 3 ks = b := ⟨_, rfl⟩
    obtain ⟨r1, hr1⟩ : ∃ b, lbF true [] ks = b := ⟨_, rfl⟩
    obtain ⟨r2, hr2⟩ : ∃ b, lbF false [] ks = b := ⟨_, rfl⟩
    obtain ⟨z, hz⟩ : ∃ b, (ks.len != 0) = b := ⟨_, rfl⟩
    have hz' : decide ((0 : Int) < (N : Int)) = z := by rw [lenI, ← hN]; exact hz
    rw [hb] at cP
    rw [hd0] at cK0
    rw [hd2] at cK2
    rw [hd1] at cKC
    rw [hf2] at cF
    rw [hf3] at cC cD
    rw [hr1, hN] at cR
    rw [hr2, hN] at cD
    rw [hN] at c4
    rw [hb, hd0, hd2, hd1, hf2, hf3, hr1, hr2, hz] at hV
    have CR := Lib.hid cR
    have CD := Lib.hid cD
    clear c1 c2 c3 hb hd0 hd2 hd1 hf2 hf3 hr1 hr2 hz hN hll hks hbig cR cD
    by_cases k : K = 111 ∨ K = 112 ∨ K = 113
    · exfalso; omega
    · rw [if_neg (by omega)] at hV
      by_cases k : K = 114 ∨ K = 120
      · rw [if_pos k] at hV
        cases b with
        | false =>
          have HX : Hid (R = false) := Lib.hid (by rw [hV]; simp)
          clear hV
          clear cK0 cK2 cKC cF cC CR CD
          rcases k with rfl | rfl
          all_goals
            go_enter Tryd.func38, Tryd.ntmps38
            go_wp2_with fail
            refine cP.mono ?_
            rintro e w' ⟨rfl, rfl⟩
            go_wp2_with fail
            go_ret
            exact bo_r HX.out (Up.refl _)
        | true =>
          have HX : Hid (R = d2) := Lib.hid (by rw [hV, Bool.true_and])
          clear hV
          rcases k with rfl | rfl
          all_goals
            go_enter Tryd.func38, Tryd.ntmps38
            go_wp2_with fail
            refine cP.mono ?_
            rintro e w' ⟨rfl, rfl⟩
            go_wp2_with fail
            refine cK2.mono ?_
            rintro e w' ⟨rfl, u'⟩
            go_wp2_with fail
            go_ret
            exact bo_r HX.out u'
      · exfalso; omega
set_option maxHeartbeats 25600000 in
set_option maxRecDepth 100000 in
theorem pConD (n : Nat) (hbig : n + 1 ≤ 1000000000) (ih : CnAt n) (x : Nod) (ks : Fr) (hn : szT (x, ks) ≤ n + 1) (w : World) (Sq : Nat → Prop) (v : Value) (hS : Bel Sq w.heap.size) (hin : InT w Sq v (x, ks)) (hsel : x.k = 115) : Calls Tryd.prog 38 #[v] w (BoP (coT (x, ks)) w) := by
  have hsz : szT (x, ks) = 1 + ks.sz := rfl
  have hll := Fr.len_le ks
  have hks : ks.sz ≤ n := by omega
  have cP := pPlain hin
  have cK0 := pKids0 hin (by omega)
  have hbelU : ∀ W, Up w W → Bel Sq W.heap.size := fun W hu q hq => Nat.lt_of_lt_of_le (hS q hq) hu.size
  have ic : ∀ (t : Tr) (j : Nat), ks.get j = some t → ∀ (W : World) (u : Value), Up w W → InT W Sq u t → Calls Tryd.prog 38 #[u] W (BoP (coT t) W) := fun t j ht W u hu h => ih t (by have := Fr.get_le ht; omega) W Sq u (hbelU W hu) h
  have ik : ∀ (t : Tr) (j : Nat), ks.get j = some t → ∀ (W : World) (u : Value), Up w W → InT W Sq u t → Calls Tryd.prog 29 #[u] W (BoP (kdT t) W) := fun t j ht W u hu h => pKd n (by omega) t (by have := Fr.get_le ht; omega) W Sq u (hbelU W hu) h
  have cK2 := pKids2 hS hin (by omega) 38 38 ent_isCon ent_isCon coT coT (fun t ht => ic t 0 ht) (fun t ht => ic t 1 ht)
  have cKC := pKids2 hS hin (by omega) 29 38 ent_isKind ent_isCon kdT coT (fun t ht => ik t 0 ht) (fun t ht => ic t 1 ht)
  rw [show (fun (j : Nat) t => if j = 0 then coT t else coT t) = fun _ t => coT t from funext fun j => funext fun t => by split <;> rfl, allB_co0] at cK2
  have eKC : (ks.len == 2 && allB (fun j t => if j = 0 then kdT t else coT t) 0 ks) = (ks.len == 2 && coF 1 ks) := by
    cases h : (ks.len == 2) with
    | false => rfl
    | true => rw [allB_co1 ks (beq_iff_eq.1 h)]
  rw [eKC] at cKC
  have cF := pParts ih (by omega) 2 (by decide) (by decide) hS hin hks
  have cC := pParts ih (by omega) 3 (by decide) (by decide) hS hin hks
  obtain ⟨q, p, A, c, rfl, hq1, c0, c1, c2, c3, c4, hc, hkid⟩ := hin.open
  have hkU : ∀ W, Up w W → Kid W Sq A ks 0 := fun W hu => hkid.keep (fun _ h => h) fun b hb => hu.block b (hS b hb)
  have cR : ∀ W, Up w W → Calls Tryd.prog 67 #[.slice A ks.len c] W (BoP (lbF true [] ks) W) := fun W hu => pRise (hkU W hu) (by omega)
  have cD : coF 3 ks = true → ∀ W, Up w W → Calls Tryd.prog 68 #[.slice A ks.len c] W (BoP (lbF false [] ks) W) := fun h W hu => pDiffer (hbelU W hu) (hkU W hu) (by omega) (co_sma h)
  obtain ⟨R, hR⟩ : ∃ R, coT (x, ks) = R := ⟨_, rfl⟩
  have hV : coT (x, ks) = (if x.k = 110 then emq x.m && (emq x.a && (decide (0 ≤ x.n) && (decide (x.n ≤ 65536) && ks.len == 0)))
    else plnB x false && (if 111 ≤ x.k ∧ x.k ≤ 113 then ks.len == 0 else if x.k = 114 ∨ x.k = 120 then ks.len == 2 && coF 0 ks else if x.k = 115 then lbF true [] ks && coF 2 ks else if 117 ≤ x.k ∧ x.k ≤ 119 then ks.len == 2 && coF 1 ks
      else if x.k = 121 then ks.len != 0 && (lbF false [] ks && coF 3 ks) else false)) := rfl
  obtain ⟨K, hK⟩ : ∃ K, x.k = K := ⟨_, rfl⟩
  rw [hR, hK] at hV
  rw [hR]
  rw [hK] at c0 hsel
  clear hin ih hn hsz hR hK ic ik eKC hkU hbelU hkid hS hc
  by_cases h110 : K = 110
  · exfalso; omega
  · rw [if_neg h110] at hV
    obtain ⟨b, hb⟩ : ∃ b, plnB x false = b := ⟨_, rfl⟩
    obtain ⟨N, hN⟩ : ∃ b, ks.len = b := ⟨_, rfl⟩
    obtain ⟨d0, hd0⟩ : ∃ b, (ks.len == 0) = b := ⟨_, rfl⟩
    obtain ⟨d2, hd2⟩ : ∃ b, (ks.len == 2 && coF 0 ks) = b := ⟨_, rfl⟩
    obtain ⟨d1, hd1⟩ : ∃ b, (ks.len == 2 && coF 1 ks) = b := ⟨_, rfl⟩
    obtain ⟨f2, hf2⟩ : ∃ b, coF 2 ks = b := ⟨_, rfl⟩
    obtain ⟨f3, hf3⟩ : ∃ b, coF 3 ks = b := ⟨_, rfl⟩
    obtain ⟨r1, hr1⟩ : ∃ b, lbF true [] ks = b := ⟨_, rfl⟩
    obtain ⟨r2, hr2⟩ : ∃ b, lbF false [] ks = b := ⟨_, rfl⟩
    obtain ⟨z, hz⟩ : ∃ b, (ks.len != 0) = b := ⟨_, rfl⟩
    have hz' : decide ((0 : Int) < (N : Int)) = z := by rw [lenI, ← hN]; exact hz
    rw [hb] at cP
    rw [hd0] at cK0
    rw [hd2] at cK2
    rw [hd1] at cKC
    rw [hf2] at cF
    rw [hf3] at cC cD
    rw [hr1, hN] at cR
    rw [hr2, hN] at cD
    rw [hN] at c4
    rw [hb, hd0, hd2, hd1, hf2, hf3, hr1, hr2, hz] at hV
    have CR := Lib.hid cR
    have CD := Lib.hid cD
    clear c1 c2 c3 hb hd0 hd2 hd1 hf2 hf3 hr1 hr2 hz hN hll hks hbig cR cD
    by_cases k : K = 111 ∨ K = 112 ∨ K = 113
    · exfalso; omega
    · rw [if_neg (by omega)] at hV
      by_cases k : K = 114 ∨ K = 120
      · exfalso; omega
      · rw [if_neg k] at hV
        by_cases k3 : K = 115
        · rw [if_pos k3] at hV
          subst k3
          cases b with
          | false =>
            have HX : Hid (R = false) := Lib.hid (by rw [hV]; simp)
            clear hV
            clear cK0 cK2 cKC cF cC CR CD
            go_enter Tryd.func38, Tryd.ntmps38
            go_wp2_with fail
            refine cP.mono ?_
            rintro e w' ⟨rfl, rfl⟩
            go_wp2_with fail
            go_ret
            exact bo_r HX.out (Up.refl _)
          | true =>
            cases f2 with
            | false =>
              have HX : Hid (R = false) := Lib.hid (by rw [hV]; simp)
              clear hV
              clear cK0 cK2 cKC cC CR CD
              go_enter Tryd.func38, Tryd.ntmps38
              go_wp2_with fail
              refine cP.mono ?_
              rintro e w' ⟨rfl, rfl⟩
              go_wp2_with fail
              refine cF.mono ?_
              rintro e w2 ⟨rfl, u2⟩
              go_wp2_with fail
              go_ret
              exact bo_r HX.out u2
            | true =>
              have HX : Hid (R = r1) := Lib.hid (by rw [hV, Bool.true_and, Bool.and_true])
              clear hV cK0 cK2 cKC cC CD
              go_enter Tryd.func38, Tryd.ntmps38
              go_wp2_with fail
              refine cP.mono ?_
              rintro e w' ⟨rfl, rfl⟩
              go_wp2_with fail
              refine cF.mono ?_
              rintro e w2 ⟨rfl, u2⟩
              have c4b := u2.cell c4
              go_wp2_with fail
              refine (CR.out w2 u2).mono ?_
              rintro e w3 ⟨rfl, u3⟩
              go_wp2_with fail
              go_ret
              exact bo_r HX.out (u2.trans u3)
        · exfalso; omega
set_option maxHeartbeats 25600000 in
set_option maxRecDepth 100000 in
theorem pConE (n : Nat) (hbig : n + 1 ≤ 1000000000) (ih : CnAt n) (x : Nod) (ks : Fr) (hn : szT (x, ks) ≤ n + 1) (w : World) (Sq : Nat → Prop) (v : Value) (hS : Bel Sq w.heap.size) (hin : InT w Sq v (x, ks)) (hsel : 117 ≤ x.k ∧ x.k ≤ 119) : Calls Tryd.prog 38 #[v] w (BoP (coT (x, ks)) w) := by
  have hsz : szT (x, ks) = 1 + ks.sz := rfl
  have hll := Fr.len_le ks
  have hks : ks.sz ≤ n := by omega
  have cP := pPlain hin
  have cK0 := pKids0 hin (by omega)
  have hbelU : ∀ W, Up w W → Bel Sq W.heap.size := fun W hu q hq => Nat.lt_of_lt_of_le (hS q hq) hu.size
  have ic : ∀ (t : Tr) (j : Nat), ks.get j = some t → ∀ (W : World) (u : Value), Up w W → InT W Sq u t → Calls Tryd.prog 38 #[u] W (BoP (coT t) W) := fun t j ht W u hu h => ih t (by have := Fr.get_le ht; omega) W Sq u (hbelU W hu) h
  have ik : ∀ (t : Tr) (j : Nat), ks.get j = some t → ∀ (W : World) (u : Value), Up w W → InT W Sq u t → Calls Tryd.prog 29 #[u] W (BoP (kdT t) W) := fun t j ht W u hu h => pKd n (by omega) t (by have := Fr.get_le ht; omega) W Sq u (hbelU W hu) h
  have cK2 := pKids2 hS hin (by omega) 38 38 ent_isCon ent_isCon coT coT (fun t ht => ic t 0 ht) (fun t ht => ic t 1 ht)
  have cKC := pKids2 hS hin (by omega) 29 38 ent_isKind ent_isCon kdT coT (fun t ht => ik t 0 ht) (fun t ht => ic t 1 ht)
  rw [show (fun (j : Nat) t => if j = 0 then coT t else coT t) = fun _ t => coT t from funext fun j => funext fun t => by split <;> rfl, allB_co0] at cK2
  have eKC : (ks.len == 2 && allB (fun j t => if j = 0 then kdT t else coT t) 0 ks) = (ks.len == 2 && coF 1 ks) := by
    cases h : (ks.len == 2) with
    | false => rfl
    | true => rw [allB_co1 ks (beq_iff_eq.1 h)]
  rw [eKC] at cKC
  have cF := pParts ih (by omega) 2 (by decide) (by decide) hS hin hks
  have cC := pParts ih (by omega) 3 (by decide) (by decide) hS hin hks
  obtain ⟨q, p, A, c, rfl, hq1, c0, c1, c2, c3, c4, hc, hkid⟩ := hin.open
  have hkU : ∀ W, Up w W → Kid W Sq A ks 0 := fun W hu => hkid.keep (fun _ h => h) fun b hb => hu.block b (hS b hb)
  have cR : ∀ W, Up w W → Calls Tryd.prog 67 #[.slice A ks.len c] W (BoP (lbF true [] ks) W) := fun W hu => pRise (hkU W hu) (by omega)
  have cD : coF 3 ks = true → ∀ W, Up w W → Calls Tryd.prog 68 #[.slice A ks.len c] W (BoP (lbF false [] ks) W) := fun h W hu => pDiffer (hbelU W hu) (hkU W hu) (by omega) (co_sma h)
  obtain ⟨R, hR⟩ : ∃ R, coT (x, ks) = R := ⟨_, rfl⟩
  have hV : coT (x, ks) = (if x.k = 110 then emq x.m && (emq x.a && (decide (0 ≤ x.n) && (decide (x.n ≤ 65536) && ks.len == 0)))
    else plnB x false && (if 111 ≤ x.k ∧ x.k ≤ 113 then ks.len == 0 else if x.k = 114 ∨ x.k = 120 then ks.len == 2 && coF 0 ks else if x.k = 115 then lbF true [] ks && coF 2 ks else if 117 ≤ x.k ∧ x.k ≤ 119 then ks.len == 2 && coF 1 ks
      else if x.k = 121 then ks.len != 0 && (lbF false [] ks && coF 3 ks) else false)) := rfl
  obtain ⟨K, hK⟩ : ∃ K, x.k = K := ⟨_, rfl⟩
  rw [hR, hK] at hV
  rw [hR]
  rw [hK] at c0 hsel
  clear hin ih hn hsz hR hK ic ik eKC hkU hbelU hkid hS hc
  by_cases h110 : K = 110
  · exfalso; omega
  · rw [if_neg h110] at hV
    obtain ⟨b, hb⟩ : ∃ b, plnB x false = b := ⟨_, rfl⟩
    obtain ⟨N, hN⟩ : ∃ b, ks.len = b := ⟨_, rfl⟩
    obtain ⟨d0, hd0⟩ : ∃ b, (ks.len == 0) = b := ⟨_, rfl⟩
    obtain ⟨d2, hd2⟩ : ∃ b, (ks.len == 2 && coF 0 ks) = b := ⟨_, rfl⟩
    obtain ⟨d1, hd1⟩ : ∃ b, (ks.len == 2 && coF 1 ks) = b := ⟨_, rfl⟩
    obtain ⟨f2, hf2⟩ : ∃ b, coF 2 ks = b := ⟨_, rfl⟩
    obtain ⟨f3, hf3⟩ : ∃ b, coF 3 ks = b := ⟨_, rfl⟩
    obtain ⟨r1, hr1⟩ : ∃ b, lbF true [] ks = b := ⟨_, rfl⟩
    obtain ⟨r2, hr2⟩ : ∃ b, lbF false [] ks = b := ⟨_, rfl⟩
    obtain ⟨z, hz⟩ : ∃ b, (ks.len != 0) = b := ⟨_, rfl⟩
    have hz' : decide ((0 : Int) < (N : Int)) = z := by rw [lenI, ← hN]; exact hz
    rw [hb] at cP
    rw [hd0] at cK0
    rw [hd2] at cK2
    rw [hd1] at cKC
    rw [hf2] at cF
    rw [hf3] at cC cD
    rw [hr1, hN] at cR
    rw [hr2, hN] at cD
    rw [hN] at c4
    rw [hb, hd0, hd2, hd1, hf2, hf3, hr1, hr2, hz] at hV
    have CR := Lib.hid cR
    have CD := Lib.hid cD
    clear c1 c2 c3 hb hd0 hd2 hd1 hf2 hf3 hr1 hr2 hz hN hll hks hbig cR cD
    by_cases k : K = 111 ∨ K = 112 ∨ K = 113
    · exfalso; omega
    · rw [if_neg (by omega)] at hV
      by_cases k : K = 114 ∨ K = 120
      · exfalso; omega
      · rw [if_neg k] at hV
        by_cases k3 : K = 115
        · exfalso; omega
        · rw [if_neg k3] at hV
          by_cases k : K = 117 ∨ K = 118 ∨ K = 119
          · rw [if_pos (by omega)] at hV
            cases b with
            | false =>
              have HX : Hid (R = false) := Lib.hid (by rw [hV]; simp)
              clear hV
              clear cK0 cK2 cKC cF cC CR CD
              rcases k with rfl | rfl | rfl
              all_goals
                go_enter Tryd.func38, Tryd.ntmps38
                go_wp2_with fail
                refine cP.mono ?_
                rintro e w' ⟨rfl, rfl⟩
                go_wp2_with fail
                go_ret
                exact bo_r HX.out (Up.refl _)
            | true =>
              have HX : Hid (R = d1) := Lib.hid (by rw [hV, Bool.true_and])
              clear hV
              rcases k with rfl | rfl | rfl
              all_goals
                go_enter Tryd.func38, Tryd.ntmps38
                go_wp2_with fail
                refine cP.mono ?_
                rintro e w' ⟨rfl, rfl⟩
                go_wp2_with fail
                refine cKC.mono ?_
                rintro e w' ⟨rfl, u'⟩
                go_wp2_with fail
                go_ret
                exact bo_r HX.out u'
          · exfalso; omega
set_option maxHeartbeats 25600000 in
set_option maxRecDepth 100000 in
theorem pConF (n : Nat) (hbig : n + 1 ≤ 1000000000) (ih : CnAt n) (x : Nod) (ks : Fr) (hn : szT (x, ks) ≤ n + 1) (w : World) (Sq : Nat → Prop) (v : Value) (hS : Bel Sq w.heap.size) (hin : InT w Sq v (x, ks)) (hsel : ¬ x.k = 110 ∧ ¬ (111 ≤ x.k ∧ x.k ≤ 115) ∧ ¬ (117 ≤ x.k ∧ x.k ≤ 120)) : Calls Tryd.prog 38 #[v] w (BoP (coT (x, ks)) w) := by
  have hsz : szT (x, ks) = 1 + ks.sz := rfl
  have hll := Fr.len_le ks
  have hks : ks.sz ≤ n := by omega
  have cP := pPlain hin
  have cK0 := pKids0 hin (by omega)
  have hbelU : ∀ W, Up w W → Bel Sq W.heap.size := fun W hu q hq => Nat.lt_of_lt_of_le (hS q hq) hu.size
  have ic : ∀ (t : Tr) (j : Nat), ks.get j = some t → ∀ (W : World) (u : Value), Up w W → InT W Sq u t → Calls Tryd.prog 38 #[u] W (BoP (coT t) W) := fun t j ht W u hu h => ih t (by have := Fr.get_le ht; omega) W Sq u (hbelU W hu) h
  have ik : ∀ (t : Tr) (j : Nat), ks.get j = some t → ∀ (W : World) (u : Value), Up w W → InT W Sq u t → Calls Tryd.prog 29 #[u] W (BoP (kdT t) W) := fun t j ht W u hu h => pKd n (by omega) t (by have := Fr.get_le ht; omega) W Sq u (hbelU W hu) h
  have cK2 := pKids2 hS hin (by omega) 38 38 ent_isCon ent_isCon coT coT (fun t ht => ic t 0 ht) (fun t ht => ic t 1 ht)
  have cKC := pKids2 hS hin (by omega) 29 38 ent_isKind ent_isCon kdT coT (fun t ht => ik t 0 ht) (fun t ht => ic t 1 ht)
  rw [show (fun (j : Nat) t => if j = 0 then coT t else coT t) = fun _ t => coT t from funext fun j => funext fun t => by split <;> rfl, allB_co0] at cK2
  have eKC : (ks.len == 2 && allB (fun j t => if j = 0 then kdT t else coT t) 0 ks) = (ks.len == 2 && coF 1 ks) := by
    cases h : (ks.len == 2) with
    | false => rfl
    | true => rw [allB_co1 ks (beq_iff_eq.1 h)]
  rw [eKC] at cKC
  have cF := pParts ih (by omega) 2 (by decide) (by decide) hS hin hks
  have cC := pParts ih (by omega) 3 (by decide) (by decide) hS hin hks
  obtain ⟨q, p, A, c, rfl, hq1, c0, c1, c2, c3, c4, hc, hkid⟩ := hin.open
  have hkU : ∀ W, Up w W → Kid W Sq A ks 0 := fun W hu => hkid.keep (fun _ h => h) fun b hb => hu.block b (hS b hb)
  have cR : ∀ W, Up w W → Calls Tryd.prog 67 #[.slice A ks.len c] W (BoP (lbF true [] ks) W) := fun W hu => pRise (hkU W hu) (by omega)
  have cD : coF 3 ks = true → ∀ W, Up w W → Calls Tryd.prog 68 #[.slice A ks.len c] W (BoP (lbF false [] ks) W) := fun h W hu => pDiffer (hbelU W hu) (hkU W hu) (by omega) (co_sma h)
  obtain ⟨R, hR⟩ : ∃ R, coT (x, ks) = R := ⟨_, rfl⟩
  have hV : coT (x, ks) = (if x.k = 110 then emq x.m && (emq x.a && (decide (0 ≤ x.n) && (decide (x.n ≤ 65536) && ks.len == 0)))
    else plnB x false && (if 111 ≤ x.k ∧ x.k ≤ 113 then ks.len == 0 else if x.k = 114 ∨ x.k = 120 then ks.len == 2 && coF 0 ks else if x.k = 115 then lbF true [] ks && coF 2 ks else if 117 ≤ x.k ∧ x.k ≤ 119 then ks.len == 2 && coF 1 ks
      else if x.k = 121 then ks.len != 0 && (lbF false [] ks && coF 3 ks) else false)) := rfl
  obtain ⟨K, hK⟩ : ∃ K, x.k = K := ⟨_, rfl⟩
  rw [hR, hK] at hV
  rw [hR]
  rw [hK] at c0 hsel
  clear hin ih hn hsz hR hK ic ik eKC hkU hbelU hkid hS hc
  by_cases h110 : K = 110
  · exfalso; omega
  · rw [if_neg h110] at hV
    obtain ⟨b, hb⟩ : ∃ b, plnB x false = b := ⟨_, rfl⟩
    obtain ⟨N, hN⟩ : ∃ b, ks.len = b := ⟨_, rfl⟩
    obtain ⟨d0, hd0⟩ : ∃ b, (ks.len == 0) = b := ⟨_, rfl⟩
    obtain ⟨d2, hd2⟩ : ∃ b, (ks.len == 2 && coF 0 ks) = b := ⟨_, rfl⟩
    obtain ⟨d1, hd1⟩ : ∃ b, (ks.len == 2 && coF 1 ks) = b := ⟨_, rfl⟩
    obtain ⟨f2, hf2⟩ : ∃ b, coF 2 ks = b := ⟨_, rfl⟩
    obtain ⟨f3, hf3⟩ : ∃ b, coF 3 ks = b := ⟨_, rfl⟩
    obtain ⟨r1, hr1⟩ : ∃ b, lbF true [] ks = b := ⟨_, rfl⟩
    obtain ⟨r2, hr2⟩ : ∃ b, lbF false [] ks = b := ⟨_, rfl⟩
    obtain ⟨z, hz⟩ : ∃ b, (ks.len != 0) = b := ⟨_, rfl⟩
    have hz' : decide ((0 : Int) < (N : Int)) = z := by rw [lenI, ← hN]; exact hz
    rw [hb] at cP
    rw [hd0] at cK0
    rw [hd2] at cK2
    rw [hd1] at cKC
    rw [hf2] at cF
    rw [hf3] at cC cD
    rw [hr1, hN] at cR
    rw [hr2, hN] at cD
    rw [hN] at c4
    rw [hb, hd0, hd2, hd1, hf2, hf3, hr1, hr2, hz] at hV
    have CR := Lib.hid cR
    have CD := Lib.hid cD
    clear c1 c2 c3 hb hd0 hd2 hd1 hf2 hf3 hr1 hr2 hz hN hll hks hbig cR cD
    by_cases k : K = 111 ∨ K = 112 ∨ K = 113
    · exfalso; omega
    · rw [if_neg (by omega)] at hV
      by_cases k : K = 114 ∨ K = 120
      · exfalso; omega
      · rw [if_neg k] at hV
        by_cases k3 : K = 115
        · exfalso; omega
        · rw [if_neg k3] at hV
          by_cases k : K = 117 ∨ K = 118 ∨ K = 119
          · exfalso; omega
          · rw [if_neg (by omega)] at hV
            by_cases k5 : K = 121
            · rw [if_pos k5] at hV
              subst k5
              cases b with
              | false =>
                have HX : Hid (R = false) := Lib.hid (by rw [hV]; simp)
                clear hV
                clear cK0 cK2 cKC cF cC CR CD
                go_enter Tryd.func38, Tryd.ntmps38
                go_wp2_with fail
                refine cP.mono ?_
                rintro e w' ⟨rfl, rfl⟩
                go_wp2_with fail
                go_ret
                exact bo_r HX.out (Up.refl _)
              | true =>
                cases z with
                | false =>
                  have hz1 : ¬ (0 : Int) < (N : Int) := of_decide_eq_false hz'
                  clear hz'
                  have HX : Hid (R = false) := Lib.hid (by rw [hV]; simp)
                  clear hV
                  clear cK0 cK2 cKC cF cC CR CD
                  go_enter Tryd.func38, Tryd.ntmps38
                  go_wp2_with fail
                  refine cP.mono ?_
                  rintro e w' ⟨rfl, rfl⟩
                  go_wp2_with fail
                  go_ret
                  exact bo_r HX.out (Up.refl _)
                | true =>
                  have hz1 : (0 : Int) < (N : Int) := of_decide_eq_true hz'
                  clear hz'
                  cases f3 with
                  | false =>
                    have HX : Hid (R = false) := Lib.hid (by rw [hV]; simp)
                    clear hV
                    clear cK0 cK2 cKC cF CR CD
                    go_enter Tryd.func38, Tryd.ntmps38
                    go_wp2_with fail
                    refine cP.mono ?_
                    rintro e w' ⟨rfl, rfl⟩
                    go_wp2_with fail
                    refine cC.mono ?_
                    rintro e w2 ⟨rfl, u2⟩
                    go_wp2_with fail
                    go_ret
                    exact bo_r HX.out u2
                  | true =>
                    have HX : Hid (R = r2) := Lib.hid (by rw [hV, Bool.true_and, Bool.true_and, Bool.and_true])
                    clear hV cK0 cK2 cKC cF CR
                    go_enter Tryd.func38, Tryd.ntmps38
                    go_wp2_with fail
                    refine cP.mono ?_
                    rintro e w' ⟨rfl, rfl⟩
                    go_wp2_with fail
                    refine cC.mono ?_
                    rintro e w2 ⟨rfl, u2⟩
                    have c4b := u2.cell c4
                    go_wp2_with fail
                    refine (CD.out (by simp) w2 u2).mono ?_
                    rintro e w3 ⟨rfl, u3⟩
                    go_wp2_with fail
                    go_ret
                    exact bo_r HX.out (u2.trans u3)
            · rw [if_neg k5, Bool.and_false] at hV
              have HX : Hid (R = false) := Lib.hid hV
              have n1 : ¬ K = 111 := by omega
              have n2 : ¬ K = 112 := by omega
              have n3 : ¬ K = 113 := by omega
              have n4 : ¬ K = 114 := by omega
              have n5 : ¬ K = 120 := by omega
              have n6 : ¬ K = 117 := by omega
              have n7 : ¬ K = 118 := by omega
              have n8 : ¬ K = 119 := by omega
              clear hV cK0 cK2 cKC cF cC CR CD cP
              go_enter Tryd.func38, Tryd.ntmps38
              go_wp2_with fail
              go_ret
              exact bo_r HX.out (Up.refl _)
theorem pCon : ∀ (n : Nat), n ≤ 1000000000 → CnAt n
  | 0, _ => fun t h => absurd h (by unfold szT; omega)
  | n + 1, hbig => by
    have ih := pCon n (by omega)
    rintro ⟨x, ks⟩ hn w Sq v hS hin
    by_cases h1 : x.k = 110
    · exact pConA n hbig ih x ks hn w Sq v hS hin h1
    by_cases h2 : 111 ≤ x.k ∧ x.k ≤ 113
    · exact pConB n hbig ih x ks hn w Sq v hS hin h2
    by_cases h3 : x.k = 114 ∨ x.k = 120
    · exact pConC n hbig ih x ks hn w Sq v hS hin h3
    by_cases h4 : x.k = 115
    · exact pConD n hbig ih x ks hn w Sq v hS hin h4
    by_cases h5 : 117 ≤ x.k ∧ x.k ≤ 119
    · exact pConE n hbig ih x ks hn w Sq v hS hin h5
    exact pConF n hbig ih x ks hn w Sq v hS hin (by omega)
end Go.Proofs.YtmiicfdigkkbdaaDoor
