/-
  Layer 10, the document's side: IsCon, whole.
-/
import Derived.Test.YtmiicfdigkkbdaaDoorGt08
namespace Go.Proofs.YtmiicfdigkkbdaaDoor
open Go.RowKit

theorem two_co (R : Bool) (f : Fr) (b1 b2 : Bool) (a d : Nod) (ka kd : Fr) (hf : f = .cons a ka (.cons d kd .nil)) (h1 : coT (a, ka) = b1) (h2 : coT (d, kd) = b2) (hR : R = (f.len == 2 && coF 0 f)) : R = (b1 && b2) := by
  rw [hR, hf, coF_0, coF_0, h1, h2]
  show (true && (b1 && (b2 && true))) = _
  rw [Bool.and_true, Bool.true_and]
theorem two_kc (R : Bool) (f : Fr) (b1 b2 : Bool) (a d : Nod) (ka kd : Fr) (hf : f = .cons a ka (.cons d kd .nil)) (h1 : kdT (a, ka) = b1) (h2 : coT (d, kd) = b2) (hR : R = (f.len == 2 && coF 1 f)) : R = (b1 && b2) := by
  rw [hR, hf, coF_1, coF_0, h1, h2]
  show (true && (b1 && (b2 && true))) = _
  rw [Bool.and_true, Bool.true_and]
theorem nat_beq0 (N : Nat) : (N == 0) = ((N : Int) == 0) := by
  cases N with
  | zero => rfl
  | succ n => rw [show (n + 1 == 0) = false from rfl]; symm; rw [beq_eq_false_iff_ne]; omega
theorem Kid.two {w : World} {Sq : Nat → Prop} {A : Option Addr} {a d : Nod} {ka kd : Fr} (h : Kid w Sq A (.cons a ka (.cons d kd .nil)) 0) :
    ∃ kb ko u1 u2, A = some ⟨kb, ko, none⟩ ∧ w.cell? ⟨kb, ko, none⟩ = some u1 ∧ w.cell? ⟨kb, ko + 1, none⟩ = some u2 ∧ InT w Sq u1 (a, ka) ∧ InT w Sq u2 (d, kd) ∧ Sq kb := by
  obtain ⟨kb, ko, u1, rfl, hkb, hu1, ht1, hk1⟩ := h.next
  obtain ⟨kb', ko', u2, he, _, hu2, ht2, _⟩ := hk1.next
  injection he with he
  injection he with e1 e2
  subst e1 e2
  exact ⟨kb, ko, u1, u2, rfl, by rw [Nat.add_zero] at hu1; exact hu1, hu2, ht1, ht2, hkb⟩
set_option maxHeartbeats 12800000 in
set_option maxRecDepth 100000 in
theorem refCoA (n : Nat) (hbig : n + 1 ≤ 1000000000) (ih : CoAt n) (x : Nod) (ks : Fr) (hn : szT (x, ks) ≤ n + 1) (w : World) (Sq : Nat → Prop) (v : Value) (hin : InT w Sq v (x, ks)) (hsel : x.k = 110) : Calls Tryd.prog 41 #[v] w (DrB (coT (x, ks)) w) := by
  have hsz : szT (x, ks) = 1 + ks.sz := rfl
  have cP := refPln false hin
  obtain ⟨q, p, A, c, rfl, hq1, c0, c1, c2, c3, c4, hc, hkid⟩ := hin.open
  have cL2 := refLabels ih 2 (by decide) (by decide) true ks (by omega) (by omega) w Sq A c hkid
  have cL3 := refLabels ih 3 (by decide) (by decide) false ks (by omega) (by omega) w Sq A c hkid
  have hll := Fr.len_le ks
  have HIH := Lib.hid ih
  have HKID := Lib.hid hkid
  obtain ⟨N, hN⟩ : ∃ N, ks.len = N := ⟨_, rfl⟩
  obtain ⟨R, hR⟩ : ∃ R, coT (x, ks) = R := ⟨_, rfl⟩
  have hV : coT (x, ks) = (if x.k = 110 then emq x.m && (emq x.a && (decide (0 ≤ x.n) && (decide (x.n ≤ 65536) && N == 0)))
    else plnB x false && (if 111 ≤ x.k ∧ x.k ≤ 113 then N == 0 else if x.k = 114 ∨ x.k = 120 then N == 2 && coF 0 ks else if x.k = 115 then lbF true [] ks && coF 2 ks else if 117 ≤ x.k ∧ x.k ≤ 119 then N == 2 && coF 1 ks
      else if x.k = 121 then N != 0 && (lbF false [] ks && coF 3 ks) else false)) := by rw [← hN]; rfl
  obtain ⟨K, hK⟩ : ∃ K, x.k = K := ⟨_, rfl⟩
  rw [hR, hK] at hV
  rw [hR]
  rw [hK] at c0
  rw [hN] at c4 hll cL2 cL3
  have hN1 : N ≤ 1000000000 := by omega
  clear hin hkid ih
  by_cases h110 : K = 110
  · subst h110
    rw [if_pos rfl] at hV
    obtain ⟨M, hM⟩ : ∃ M, x.m = M := ⟨_, rfl⟩
    obtain ⟨Z, hZ⟩ : ∃ M, x.n = M := ⟨_, rfl⟩
    obtain ⟨Y, hY⟩ : ∃ M, x.a = M := ⟨_, rfl⟩
    rw [hM, hZ, hY] at hV
    rw [hM] at c3
    rw [hZ] at c1
    rw [hY] at c2
    unfold emq at hV
    obtain ⟨b1, h1⟩ : ∃ b, M.toList.isEmpty = b := ⟨_, rfl⟩
    obtain ⟨b2, h2⟩ : ∃ b, Y.toList.isEmpty = b := ⟨_, rfl⟩
    obtain ⟨b3, h3⟩ : ∃ b, decide (0 ≤ Z) = b := ⟨_, rfl⟩
    obtain ⟨b4, h4⟩ : ∃ b, decide (Z ≤ 65536) = b := ⟨_, rfl⟩
    obtain ⟨b5, h5⟩ : ∃ b, ((N : Int) == 0) = b := ⟨_, rfl⟩
    rw [h1, h2, h3, h4, nat_beq0, h5] at hV
    have HV := Lib.hid hV
    clear hV hR hM hZ hY hK hN hsz hn hll cP cL2 cL3 hc hbig
    cases b1 <;> cases b2 <;> cases b3 <;> cases b4 <;> cases b5
    all_goals
      go_enter Tryd.func41, Tryd.ntmps41
      go_wp2_with fail
      go_ret
      exact drb0 HV.out.symm
  · exfalso; omega
set_option maxHeartbeats 12800000 in
set_option maxRecDepth 100000 in
theorem refCoB (n : Nat) (hbig : n + 1 ≤ 1000000000) (ih : CoAt n) (x : Nod) (ks : Fr) (hn : szT (x, ks) ≤ n + 1) (w : World) (Sq : Nat → Prop) (v : Value) (hin : InT w Sq v (x, ks)) (hsel : 111 ≤ x.k ∧ x.k ≤ 113) : Calls Tryd.prog 41 #[v] w (DrB (coT (x, ks)) w) := by
  have hsz : szT (x, ks) = 1 + ks.sz := rfl
  have cP := refPln false hin
  obtain ⟨q, p, A, c, rfl, hq1, c0, c1, c2, c3, c4, hc, hkid⟩ := hin.open
  have cL2 := refLabels ih 2 (by decide) (by decide) true ks (by omega) (by omega) w Sq A c hkid
  have cL3 := refLabels ih 3 (by decide) (by decide) false ks (by omega) (by omega) w Sq A c hkid
  have hll := Fr.len_le ks
  have HIH := Lib.hid ih
  have HKID := Lib.hid hkid
  obtain ⟨N, hN⟩ : ∃ N, ks.len = N := ⟨_, rfl⟩
  obtain ⟨R, hR⟩ : ∃ R, coT (x, ks) = R := ⟨_, rfl⟩
  have hV : coT (x, ks) = (if x.k = 110 then emq x.m && (emq x.a && (decide (0 ≤ x.n) && (decide (x.n ≤ 65536) && N == 0)))
    else plnB x false && (if 111 ≤ x.k ∧ x.k ≤ 113 then N == 0 else if x.k = 114 ∨ x.k = 120 then N == 2 && coF 0 ks else if x.k = 115 then lbF true [] ks && coF 2 ks else if 117 ≤ x.k ∧ x.k ≤ 119 then N == 2 && coF 1 ks
      else if x.k = 121 then N != 0 && (lbF false [] ks && coF 3 ks) else false)) := by rw [← hN]; rfl
  obtain ⟨K, hK⟩ : ∃ K, x.k = K := ⟨_, rfl⟩
  rw [hR, hK] at hV
  rw [hR]
  rw [hK] at c0
  rw [hN] at c4 hll cL2 cL3
  have hN1 : N ≤ 1000000000 := by omega
  clear hin hkid ih
  by_cases h110 : K = 110
  · exfalso; omega
  · rw [if_neg h110] at hV
    obtain ⟨b, hb⟩ : ∃ b, plnB x false = b := ⟨_, rfl⟩
    rw [hb] at cP hV
    clear c1 c2 c3 hb
    cases b with
    | false =>
      have HV := Lib.hid hV
      clear hV hR hK hN hsz hn hll cL2 cL3 hc hbig
      go_enter Tryd.func41, Tryd.ntmps41
      go_wp2_with fail
      refine cP.mono ?_
      rintro e w' ⟨rfl, rfl⟩
      go_wp2_with fail
      go_ret
      exact drb0 HV.out.symm
    | true =>
      rw [Bool.true_and] at hV
      by_cases k1 : K = 111 ∨ K = 112 ∨ K = 113
      · rw [if_pos (by omega), nat_beq0] at hV
        obtain ⟨b5, h5⟩ : ∃ b, ((N : Int) == 0) = b := ⟨_, rfl⟩
        rw [h5] at hV
        have HV := Lib.hid hV
        clear hV hR hN hsz hn hll cL2 cL3 hc hbig h110 hK
        cases b5 <;> rcases k1 with rfl | rfl | rfl
        all_goals
          go_enter Tryd.func41, Tryd.ntmps41
          go_wp2_with fail
          refine cP.mono ?_
          rintro e w' ⟨rfl, rfl⟩
          go_wp2_with fail
          go_ret
          exact drb0 HV.out.symm
      · exfalso; omega
set_option maxHeartbeats 12800000 in
set_option maxRecDepth 100000 in
theorem refCoC (n : Nat) (hbig : n + 1 ≤ 1000000000) (ih : CoAt n) (x : Nod) (ks : Fr) (hn : szT (x, ks) ≤ n + 1) (w : World) (Sq : Nat → Prop) (v : Value) (hin : InT w Sq v (x, ks)) (hsel : x.k = 114 ∨ x.k = 120) : Calls Tryd.prog 41 #[v] w (DrB (coT (x, ks)) w) := by
  have hsz : szT (x, ks) = 1 + ks.sz := rfl
  have cP := refPln false hin
  obtain ⟨q, p, A, c, rfl, hq1, c0, c1, c2, c3, c4, hc, hkid⟩ := hin.open
  have cL2 := refLabels ih 2 (by decide) (by decide) true ks (by omega) (by omega) w Sq A c hkid
  have cL3 := refLabels ih 3 (by decide) (by decide) false ks (by omega) (by omega) w Sq A c hkid
  have hll := Fr.len_le ks
  have HIH := Lib.hid ih
  have HKID := Lib.hid hkid
  obtain ⟨N, hN⟩ : ∃ N, ks.len = N := ⟨_, rfl⟩
  obtain ⟨R, hR⟩ : ∃ R, coT (x, ks) = R := ⟨_, rfl⟩
  have hV : coT (x, ks) = (if x.k = 110 then emq x.m && (emq x.a && (decide (0 ≤ x.n) && (decide (x.n ≤ 65536) && N == 0)))
    else plnB x false && (if 111 ≤ x.k ∧ x.k ≤ 113 then N == 0 else if x.k = 114 ∨ x.k = 120 then N == 2 && coF 0 ks else if x.k = 115 then lbF true [] ks && coF 2 ks else if 117 ≤ x.k ∧ x.k ≤ 119 then N == 2 && coF 1 ks
      else if x.k = 121 then N != 0 && (lbF false [] ks && coF 3 ks) else false)) := by rw [← hN]; rfl
  obtain ⟨K, hK⟩ : ∃ K, x.k = K := ⟨_, rfl⟩
  rw [hR, hK] at hV
  rw [hR]
  rw [hK] at c0
  rw [hN] at c4 hll cL2 cL3
  have hN1 : N ≤ 1000000000 := by omega
  clear hin hkid ih
  by_cases h110 : K = 110
  · exfalso; omega
  · rw [if_neg h110] at hV
    obtain ⟨b, hb⟩ : ∃ b, plnB x false = b := ⟨_, rfl⟩
    rw [hb] at cP hV
    clear c1 c2 c3 hb
    cases b with
    | false =>
      have HV := Lib.hid hV
      clear hV hR hK hN hsz hn hll cL2 cL3 hc hbig
      go_enter Tryd.func41, Tryd.ntmps41
      go_wp2_with fail
      refine cP.mono ?_
      rintro e w' ⟨rfl, rfl⟩
      go_wp2_with fail
      go_ret
      exact drb0 HV.out.symm
    | true =>
      rw [Bool.true_and] at hV
      by_cases k1 : K = 111 ∨ K = 112 ∨ K = 113
      · exfalso; omega
      · rw [if_neg (by omega)] at hV
        by_cases k2 : K = 114 ∨ K = 120
        · rw [if_pos k2] at hV
          by_cases h2 : N = 2
          · obtain ⟨a, ka, d, kd, rfl⟩ := Fr.two (hN.trans h2)
            obtain ⟨kb, ko, u1, u2, rfl, hu1, hu2, ht1, ht2, hkb⟩ := Kid.two HKID.out
            simp only [Fr.sz] at hsz
            have cA := HIH.out (a, ka) (by unfold szT; simp only; omega) w Sq u1 ht1
            have cD := fun W => fun h => HIH.out (d, kd) (by unfold szT; simp only; omega) W Sq u2 h
            obtain ⟨b1, hb1⟩ : ∃ b, coT (a, ka) = b := ⟨_, rfl⟩
            obtain ⟨b2, hb2⟩ : ∃ b, coT (d, kd) = b := ⟨_, rfl⟩
            have HV := Lib.hid (two_co R _ b1 b2 a d ka kd rfl hb1 hb2 (by rw [hN]; exact hV))
            rw [hb1] at cA
            rw [hb2] at cD
            have CD := Lib.hid cD
            have HT2 := Lib.hid ht2
            clear hV hR hN hsz hn hll cL2 cL3 hc hbig h110 hK k1 hb1 hb2 ht1 ht2 cD
            subst h2
            cases b1 with
            | false =>
              rcases k2 with rfl | rfl
              all_goals
                go_enter Tryd.func41, Tryd.ntmps41
                go_wp2_with fail
                refine cP.mono ?_
                rintro e w' ⟨rfl, rfl⟩
                go_wp2_with fail
                refine cA.mono ?_
                rintro e w' ⟨rfl, q1, rfl⟩
                go_wp2_with fail
                go_ret
                exact drb _ HV.out.symm
            | true =>
              rcases k2 with rfl | rfl
              all_goals
                go_enter Tryd.func41, Tryd.ntmps41
                go_wp2_with fail
                refine cP.mono ?_
                rintro e w' ⟨rfl, rfl⟩
                go_wp2_with fail
                refine cA.mono ?_
                rintro e w' ⟨rfl, q1, rfl⟩
                go_wp2_with fail
                refine (CD.out _ (HT2.out.drew q1)).mono ?_
                rintro e w' ⟨rfl, q2, rfl⟩
                go_wp2_with fail
                go_ret
                exact drb _ HV.out.symm
          · have HV : Hid (R = false) := Lib.hid (by
              rw [hV]
              cases h : (N == 2) with
              | false => rfl
              | true => exact absurd (beq_iff_eq.1 h) h2)
            have hz : ((N : Int) == 2) = false := by rw [beq_eq_false_iff_ne]; omega
            clear hV hR hN hsz hn hll cL2 cL3 hc hbig h110 hK k1 h2
            rcases k2 with rfl | rfl
            all_goals
              go_enter Tryd.func41, Tryd.ntmps41
              go_wp2_with fail
              refine cP.mono ?_
              rintro e w' ⟨rfl, rfl⟩
              go_wp2_with fail
              go_ret
              exact drb0 HV.out.symm
        · exfalso; omega
set_option maxHeartbeats 12800000 in
set_option maxRecDepth 100000 in
theorem refCoD (n : Nat) (hbig : n + 1 ≤ 1000000000) (ih : CoAt n) (x : Nod) (ks : Fr) (hn : szT (x, ks) ≤ n + 1) (w : World) (Sq : Nat → Prop) (v : Value) (hin : InT w Sq v (x, ks)) (hsel : x.k = 115) : Calls Tryd.prog 41 #[v] w (DrB (coT (x, ks)) w) := by
  have hsz : szT (x, ks) = 1 + ks.sz := rfl
  have cP := refPln false hin
  obtain ⟨q, p, A, c, rfl, hq1, c0, c1, c2, c3, c4, hc, hkid⟩ := hin.open
  have cL2 := refLabels ih 2 (by decide) (by decide) true ks (by omega) (by omega) w Sq A c hkid
  have cL3 := refLabels ih 3 (by decide) (by decide) false ks (by omega) (by omega) w Sq A c hkid
  have hll := Fr.len_le ks
  have HIH := Lib.hid ih
  have HKID := Lib.hid hkid
  obtain ⟨N, hN⟩ : ∃ N, ks.len = N := ⟨_, rfl⟩
  obtain ⟨R, hR⟩ : ∃ R, coT (x, ks) = R := ⟨_, rfl⟩
  have hV : coT (x, ks) = (if x.k = 110 then emq x.m && (emq x.a && (decide (0 ≤ x.n) && (decide (x.n ≤ 65536) && N == 0)))
    else plnB x false && (if 111 ≤ x.k ∧ x.k ≤ 113 then N == 0 else if x.k = 114 ∨ x.k = 120 then N == 2 && coF 0 ks else if x.k = 115 then lbF true [] ks && coF 2 ks else if 117 ≤ x.k ∧ x.k ≤ 119 then N == 2 && coF 1 ks
      else if x.k = 121 then N != 0 && (lbF false [] ks && coF 3 ks) else false)) := by rw [← hN]; rfl
  obtain ⟨K, hK⟩ : ∃ K, x.k = K := ⟨_, rfl⟩
  rw [hR, hK] at hV
  rw [hR]
  rw [hK] at c0
  rw [hN] at c4 hll cL2 cL3
  have hN1 : N ≤ 1000000000 := by omega
  clear hin hkid ih
  by_cases h110 : K = 110
  · exfalso; omega
  · rw [if_neg h110] at hV
    obtain ⟨b, hb⟩ : ∃ b, plnB x false = b := ⟨_, rfl⟩
    rw [hb] at cP hV
    clear c1 c2 c3 hb
    cases b with
    | false =>
      have HV := Lib.hid hV
      clear hV hR hK hN hsz hn hll cL2 cL3 hc hbig
      go_enter Tryd.func41, Tryd.ntmps41
      go_wp2_with fail
      refine cP.mono ?_
      rintro e w' ⟨rfl, rfl⟩
      go_wp2_with fail
      go_ret
      exact drb0 HV.out.symm
    | true =>
      rw [Bool.true_and] at hV
      by_cases k1 : K = 111 ∨ K = 112 ∨ K = 113
      · exfalso; omega
      · rw [if_neg (by omega)] at hV
        by_cases k2 : K = 114 ∨ K = 120
        · exfalso; omega
        · rw [if_neg k2] at hV
          by_cases k3 : K = 115
          · rw [if_pos k3] at hV
            have HV := Lib.hid hV
            subst k3
            clear hV hR hN hsz hn hll cL3 hc hbig h110 hK k1 k2
            go_enter Tryd.func41, Tryd.ntmps41
            go_wp2_with fail
            refine cP.mono ?_
            rintro e w' ⟨rfl, rfl⟩
            go_wp2_with fail
            refine cL2.mono ?_
            rintro e w' ⟨rfl, q1, rfl⟩
            go_wp2_with fail
            go_ret
            exact drb _ HV.out.symm
          · exfalso; omega
set_option maxHeartbeats 12800000 in
set_option maxRecDepth 100000 in
theorem refCoE (n : Nat) (hbig : n + 1 ≤ 1000000000) (ih : CoAt n) (x : Nod) (ks : Fr) (hn : szT (x, ks) ≤ n + 1) (w : World) (Sq : Nat → Prop) (v : Value) (hin : InT w Sq v (x, ks)) (hsel : 117 ≤ x.k ∧ x.k ≤ 119) : Calls Tryd.prog 41 #[v] w (DrB (coT (x, ks)) w) := by
  have hsz : szT (x, ks) = 1 + ks.sz := rfl
  have cP := refPln false hin
  obtain ⟨q, p, A, c, rfl, hq1, c0, c1, c2, c3, c4, hc, hkid⟩ := hin.open
  have cL2 := refLabels ih 2 (by decide) (by decide) true ks (by omega) (by omega) w Sq A c hkid
  have cL3 := refLabels ih 3 (by decide) (by decide) false ks (by omega) (by omega) w Sq A c hkid
  have hll := Fr.len_le ks
  have HIH := Lib.hid ih
  have HKID := Lib.hid hkid
  obtain ⟨N, hN⟩ : ∃ N, ks.len = N := ⟨_, rfl⟩
  obtain ⟨R, hR⟩ : ∃ R, coT (x, ks) = R := ⟨_, rfl⟩
  have hV : coT (x, ks) = (if x.k = 110 then emq x.m && (emq x.a && (decide (0 ≤ x.n) && (decide (x.n ≤ 65536) && N == 0)))
    else plnB x false && (if 111 ≤ x.k ∧ x.k ≤ 113 then N == 0 else if x.k = 114 ∨ x.k = 120 then N == 2 && coF 0 ks else if x.k = 115 then lbF true [] ks && coF 2 ks else if 117 ≤ x.k ∧ x.k ≤ 119 then N == 2 && coF 1 ks
      else if x.k = 121 then N != 0 && (lbF false [] ks && coF 3 ks) else false)) := by rw [← hN]; rfl
  obtain ⟨K, hK⟩ : ∃ K, x.k = K := ⟨_, rfl⟩
  rw [hR, hK] at hV
  rw [hR]
  rw [hK] at c0
  rw [hN] at c4 hll cL2 cL3
  have hN1 : N ≤ 1000000000 := by omega
  clear hin hkid ih
  by_cases h110 : K = 110
  · exfalso; omega
  · rw [if_neg h110] at hV
    obtain ⟨b, hb⟩ : ∃ b, plnB x false = b := ⟨_, rfl⟩
    rw [hb] at cP hV
    clear c1 c2 c3 hb
    cases b with
    | false =>
      have HV := Lib.hid hV
      clear hV hR hK hN hsz hn hll cL2 cL3 hc hbig
      go_enter Tryd.func41, Tryd.ntmps41
      go_wp2_with fail
      refine cP.mono ?_
      rintro e w' ⟨rfl, rfl⟩
      go_wp2_with fail
      go_ret
      exact drb0 HV.out.symm
    | true =>
      rw [Bool.true_and] at hV
      by_cases k1 : K = 111 ∨ K = 112 ∨ K = 113
      · exfalso; omega
      · rw [if_neg (by omega)] at hV
        by_cases k2 : K = 114 ∨ K = 120
        · exfalso; omega
        · rw [if_neg k2] at hV
          by_cases k3 : K = 115
          · exfalso; omega
          · rw [if_neg k3] at hV
            by_cases k4 : K = 117 ∨ K = 118 ∨ K = 119
            · rw [if_pos (by omega)] at hV
              by_cases h2 : N = 2
              · obtain ⟨a, ka, d, kd, rfl⟩ := Fr.two (hN.trans h2)
                obtain ⟨kb, ko, u1, u2, rfl, hu1, hu2, ht1, ht2, hkb⟩ := Kid.two HKID.out
                simp only [Fr.sz] at hsz
                have cA := refKd n (a, ka) (by unfold szT; simp only; omega) w Sq u1 ht1
                have cD := HIH.out (d, kd) (by unfold szT; simp only; omega) w Sq u2 ht2
                obtain ⟨b1, hb1⟩ : ∃ b, kdT (a, ka) = b := ⟨_, rfl⟩
                obtain ⟨b2, hb2⟩ : ∃ b, coT (d, kd) = b := ⟨_, rfl⟩
                have HV := Lib.hid (two_kc R _ b1 b2 a d ka kd rfl hb1 hb2 (by rw [hN]; exact hV))
                rw [hb1] at cA
                rw [hb2] at cD
                clear hV hR hN hsz hn hll cL2 cL3 hc hbig h110 hK k1 k2 k3 hb1 hb2 ht1 ht2
                subst h2
                cases b1 with
                | false =>
                  rcases k4 with rfl | rfl | rfl
                  all_goals
                    go_enter Tryd.func41, Tryd.ntmps41
                    go_wp2_with fail
                    refine cP.mono ?_
                    rintro e w' ⟨rfl, rfl⟩
                    go_wp2_with fail
                    refine cA.mono ?_
                    rintro e w' ⟨rfl, rfl⟩
                    go_wp2_with fail
                    go_ret
                    exact drb0 HV.out.symm
                | true =>
                  rcases k4 with rfl | rfl | rfl
                  all_goals
                    go_enter Tryd.func41, Tryd.ntmps41
                    go_wp2_with fail
                    refine cP.mono ?_
                    rintro e w' ⟨rfl, rfl⟩
                    go_wp2_with fail
                    refine cA.mono ?_
                    rintro e w' ⟨rfl, rfl⟩
                    go_wp2_with fail
                    refine cD.mono ?_
                    rintro e w' ⟨rfl, q2, rfl⟩
                    go_wp2_with fail
                    go_ret
                    exact drb _ HV.out.symm
              · have HV : Hid (R = false) := Lib.hid (by
                  rw [hV]
                  cases h : (N == 2) with
                  | false => rfl
                  | true => exact absurd (beq_iff_eq.1 h) h2)
                have hz : ((N : Int) == 2) = false := by rw [beq_eq_false_iff_ne]; omega
                clear hV hR hN hsz hn hll cL2 cL3 hc hbig h110 hK k1 k2 k3 h2
                rcases k4 with rfl | rfl | rfl
                all_goals
                  go_enter Tryd.func41, Tryd.ntmps41
                  go_wp2_with fail
                  refine cP.mono ?_
                  rintro e w' ⟨rfl, rfl⟩
                  go_wp2_with fail
                  go_ret
                  exact drb0 HV.out.symm
            · exfalso; omega
set_option maxHeartbeats 12800000 in
set_option maxRecDepth 100000 in
theorem refCoF (n : Nat) (hbig : n + 1 ≤ 1000000000) (ih : CoAt n) (x : Nod) (ks : Fr) (hn : szT (x, ks) ≤ n + 1) (w : World) (Sq : Nat → Prop) (v : Value) (hin : InT w Sq v (x, ks)) (hsel : ¬ x.k = 110 ∧ ¬ (111 ≤ x.k ∧ x.k ≤ 115) ∧ ¬ (117 ≤ x.k ∧ x.k ≤ 120)) : Calls Tryd.prog 41 #[v] w (DrB (coT (x, ks)) w) := by
  have hsz : szT (x, ks) = 1 + ks.sz := rfl
  have cP := refPln false hin
  obtain ⟨q, p, A, c, rfl, hq1, c0, c1, c2, c3, c4, hc, hkid⟩ := hin.open
  have cL2 := refLabels ih 2 (by decide) (by decide) true ks (by omega) (by omega) w Sq A c hkid
  have cL3 := refLabels ih 3 (by decide) (by decide) false ks (by omega) (by omega) w Sq A c hkid
  have hll := Fr.len_le ks
  have HIH := Lib.hid ih
  have HKID := Lib.hid hkid
  obtain ⟨N, hN⟩ : ∃ N, ks.len = N := ⟨_, rfl⟩
  obtain ⟨R, hR⟩ : ∃ R, coT (x, ks) = R := ⟨_, rfl⟩
  have hV : coT (x, ks) = (if x.k = 110 then emq x.m && (emq x.a && (decide (0 ≤ x.n) && (decide (x.n ≤ 65536) && N == 0)))
    else plnB x false && (if 111 ≤ x.k ∧ x.k ≤ 113 then N == 0 else if x.k = 114 ∨ x.k = 120 then N == 2 && coF 0 ks else if x.k = 115 then lbF true [] ks && coF 2 ks else if 117 ≤ x.k ∧ x.k ≤ 119 then N == 2 && coF 1 ks
      else if x.k = 121 then N != 0 && (lbF false [] ks && coF 3 ks) else false)) := by rw [← hN]; rfl
  obtain ⟨K, hK⟩ : ∃ K, x.k = K := ⟨_, rfl⟩
  rw [hR, hK] at hV
  rw [hR]
  rw [hK] at c0
  rw [hN] at c4 hll cL2 cL3
  have hN1 : N ≤ 1000000000 := by omega
  clear hin hkid ih
  by_cases h110 : K = 110
  · exfalso; omega
  · rw [if_neg h110] at hV
    obtain ⟨b, hb⟩ : ∃ b, plnB x false = b := ⟨_, rfl⟩
    rw [hb] at cP hV
    clear c1 c2 c3 hb
    cases b with
    | false =>
      have HV := Lib.hid hV
      clear hV hR hK hN hsz hn hll cL2 cL3 hc hbig
      go_enter Tryd.func41, Tryd.ntmps41
      go_wp2_with fail
      refine cP.mono ?_
      rintro e w' ⟨rfl, rfl⟩
      go_wp2_with fail
      go_ret
      exact drb0 HV.out.symm
    | true =>
      rw [Bool.true_and] at hV
      by_cases k1 : K = 111 ∨ K = 112 ∨ K = 113
      · exfalso; omega
      · rw [if_neg (by omega)] at hV
        by_cases k2 : K = 114 ∨ K = 120
        · exfalso; omega
        · rw [if_neg k2] at hV
          by_cases k3 : K = 115
          · exfalso; omega
          · rw [if_neg k3] at hV
            by_cases k4 : K = 117 ∨ K = 118 ∨ K = 119
            · exfalso; omega
            · rw [if_neg (by omega)] at hV
              by_cases k5 : K = 121
              · rw [if_pos k5] at hV
                subst k5
                by_cases h0 : N = 0
                · have HV : Hid (R = false) := Lib.hid (by rw [hV, h0]; rfl)
                  have hz : ¬ (0 : Int) < (N : Int) := by omega
                  clear hV hR hN hsz hn hll cL2 cL3 hc hbig h110 hK k1 k2 k3 k4 h0
                  go_enter Tryd.func41, Tryd.ntmps41
                  go_wp2_with fail
                  refine cP.mono ?_
                  rintro e w' ⟨rfl, rfl⟩
                  go_wp2_with fail
                  go_ret
                  exact drb0 HV.out.symm
                · have HV : Hid (R = flR false 3 ks) := Lib.hid (by
                    rw [hV]
                    cases h : (N != 0) with
                    | true => rfl
                    | false => rw [bne_eq_false_iff_eq] at h; exact absurd h h0)
                  have hz : (0 : Int) < (N : Int) := by omega
                  clear hV hR hN hsz hn hll cL2 hc hbig h110 hK k1 k2 k3 k4 h0
                  go_enter Tryd.func41, Tryd.ntmps41
                  go_wp2_with fail
                  refine cP.mono ?_
                  rintro e w' ⟨rfl, rfl⟩
                  go_wp2_with fail
                  refine cL3.mono ?_
                  rintro e w' ⟨rfl, q1, rfl⟩
                  go_wp2_with fail
                  go_ret
                  exact drb _ HV.out.symm
              · rw [if_neg k5] at hV
                have HV := Lib.hid hV
                have m1 : ¬ K = 111 := by omega
                have m2 : ¬ K = 112 := by omega
                have m3 : ¬ K = 113 := by omega
                have m4 : ¬ K = 114 := by omega
                have m5 : ¬ K = 120 := by omega
                have m6 : ¬ K = 117 := by omega
                have m7 : ¬ K = 118 := by omega
                have m8 : ¬ K = 119 := by omega
                clear hV hR hN hsz hn hll cL2 cL3 hc hbig hK k1 k2 k4
                go_enter Tryd.func41, Tryd.ntmps41
                go_wp2_with fail
                refine cP.mono ?_
                rintro e w' ⟨rfl, rfl⟩
                go_wp2_with fail
                go_ret
                exact drb0 HV.out.symm
theorem refCo : ∀ (n : Nat), n ≤ 1000000000 → CoAt n
  | 0, _, t, h, _, _, _, _ => absurd h (by unfold szT; omega)
  | n + 1, hbig, (x, ks), hn, w, Sq, v, hin => by
    have ih := refCo n (by omega)
    by_cases h1 : x.k = 110
    · exact refCoA n hbig ih x ks hn w Sq v hin h1
    by_cases h2 : 111 ≤ x.k ∧ x.k ≤ 113
    · exact refCoB n hbig ih x ks hn w Sq v hin h2
    by_cases h3 : x.k = 114 ∨ x.k = 120
    · exact refCoC n hbig ih x ks hn w Sq v hin h3
    by_cases h4 : x.k = 115
    · exact refCoD n hbig ih x ks hn w Sq v hin h4
    by_cases h5 : 117 ≤ x.k ∧ x.k ≤ 119
    · exact refCoE n hbig ih x ks hn w Sq v hin h5
    exact refCoF n hbig ih x ks hn w Sq v hin (by omega)
end Go.Proofs.YtmiicfdigkkbdaaDoor
