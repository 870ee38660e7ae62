/-
  Layer 10, the document's side: IsCon, whole.
-/
import Derived.Test.YtdofcjnkpgbjaaaDoorGt05
import Derived.Test.YtdofcjnkpgbjaaaDoorGt08
namespace Go.Proofs.YtdofcjnkpgbjaaaDoor
open Go.RowKit

theorem two_co (R : Bool) (f : Fr) (b1 b2 : Bool) (a d : Nod) (ka kd : Fr) (hf : f = .cons a ka (.cons d kd .nil)) (h1 : coT (a, ka) = b1) (h2 : coT (d, kd) = b2) (hR : R = (f.len == 2 && coF 0 f)) : R = (b1 && b2) := by
  rw [hR, hf, coF_0, coF_0, h1, h2]
  show (true && (b1 && (b2 && true))) = _
  rw [Bool.and_true, Bool.true_and]
theorem two_kc (R : Bool) (f : Fr) (b1 b2 : Bool) (a d : Nod) (ka kd : Fr) (hf : f = .cons a ka (.cons d kd .nil)) (h1 : kdT (a, ka) = b1) (h2 : coT (d, kd) = b2) (hR : R = (f.len == 2 && coF 1 f)) : R = (b1 && b2) := by
  rw [hR, hf, coF_1, coF_0, h1, h2]
  show (true && (b1 && (b2 && true))) = _
  rw [Bool.and_true, Bool.true_and]
theorem nat_beq0 (N : Nat) : (N == 0) = ((N : Int) == 0) := by
  cases N with
  | zero => rfl
  | succ n => rw [show (n + 1 == 0) = false from rfl]; symm; rw [beq_eq_false_iff_ne]; omega
theorem Kid.two {w : World} {Sq : Nat → Prop} {A : Option Addr} {a d : Nod} {ka kd : Fr} (h : Kid w Sq A (.cons a ka (.cons d kd .nil)) 0) :
    ∃ kb ko u1 u2, A = some ⟨kb, ko, none⟩ ∧ w.cell? ⟨kb, ko, none⟩ = some u1 ∧ w.cell? ⟨kb, ko + 1, none⟩ = some u2 ∧ InT w Sq u1 (a, ka) ∧ InT w Sq u2 (d, kd) ∧ Sq kb := by
  obtain ⟨kb, ko, u1, rfl, hkb, hu1, ht1, hk1⟩ := h.next
  obtain ⟨kb', ko', u2, he, _, hu2, ht2, _⟩ := hk1.next
  injection he with he
  injection he with e1 e2
  subst e1 e2
  exact ⟨kb, ko, u1, u2, rfl, by rw [Nat.add_zero] at hu1; exact hu1, hu2, ht1, ht2, hkb⟩
set_option maxHeartbeats 12800000 in
set_option maxRecDepth 100000 in
theorem refCo : ∀ (n : Nat), n ≤ 1000000000 → CoAt n
  | 0, _, t, h, _, _, _, _ => absurd h (by unfold szT; omega)
  | n + 1, hbig, (x, ks), hn, w, Sq, v, hin => by
    have ih := refCo n (by omega)
    have hsz : szT (x, ks) = 1 + ks.sz := rfl
    have cP := refPln false hin
    obtain ⟨q, p, A, c, rfl, hq1, c0, c1, c2, c3, c4, hc, hkid⟩ := hin.open
    have cL2 := refLabels ih 2 (by decide) (by decide) true ks (by omega) (by omega) w Sq A c hkid
    have cL3 := refLabels ih 3 (by decide) (by decide) false ks (by omega) (by omega) w Sq A c hkid
    have hll := Fr.len_le ks
    have HIH := Lib.hid ih
    have HKID := Lib.hid hkid
    obtain ⟨N, hN⟩ : ∃ N, ks.len = N := ⟨_, rfl⟩
    obtain ⟨R, hR⟩ : ∃ R, coT (x, ks) = R := ⟨_, rfl⟩
    have hV : coT (x, ks) = (if x.k = 110 then emq x.m && (emq x.a && (decide (0 ≤ x.n) && (decide (x.n ≤ 65536) && N == 0)))
      else plnB x false && (if 111 ≤ x.k ∧ x.k ≤ 113 then N == 0 else if x.k = 114 ∨ x.k = 120 then N == 2 && coF 0 ks else if x.k = 115 then lbF true [] ks && coF 2 ks else if 117 ≤ x.k ∧ x.k ≤ 119 then N == 2 && coF 1 ks
        else if x.k = 121 then N != 0 && (lbF false [] ks && coF 3 ks) else false)) := by rw [← hN]; rfl
    obtain ⟨K, hK⟩ : ∃ K, x.k = K := ⟨_, rfl⟩
    rw [hR, hK] at hV
    rw [hR]
    rw [hK] at c0
    rw [hN] at c4 hll cL2 cL3
    have hN1 : N ≤ 1000000000 := by omega
    clear hin hkid ih
    by_cases h110 : K = 110
    · subst h110
      rw [if_pos rfl] at hV
      obtain ⟨M, hM⟩ : ∃ M, x.m = M := ⟨_, rfl⟩
      obtain ⟨Z, hZ⟩ : ∃ M, x.n = M := ⟨_, rfl⟩
      obtain ⟨Y, hY⟩ : ∃ M, x.a = M := ⟨_, rfl⟩
      rw [hM, hZ, hY] at hV
      rw [hM] at c3
      rw [hZ] at c1
      rw [hY] at c2
      unfold emq at hV
      obtain ⟨b1, h1⟩ : ∃ b, M.toList.isEmpty = b := ⟨_, rfl⟩
      obtain ⟨b2, h2⟩ : ∃ b, Y.toList.isEmpty = b := ⟨_, rfl⟩
      obtain ⟨b3, h3⟩ : ∃ b, decide (0 ≤ Z) = b := ⟨_, rfl⟩
      obtain ⟨b4, h4⟩ : ∃ b, decide (Z ≤ 65536) = b := ⟨_, rfl⟩
      obtain ⟨b5, h5⟩ : ∃ b, ((N : Int) == 0) = b := ⟨_, rfl⟩
      rw [h1, h2, h3, h4, nat_beq0, h5] at hV
      have HV := Lib.hid hV
      clear hV hR hM hZ hY hK hN hsz hn hll cP cL2 cL3 hc hbig
      cases b1 <;> cases b2 <;> cases b3 <;> cases b4 <;> cases b5
      all_goals
        go_enter Tryd.func31, Tryd.ntmps31
        go_wp2_with fail
        go_ret
        exact drb0 HV.out.symm
    · rw [if_neg h110] at hV
      obtain ⟨b, hb⟩ : ∃ b, plnB x false = b := ⟨_, rfl⟩
      rw [hb] at cP hV
      clear c1 c2 c3 hb
      cases b with
      | false =>
        have HV := Lib.hid hV
        clear hV hR hK hN hsz hn hll cL2 cL3 hc hbig
        go_enter Tryd.func31, Tryd.ntmps31
        go_wp2_with fail
        refine cP.mono ?_
        rintro e w' ⟨rfl, rfl⟩
        go_wp2_with fail
        go_ret
        exact drb0 HV.out.symm
      | true =>
        rw [Bool.true_and] at hV
        by_cases k1 : K = 111 ∨ K = 112 ∨ K = 113
        · rw [if_pos (by omega), nat_beq0] at hV
          obtain ⟨b5, h5⟩ : ∃ b, ((N : Int) == 0) = b := ⟨_, rfl⟩
          rw [h5] at hV
          have HV := Lib.hid hV
          clear hV hR hN hsz hn hll cL2 cL3 hc hbig h110 hK
          cases b5 <;> rcases k1 with rfl | rfl | rfl
          all_goals
            go_enter Tryd.func31, Tryd.ntmps31
            go_wp2_with fail
            refine cP.mono ?_
            rintro e w' ⟨rfl, rfl⟩
            go_wp2_with fail
            go_ret
            exact drb0 HV.out.symm
        · rw [if_neg (by omega)] at hV
          by_cases k2 : K = 114 ∨ K = 120
          · rw [if_pos k2] at hV
            by_cases h2 : N = 2
            · obtain ⟨a, ka, d, kd, rfl⟩ := Fr.two (hN.trans h2)
              obtain ⟨kb, ko, u1, u2, rfl, hu1, hu2, ht1, ht2, hkb⟩ := Kid.two HKID.out
              simp only [Fr.sz] at hsz
              have cA := HIH.out (a, ka) (by unfold szT; simp only; omega) w Sq u1 ht1
              have cD := fun W => fun h => HIH.out (d, kd) (by unfold szT; simp only; omega) W Sq u2 h
              obtain ⟨b1, hb1⟩ : ∃ b, coT (a, ka) = b := ⟨_, rfl⟩
              obtain ⟨b2, hb2⟩ : ∃ b, coT (d, kd) = b := ⟨_, rfl⟩
              have HV := Lib.hid (two_co R _ b1 b2 a d ka kd rfl hb1 hb2 (by rw [hN]; exact hV))
              rw [hb1] at cA
              rw [hb2] at cD
              have CD := Lib.hid cD
              have HT2 := Lib.hid ht2
              clear hV hR hN hsz hn hll cL2 cL3 hc hbig h110 hK k1 hb1 hb2 ht1 ht2 cD
              subst h2
              cases b1 with
              | false =>
                rcases k2 with rfl | rfl
                all_goals
                  go_enter Tryd.func31, Tryd.ntmps31
                  go_wp2_with fail
                  refine cP.mono ?_
                  rintro e w' ⟨rfl, rfl⟩
                  go_wp2_with fail
                  refine cA.mono ?_
                  rintro e w' ⟨rfl, q1, rfl⟩
                  go_wp2_with fail
                  go_ret
                  exact drb _ HV.out.symm
              | true =>
                rcases k2 with rfl | rfl
                all_goals
                  go_enter Tryd.func31, Tryd.ntmps31
                  go_wp2_with fail
                  refine cP.mono ?_
                  rintro e w' ⟨rfl, rfl⟩
                  go_wp2_with fail
                  refine cA.mono ?_
                  rintro e w' ⟨rfl, q1, rfl⟩
                  go_wp2_with fail
                  refine (CD.out _ (HT2.out.drew q1)).mono ?_
                  rintro e w' ⟨rfl, q2, rfl⟩
                  go_wp2_with fail
                  go_ret
                  exact drb _ HV.out.symm
            · have HV : Hid (R = false) := Lib.hid (by
                rw [hV]
                cases h : (N == 2) with
                | false => rfl
                | true => exact absurd (beq_iff_eq.1 h) h2)
              have hz : ((N : Int) == 2) = false := by rw [beq_eq_false_iff_ne]; omega
              clear hV hR hN hsz hn hll cL2 cL3 hc hbig h110 hK k1 h2
              rcases k2 with rfl | rfl
              all_goals
                go_enter Tryd.func31, Tryd.ntmps31
                go_wp2_with fail
                refine cP.mono ?_
                rintro e w' ⟨rfl, rfl⟩
                go_wp2_with fail
                go_ret
                exact drb0 HV.out.symm
          · rw [if_neg k2] at hV
            by_cases k3 : K = 115
            · rw [if_pos k3] at hV
              have HV := Lib.hid hV
              subst k3
              clear hV hR hN hsz hn hll cL3 hc hbig h110 hK k1 k2
              go_enter Tryd.func31, Tryd.ntmps31
              go_wp2_with fail
              refine cP.mono ?_
              rintro e w' ⟨rfl, rfl⟩
              go_wp2_with fail
              refine cL2.mono ?_
              rintro e w' ⟨rfl, q1, rfl⟩
              go_wp2_with fail
              go_ret
              exact drb _ HV.out.symm
            · rw [if_neg k3] at hV
              by_cases k4 : K = 117 ∨ K = 118 ∨ K = 119
              · rw [if_pos (by omega)] at hV
                by_cases h2 : N = 2
                · obtain ⟨a, ka, d, kd, rfl⟩ := Fr.two (hN.trans h2)
                  obtain ⟨kb, ko, u1, u2, rfl, hu1, hu2, ht1, ht2, hkb⟩ := Kid.two HKID.out
                  simp only [Fr.sz] at hsz
                  have cA := refKd n (a, ka) (by unfold szT; simp only; omega) w Sq u1 ht1
                  have cD := HIH.out (d, kd) (by unfold szT; simp only; omega) w Sq u2 ht2
                  obtain ⟨b1, hb1⟩ : ∃ b, kdT (a, ka) = b := ⟨_, rfl⟩
                  obtain ⟨b2, hb2⟩ : ∃ b, coT (d, kd) = b := ⟨_, rfl⟩
                  have HV := Lib.hid (two_kc R _ b1 b2 a d ka kd rfl hb1 hb2 (by rw [hN]; exact hV))
                  rw [hb1] at cA
                  rw [hb2] at cD
                  clear hV hR hN hsz hn hll cL2 cL3 hc hbig h110 hK k1 k2 k3 hb1 hb2 ht1 ht2
                  subst h2
                  cases b1 with
                  | false =>
                    rcases k4 with rfl | rfl | rfl
                    all_goals
                      go_enter Tryd.func31, Tryd.ntmps31
                      go_wp2_with fail
                      refine cP.mono ?_
                      rintro e w' ⟨rfl, rfl⟩
                      go_wp2_with fail
                      refine cA.mono ?_
                      rintro e w' ⟨rfl, rfl⟩
                      go_wp2_with fail
                      go_ret
                      exact drb0 HV.out.symm
                  | true =>
                    rcases k4 with rfl | rfl | rfl
                    all_goals
                      go_enter Tryd.func31, Tryd.ntmps31
                      go_wp2_with fail
                      refine cP.mono ?_
                      rintro e w' ⟨rfl, rfl⟩
                      go_wp2_with fail
                      refine cA.mono ?_
                      rintro e w' ⟨rfl, rfl⟩
                      go_wp2_with fail
                      refine cD.mono ?_
                      rintro e w' ⟨rfl, q2, rfl⟩
                      go_wp2_with fail
                      go_ret
                      exact drb _ HV.out.symm
                · have HV : Hid (R = false) := Lib.hid (by
                    rw [hV]
                    cases h : (N == 2) with
                    | false => rfl
                    | true => exact absurd (beq_iff_eq.1 h) h2)
                  have hz : ((N : Int) == 2) = false := by rw [beq_eq_false_iff_ne]; omega
                  clear hV hR hN hsz hn hll cL2 cL3 hc hbig h110 hK k1 k2 k3 h2
                  rcases k4 with rfl | rfl | rfl
                  all_goals
                    go_enter Tryd.func31, Tryd.ntmps31
                    go_wp2_with fail
                    refine cP.mono ?_
                    rintro e w' ⟨rfl, rfl⟩
                    go_wp2_with fail
                    go_ret
                    exact drb0 HV.out.symm
              · rw [if_neg (by omega)] at hV
                by_cases k5 : K = 121
                · rw [if_pos k5] at hV
                  subst k5
                  by_cases h0 : N = 0
                  · have HV : Hid (R = false) := Lib.hid (by rw [hV, h0]; rfl)
                    have hz : ¬ (0 : Int) < (N : Int) := by omega
                    clear hV hR hN hsz hn hll cL2 cL3 hc hbig h110 hK k1 k2 k3 k4 h0
                    go_enter Tryd.func31, Tryd.ntmps31
                    go_wp2_with fail
                    refine cP.mono ?_
                    rintro e w' ⟨rfl, rfl⟩
                    go_wp2_with fail
                    go_ret
                    exact drb0 HV.out.symm
                  · have HV : Hid (R = flR false 3 ks) := Lib.hid (by
                      rw [hV]
                      cases h : (N != 0) with
                      | true => rfl
                      | false => rw [bne_eq_false_iff_eq] at h; exact absurd h h0)
                    have hz : (0 : Int) < (N : Int) := by omega
                    clear hV hR hN hsz hn hll cL2 hc hbig h110 hK k1 k2 k3 k4 h0
                    go_enter Tryd.func31, Tryd.ntmps31
                    go_wp2_with fail
                    refine cP.mono ?_
                    rintro e w' ⟨rfl, rfl⟩
                    go_wp2_with fail
                    refine cL3.mono ?_
                    rintro e w' ⟨rfl, q1, rfl⟩
                    go_wp2_with fail
                    go_ret
                    exact drb _ HV.out.symm
                · rw [if_neg k5] at hV
                  have HV := Lib.hid hV
                  have m1 : ¬ K = 111 := by omega
                  have m2 : ¬ K = 112 := by omega
                  have m3 : ¬ K = 113 := by omega
                  have m4 : ¬ K = 114 := by omega
                  have m5 : ¬ K = 120 := by omega
                  have m6 : ¬ K = 117 := by omega
                  have m7 : ¬ K = 118 := by omega
                  have m8 : ¬ K = 119 := by omega
                  clear hV hR hN hsz hn hll cL2 cL3 hc hbig hK k1 k2 k4
                  go_enter Tryd.func31, Tryd.ntmps31
                  go_wp2_with fail
                  refine cP.mono ?_
                  rintro e w' ⟨rfl, rfl⟩
                  go_wp2_with fail
                  go_ret
                  exact drb0 HV.out.symm
end Go.Proofs.YtdofcjnkpgbjaaaDoor
namespace Go.Proofs.YtdofcjnkpgbjaaaDoor
open Go.RowKit

def wiL (s L : Nat) : Nat := if s ≤ L then L - s else 0
def wiE (s L : Nat) : Int := if s ≤ L then 0 else 3
def WiT (s L : Nat) (w : World) (e : Ending) (w' : World) : Prop := e = .returned (.tuple #[.int .i64 ((wiL s L : Nat) : Int), .int .i64 (wiE s L)]) ∧ w' = w
theorem wit {s L : Nat} {a b : Int} {w : World} (h1 : a = ((wiL s L : Nat) : Int)) (h2 : b = wiE s L) : WiT s L w (.returned (.tuple #[.int .i64 a, .int .i64 b])) w := ⟨by rw [h1, h2], rfl⟩
set_option maxHeartbeats 3200000 in
set_option maxRecDepth 100000 in
theorem refWithin : ∀ (n : Nat) (t : Tr), szT t ≤ n → n ≤ 1000000000 → ∀ (L : Nat), L ≤ 1000000000 → ∀ (w : World) (Sq : Nat → Prop) (v : Value), InT w Sq v t → Calls Tryd.prog 30 #[v, .int .i64 (L : Int)] w (WiT (szT t) L w)
  | 0, t, h, _, _, _, _, _, _, _ => absurd h (by unfold szT; omega)
  | n + 1, (x, ks), hn, hbig, L, hL, w, Sq, v, hin => by
    have ih := refWithin n
    obtain ⟨q, p, A, c, rfl, hq1, c0, c1, c2, c3, c4, hc, hkid⟩ := hin.open
    have hnil : ∀ W, (binOp .eql 25 (.pointer (some ⟨q, p, none⟩)) (.pointer none)).run Tryd.prog W = .ok (.bool false) W := fun W => ptr_nil2 W _
    have hsz : szT (x, ks) = 1 + ks.sz := rfl
    obtain ⟨S, hS⟩ : ∃ S, szT (x, ks) = S := ⟨_, rfl⟩
    rw [hS] at hn hsz ⊢
    have hll := Fr.len_le ks
    obtain ⟨N, hN⟩ : ∃ N, ks.len = N := ⟨_, rfl⟩
    rw [hN] at c4 hll
    have hN1 : N ≤ 1000000000 := by omega
    by_cases h0 : L = 0
    · subst h0
      have e1 : wiL S 0 = 0 := by unfold wiL; rw [if_neg (by omega)]
      have e2 : wiE S 0 = 3 := by unfold wiE; rw [if_neg (by omega)]
      have H1 := Lib.hid e1
      have H2 := Lib.hid e2
      clear hin hkid ih hS hc hN hsz hn e1 e2 hL hll
      go_enter Tryd.func30, Tryd.ntmps30
      go_wp2_with fail
      go_ret2
      exact wit (by rw [H1.out]; rfl) H2.out.symm
    · obtain ⟨M, rfl⟩ : ∃ M, L = M + 1 := ⟨L - 1, by omega⟩
      have hsub : wrap64 (((M + 1 : Nat) : Int) - 1) = (M : Int) := by unfold wrap64; omega
      have hnz : (((M + 1 : Nat) : Int) == 0) = false := by rw [beq_eq_false_iff_ne]; omega
      have hG : ks.sz ≤ M → wiL S (M + 1) = M - ks.sz ∧ wiE S (M + 1) = 0 := fun h => by
        unfold wiL wiE
        rw [if_pos (by omega), if_pos (by omega)]
        exact ⟨by omega, rfl⟩
      have hB : M < ks.sz → wiL S (M + 1) = 0 ∧ wiE S (M + 1) = 3 := fun h => by
        unfold wiL wiE
        rw [if_neg (by omega), if_neg (by omega)]
        exact ⟨rfl, rfl⟩
      have HK := Lib.hid hkid
      have HNN := Lib.hid hN
      have HSZ := Lib.hid (by omega : ks.sz ≤ n)
      have HG := Lib.hid hG
      have HB := Lib.hid hB
      have HM := Lib.hid (by omega : M ≤ 1000000000)
      clear hin hkid hS hc hN hsz hn hG hB hL h0
      obtain ⟨LL, hLL⟩ : ∃ z, ((M + 1 : Nat) : Int) = z := ⟨_, rfl⟩
      rw [hLL] at hsub hnz ⊢
      clear hLL
      have HSB := Lib.hid hsub
      go_enter Tryd.func30, Tryd.ntmps30
      go_wp2_with fail
      clear hsub hnz
      go_loopw [1, 6, 7, 8] (fun s i _ _ wr => w = wr ∧ ∃ (k : Nat) (done rest : Fr), i = .int .i64 k ∧ k = done.len ∧ ks = done.app rest ∧ done.sz ≤ M ∧ s = .int .i64 ((M - done.sz : Nat) : Int) ∧ Kid w Sq A rest k) (fun _ i _ _ _ => N - (intOf i).toNat)
      case atStart => exact ⟨rfl, 0, .nil, ks, rfl, rfl, rfl, Nat.zero_le _, i64_eq (by rw [HSB.out]; rfl), HK.out⟩
      case round =>
        obtain ⟨rfl, k, done, rest, rfl, hk, hks, hdm, rfl, hkid⟩ := hrel
        have hl : N = done.len + rest.len := by rw [← HNN.out, hks, Fr.len_app]
        have hs : ks.sz = done.sz + rest.sz := by rw [hks, Fr.sz_app]
        have hsz := HSZ.out
        have hM := HM.out
        have HKS := Lib.hid hks
        by_cases hlt : 0 < rest.len
        · obtain ⟨y, l, r, rfl⟩ := Fr.cut hlt
          obtain ⟨kb, ko, u, rfl, hkb, hcell, hu, hnext⟩ := hkid.next
          have hyl : szT (y, l) = 1 + l.sz := rfl
          have hsr : (Fr.cons y l r).sz = 1 + l.sz + r.sz := rfl
          have hlr : (Fr.cons y l r).len = r.len + 1 := rfl
          have cI := ih (y, l) (by omega) (by omega) (M - done.sz) (by omega) w Sq u hu
          have HN := Lib.hid hnext
          have hkN : k < N := by omega
          have hkz : (k : Int) < (N : Int) := by omega
          have HK1 := Lib.hid hk
          by_cases hfit : szT (y, l) ≤ M - done.sz
          · have e1 : wiL (szT (y, l)) (M - done.sz) = M - (done.app (.cons y l .nil)).sz := by
              unfold wiL
              rw [if_pos hfit, Fr.sz_app]
              show _ = M - (done.sz + (1 + l.sz + 0))
              omega
            have e2 : wiE (szT (y, l)) (M - done.sz) = 0 := by unfold wiE; rw [if_pos hfit]
            have hd : (done.app (.cons y l .nil)).sz ≤ M := by
              rw [Fr.sz_app]
              show done.sz + (1 + l.sz + 0) ≤ M
              omega
            have HD := Lib.hid hd
            unfold WiT at cI
            rw [e1, e2] at cI
            obtain ⟨Z, hZ⟩ : ∃ z, ((M - done.sz : Nat) : Int) = z := ⟨_, rfl⟩
            obtain ⟨Y, hY⟩ : ∃ z, ((M - (done.app (.cons y l .nil)).sz : Nat) : Int) = z := ⟨_, rfl⟩
            rw [hZ, hY] at cI
            rw [hZ]
            have HY := Lib.hid hY
            clear hkid hnext hu hks ih hk hl hs hlr hsr hsz hyl hfit e1 e2 hd hdm hZ hY hM
            go_wp2_with (go_at_call 30; refine cI.mono ?_; rintro e w' ⟨rfl, rfl⟩)
            go_roundw
            case rel => exact ⟨trivial, k + 1, done.app (.cons y l .nil), r, by go_num, by rw [Fr.len_app, HK1.out]; rfl, by rw [HKS.out, Fr.app_cons], HD.out, i64_eq HY.out.symm, HN.out⟩
            case measure => simp [intOf]; omega
          · have e1 : wiL (szT (y, l)) (M - done.sz) = 0 := by unfold wiL; rw [if_neg hfit]
            have e2 : wiE (szT (y, l)) (M - done.sz) = 3 := by unfold wiE; rw [if_neg hfit]
            have HF := Lib.hid (HB.out (by omega))
            unfold WiT at cI
            rw [e1, e2] at cI
            obtain ⟨Z, hZ⟩ : ∃ z, ((M - done.sz : Nat) : Int) = z := ⟨_, rfl⟩
            rw [hZ] at cI ⊢
            clear hkid hnext hu hks ih hk hl hs hlr hsr hsz hyl hfit e1 e2 hdm hZ hM
            go_wp2_with (go_at_call 30; refine cI.mono ?_; rintro e w' ⟨rfl, rfl⟩)
            go_ret2
            exact wit (by rw [HF.out.1]; rfl) HF.out.2.symm
        · have h0 : rest = .nil := by
            cases rest with
            | nil => rfl
            | cons y l r => exact absurd (Nat.succ_pos _) hlt
          subst h0
          have hl' : N = done.len := by simpa [Fr.len] using hl
          have hs' : ks.sz = done.sz := by simpa [Fr.sz] using hs
          have hkz : ¬ (k : Int) < (N : Int) := by omega
          have HF := Lib.hid (HG.out (by omega))
          have HS := Lib.hid hs'
          clear hkid hks ih hk hl hl' hs hs' hsz hM
          go_wp2_with fail
          go_ret2
          exact wit (by rw [HF.out.1, HS.out]) HF.out.2.symm
def ckE (o : Option Tr) : Int := match o with
  | none => 1
  | some t => if szT t ≤ 65536 then (if coT t = true then 0 else 16) else 3
def kkE (o : Option Tr) : Int := match o with
  | none => 1
  | some t => if szT t ≤ 65536 then (if kdT t = true then 0 else 16) else 3
def DrI (z : Int) (w : World) (e : Ending) (w' : World) : Prop := e = .returned (.int .i64 z) ∧ ∃ q, w' = w.drewN q
theorem dri {z y : Int} {w : World} (q : Nat) (h : y = z) : DrI z w (.returned (.int .i64 y)) (w.drewN q) := ⟨by rw [h], q, rfl⟩
theorem dri0 {z y : Int} {w : World} (h : y = z) : DrI z w (.returned (.int .i64 y)) w := ⟨by rw [h], 0, rfl⟩
theorem ckE_ok {o : Option Tr} (h : ckE o = 0) : ∃ t, o = some t ∧ szT t ≤ 65536 ∧ coT t = true := by
  cases o with
  | none => exact absurd h (by decide)
  | some t =>
    unfold ckE at h
    simp only at h
    split at h
    · rename_i h1
      split at h
      · rename_i h2; exact ⟨t, rfl, h1, h2⟩
      · exact absurd h (by decide)
    · exact absurd h (by decide)
theorem ckE_of {t : Tr} (h : szT t ≤ 65536) (hc : coT t = true) : ckE (some t) = 0 := by unfold ckE; simp only; rw [if_pos h, if_pos hc]
set_option maxHeartbeats 3200000 in
set_option maxRecDepth 100000 in
theorem refWithinNil (w : World) (L : Int) : Calls Tryd.prog 30 #[.pointer none, .int .i64 L] w fun e w' => e = .returned (.tuple #[.int .i64 L, .int .i64 1]) ∧ w' = w := by
  have hnil : ∀ W, (binOp .eql 25 (.pointer none) (.pointer none)).run Tryd.prog W = .ok (.bool true) W := fun W => by simp [go_sem]
  go_enter Tryd.func30, Tryd.ntmps30
  go_wp2_with fail
  go_ret2
  exact ⟨rfl, rfl⟩
set_option maxHeartbeats 3200000 in
set_option maxRecDepth 100000 in
theorem refCheck {w : World} {Sq : Nat → Prop} {v : Value} (o : Option Tr) (hin : InO w Sq v o) (hz : szO o ≤ 1000000000) : Calls Tryd.prog 11 #[v] w (DrI (ckE o) w) := by
  cases o with
  | none =>
    have hv : v = .pointer none := hin
    subst hv
    have cW := refWithinNil w 65536
    go_enter Tryd.func11, Tryd.ntmps11
    go_wp2_with fail
    refine cW.mono ?_
    rintro e w' ⟨rfl, rfl⟩
    go_wp2_with fail
    go_ret
    exact dri0 rfl
  | some t =>
    have hin : InT w Sq v t := hin
    have hz : szT t ≤ 1000000000 := hz
    have cW := refWithin _ t (Nat.le_refl _) hz 65536 (by omega) w Sq v hin
    have cC := refCo _ hz t (Nat.le_refl _) w Sq v hin
    by_cases h : szT t ≤ 65536
    · unfold WiT wiE at cW
      rw [if_pos h] at cW
      obtain ⟨b, hb⟩ : ∃ b, coT t = b := ⟨_, rfl⟩
      have HE : Hid (ckE (some t) = if b = true then 0 else 16) := Lib.hid (by unfold ckE; simp only; rw [if_pos h, hb])
      rw [hb] at cC
      rw [HE.out]
      obtain ⟨Z, hZ⟩ : ∃ z, ((wiL (szT t) 65536 : Nat) : Int) = z := ⟨_, rfl⟩
      rw [hZ] at cW
      clear hin hz h hb HE hZ
      cases b
      all_goals
        go_enter Tryd.func11, Tryd.ntmps11
        go_wp2_with fail
        refine cW.mono ?_
        rintro e w' ⟨rfl, rfl⟩
        go_wp2_with fail
        refine cC.mono ?_
        rintro e w' ⟨rfl, q1, rfl⟩
        go_wp2_with fail
        go_ret
        exact dri _ rfl
    · unfold WiT wiE at cW
      rw [if_neg h] at cW
      have HE : Hid (ckE (some t) = 3) := Lib.hid (by unfold ckE; simp only; rw [if_neg h])
      rw [HE.out]
      obtain ⟨Z, hZ⟩ : ∃ z, ((wiL (szT t) 65536 : Nat) : Int) = z := ⟨_, rfl⟩
      rw [hZ] at cW
      clear hin hz h HE hZ cC
      go_enter Tryd.func11, Tryd.ntmps11
      go_wp2_with fail
      refine cW.mono ?_
      rintro e w' ⟨rfl, rfl⟩
      go_wp2_with fail
      go_ret
      exact dri0 rfl
set_option maxHeartbeats 3200000 in
set_option maxRecDepth 100000 in
theorem refKind {w : World} {Sq : Nat → Prop} {v : Value} (o : Option Tr) (hin : InO w Sq v o) (hz : szO o ≤ 1000000000) : Calls Tryd.prog 13 #[v] w (DrI (kkE o) w) := by
  cases o with
  | none =>
    have hv : v = .pointer none := hin
    subst hv
    have cW := refWithinNil w 65536
    go_enter Tryd.func13, Tryd.ntmps13
    go_wp2_with fail
    refine cW.mono ?_
    rintro e w' ⟨rfl, rfl⟩
    go_wp2_with fail
    go_ret
    exact dri0 rfl
  | some t =>
    have hin : InT w Sq v t := hin
    have hz : szT t ≤ 1000000000 := hz
    have cW := refWithin _ t (Nat.le_refl _) hz 65536 (by omega) w Sq v hin
    have cC := refKd _ t (Nat.le_refl _) w Sq v hin
    by_cases h : szT t ≤ 65536
    · unfold WiT wiE at cW
      rw [if_pos h] at cW
      obtain ⟨b, hb⟩ : ∃ b, kdT t = b := ⟨_, rfl⟩
      have HE : Hid (kkE (some t) = if b = true then 0 else 16) := Lib.hid (by unfold kkE; simp only; rw [if_pos h, hb])
      rw [hb] at cC
      rw [HE.out]
      obtain ⟨Z, hZ⟩ : ∃ z, ((wiL (szT t) 65536 : Nat) : Int) = z := ⟨_, rfl⟩
      rw [hZ] at cW
      clear hin hz h hb HE hZ
      cases b
      all_goals
        go_enter Tryd.func13, Tryd.ntmps13
        go_wp2_with fail
        refine cW.mono ?_
        rintro e w' ⟨rfl, rfl⟩
        go_wp2_with fail
        refine cC.mono ?_
        rintro e w' ⟨rfl, rfl⟩
        go_wp2_with fail
        go_ret
        exact dri0 rfl
    · unfold WiT wiE at cW
      rw [if_neg h] at cW
      have HE : Hid (kkE (some t) = 3) := Lib.hid (by unfold kkE; simp only; rw [if_neg h])
      rw [HE.out]
      obtain ⟨Z, hZ⟩ : ∃ z, ((wiL (szT t) 65536 : Nat) : Int) = z := ⟨_, rfl⟩
      rw [hZ] at cW
      clear hin hz h HE hZ cC
      go_enter Tryd.func13, Tryd.ntmps13
      go_wp2_with fail
      refine cW.mono ?_
      rintro e w' ⟨rfl, rfl⟩
      go_wp2_with fail
      go_ret
      exact dri0 rfl
set_option maxHeartbeats 3200000 in
set_option maxRecDepth 100000 in
theorem refInner {w : World} {q p : Nat} {K : Int} (c0 : w.cell? ⟨q, p, none⟩ = some (.int .i64 K)) : Calls Tryd.prog 70 #[.pointer (some ⟨q, p, none⟩)] w fun e w' => e = .returned (.int .i64 (innK K : Int)) ∧ w' = w := by
  have hV : innK K = if (117 ≤ K ∧ K ≤ 119) ∨ K = 121 then 1 else 0 := rfl
  obtain ⟨R, hR⟩ : ∃ R, innK K = R := ⟨_, rfl⟩
  rw [hR] at hV ⊢
  clear hR
  by_cases h1 : 117 ≤ K
  · by_cases h2 : K ≤ 119
    · rw [if_pos (.inl ⟨h1, h2⟩)] at hV
      subst hV
      go_enter Tryd.func70, Tryd.ntmps70
      go_wp2_with fail
      go_ret
      exact ⟨rfl, rfl⟩
    · have d2 : decide (K ≤ 119) = false := decide_eq_false h2
      by_cases h3 : K = 121
      · rw [if_pos (.inr h3)] at hV
        subst hV h3
        go_enter Tryd.func70, Tryd.ntmps70
        go_wp2_with fail
        go_ret
        exact ⟨rfl, rfl⟩
      · rw [if_neg (by omega)] at hV
        subst hV
        clear h2
        go_enter Tryd.func70, Tryd.ntmps70
        go_wp2_with fail
        go_ret
        exact ⟨rfl, rfl⟩
  · have d1 : decide (117 ≤ K) = false := decide_eq_false h1
    have h3 : ¬ K = 121 := by omega
    rw [if_neg (by omega)] at hV
    subst hV
    clear h1
    go_enter Tryd.func70, Tryd.ntmps70
    go_wp2_with fail
    go_ret
    exact ⟨rfl, rfl⟩
end Go.Proofs.YtdofcjnkpgbjaaaDoor
