/-
  The program's Index, Contains over numbers, grown: what they tell.
-/
import Derived.Test.YtmjdeadkekhpdaaRtG
namespace Go.Proofs.Ytmjdeadkekhpdaa
open Go.RowKit

set_option maxHeartbeats 1600000 in
set_option maxRecDepth 100000 in
theorem index_any (b n c : Nat) (f : Nat → Int) (w : World) (hn : n ≤ 1000000) (hc : ∀ j, j < n → w.cell? ⟨b, j, none⟩ = some (.int .i64 (f j))) (z : Bool) (hz : z = true ↔ ∃ j, j < n ∧ f j = 0) :
    Calls Try.prog 47 #[.slice (some ⟨b, 0, none⟩) n c, .int .i64 0] w fun e w' => (∃ m : Int, e = .returned (.int .i64 m) ∧ decide (0 ≤ m) = z) ∧ w = w' := by
  have HC := Lib.hid hc
  have HZ := Lib.hid hz
  clear hc hz
  go_enter Try.func47, Try.ntmps47
  go_wp2_with fail
  go_loop [5, 8] (fun _ i => ∃ k : Nat, i = .int .i64 k ∧ k ≤ n ∧ ∀ j, j < k → f j ≠ 0) (fun _ i => n - (intOf i).toNat)
  case atStart => exact ⟨0, rfl, Nat.zero_le _, fun j h => absurd h (Nat.not_lt_zero _)⟩
  case round =>
    obtain ⟨k, rfl, hk, hno⟩ := hrel
    have HNO := Lib.hid hno
    clear hno
    by_cases hlt : k < n
    · have hkz : (k : Int) < (n : Int) := by omega
      have hcell := HC.out k hlt
      by_cases h0 : f k = 0
      · have HE : Hid (z = true) := Lib.hid (HZ.out.2 ⟨k, hlt, h0⟩)
        have e1 : ((0 : Int) == f k) = true := by rw [h0]; rfl
        rw [h0] at hcell
        clear h0 e1
        go_wp2_with fail
        go_ret
        exact ⟨⟨_, rfl, by rw [HE.out]; simp⟩, rfl⟩
      · have e1 : ((0 : Int) == f k) = false := by rw [beq_eq_false_iff_ne]; exact fun e => h0 e.symm
        obtain ⟨y, hy⟩ : ∃ y, f k = y := ⟨_, rfl⟩
        rw [hy] at e1 hcell
        have HY : Hid (f k ≠ 0) := Lib.hid h0
        clear hy h0
        go_wp2_with fail
        go_round
        case rel => exact ⟨k + 1, by go_num, by omega, fun j hj => by
          rcases Nat.lt_or_ge j k with h | h
          · exact HNO.out j h
          · have : j = k := by omega
            rw [this]
            exact HY.out⟩
        case measure => simp [intOf]; omega
    · have hkz : ¬ (k : Int) < (n : Int) := by omega
      have HE : Hid (z = false) := Lib.hid (by
        cases z with
        | false => rfl
        | true =>
          obtain ⟨j, hj, h⟩ := HZ.out.1 rfl
          exact absurd h (HNO.out j (by omega)))
      go_wp2_with fail
      go_ret
      exact ⟨⟨_, rfl, by rw [HE.out]; rfl⟩, rfl⟩
theorem contains_any (b n c : Nat) (f : Nat → Int) (w : World) (hn : n ≤ 1000000) (hc : ∀ j, j < n → w.cell? ⟨b, j, none⟩ = some (.int .i64 (f j))) (z : Bool) (hz : z = true ↔ ∃ j, j < n ∧ f j = 0) :
    Calls Try.prog 43 #[.slice (some ⟨b, 0, none⟩) n c, .int .i64 0] w fun e w' => e = .returned (.bool z) ∧ w = w' := by
  have cI := index_any b n c f w hn hc z hz
  clear hc hz
  go_enter Try.func43, Try.ntmps43
  go_wp2_with fail
  refine cI.mono ?_
  rintro e w1 ⟨⟨m, rfl, hm⟩, rfl⟩
  have HM := Lib.hid hm
  clear hm
  go_wp2_with fail
  go_ret
  exact ⟨ret_b HM.out.symm, rfl⟩
theorem cnK_all {cs : List Cel} {i K : Nat} (h : i < cs.length) (j : Nat) : cnK cs i K j ≤ (kidsOf cs).count (j : Int) := by
  have e : kidsOf cs = kidsOf (cs.take i) ++ ((cel cs i).ks.take K ++ ((cel cs i).ks.drop K ++ kidsOf (cs.drop (i + 1)))) := by
    rw [← List.append_assoc ((cel cs i).ks.take K), List.take_append_drop, ← List.append_assoc, ← kidsOf_take (cel_lt h)]
    unfold kidsOf
    rw [← List.flatMap_append, List.take_append_drop]
  rw [e]
  simp only [List.count_append]
  unfold cnK
  omega
def BoPost (b : Bool) (w : World) (e : Ending) (w' : World) : Prop := e = .returned (.bool b) ∧ Below w.heap.size w w'
theorem bo_ret {a b : Bool} {w w' : World} (h : b = a) (hb : Below w.heap.size w w') : BoPost b w (.returned (.bool a)) w' := ⟨by rw [h], hb⟩
set_option maxHeartbeats 6400000 in
set_option maxRecDepth 100000 in
theorem grown_any (cs : List Cel) (w : World) (cv : Value) (hcl : Cls w w.heap.size cv cs) (hkl : ∀ (j : Nat) (c : Cel), cs[j]? = some c → c.ks.length ≤ 1000000) (h0 : 0 < cs.length) (hlen : cs.length ≤ 8192) (b : Bool) (hb : b = true ↔ okK cs ∧ okC cs) :
    Calls Try.prog 31 #[cv] w (BoPost b w) := by
  have HCL := Lib.hid hcl
  have HKL := Lib.hid hkl
  have HBB := Lib.hid hb
  obtain ⟨A, c, rfl, hc, hcell⟩ := hcl
  have HCELL := Lib.hid hcell
  obtain ⟨N, hN⟩ : ∃ N, cs.length = N := ⟨_, rfl⟩
  rw [hN] at hc hlen h0 ⊢
  have HNN := Lib.hid hN
  have hmk := @run_make_row' Try.prog 45 3 (.int .i64 0) 8 Try.underlying45 infoInt rfl .i64 .i64 N (by omega) (by omega)
  obtain ⟨H, hH⟩ : ∃ H, w.heap.size = H := ⟨_, rfl⟩
  have hrow0 : (w.alloc (.cells (madeCells #[.int .i64 0] N) 3)).rowIs H 3 N (fun _ => .int .i64 0) := by rw [← hH]; exact World.rowIs_made _ _ _ _
  have hb0 : Below H w (w.alloc (.cells (madeCells #[.int .i64 0] N) 3)) := (Below.refl H w).alloc (by omega) _
  have HH := Lib.hid hH
  have HROW0 := Lib.hid hrow0
  have HB0 := Lib.hid hb0
  clear hcell hkl hb hN hH hrow0 hb0
  go_enter Try.func31, Try.ntmps31
  go_wp2_with fail
  rw [HH.out]
  clear hmk
  go_loopw [4, 5, 7, 13] (fun _ _ _ i wr => ∃ I : Nat, I ≤ N ∧ i = .int .i64 I ∧ (∀ (i' : Nat) (c : Cel), i' < I → cs[i']? = some c → ∀ x ∈ c.ks, 0 ≤ x ∧ x < (i' : Int)) ∧ wr.rowIs H 3 N (fun j => .int .i64 (((kidsOf (cs.take I)).count (j : Int) : Nat) : Int)) ∧ (∀ j : Nat, (kidsOf (cs.take I)).count (j : Int) ≤ 1) ∧ Below H w wr) (fun _ _ _ i _ => N - (intOf i).toNat)
  case atStart => exact ⟨0, Nat.zero_le _, rfl, fun i' c h => absurd h (Nat.not_lt_zero _), HROW0.out.congr fun _ _ => by simp [kidsOf], by simp [kidsOf], HB0.out⟩
  case round =>
    rename World => wa
    obtain ⟨I, hI, rfl, hok, hrow, hone, hbw⟩ := hrel
    have hHa : H < wa.heap.size := by
      have := hrow.cell (i := 0) h0
      exact cell_lt this
    have HOK := Lib.hid hok
    have HROW := Lib.hid hrow
    have HONE := Lib.hid hone
    have HBW := Lib.hid hbw
    clear hok hrow hone
    by_cases hlt : I < N
    · have hIz : (I : Int) < (N : Int) := by omega
      have hci := cel_lt (cs := cs) (i := I) (by rw [HNN.out]; exact hlt)
      obtain ⟨b2, o, hA, hbb, g0', g1', g2', g3', kv, g4', hkv⟩ := HCELL.out I _ hci
      subst hA
      rw [HH.out] at hbb
      obtain ⟨KA, kc, rfl, hkc, hkcl⟩ := hkv
      have hml := HKL.out I _ hci
      obtain ⟨M, hM⟩ : ∃ M, (cel cs I).ks.length = M := ⟨_, rfl⟩
      rw [hM] at hkc g4' hml
      have g0 := (hbw.cell (p := ⟨b2, o + I * 5, none⟩) hbb).trans g0'
      have g1 := (hbw.cell (p := ⟨b2, o + I * 5 + 1, none⟩) hbb).trans g1'
      have g2 := (hbw.cell (p := ⟨b2, o + I * 5 + 2, none⟩) hbb).trans g2'
      have g3 := (hbw.cell (p := ⟨b2, o + I * 5 + 3, none⟩) hbb).trans g3'
      have g4 := (hbw.cell (p := ⟨b2, o + I * 5 + 4, none⟩) hbb).trans g4'
      obtain ⟨XK, hXK⟩ : ∃ XK, (cel cs I).x.k = XK := ⟨_, rfl⟩
      obtain ⟨XN, hXN⟩ : ∃ XN, (cel cs I).x.n = XN := ⟨_, rfl⟩
      obtain ⟨XA, hXA⟩ : ∃ XA, (cel cs I).x.a = XA := ⟨_, rfl⟩
      obtain ⟨XM, hXM⟩ : ∃ XM, (cel cs I).x.m = XM := ⟨_, rfl⟩
      rw [hXK] at g0
      rw [hXN] at g1
      rw [hXA] at g2
      rw [hXM] at g3
      have HMM := Lib.hid hM
      have HCI := Lib.hid hci
      have HKC := Lib.hid hkcl
      clear hci hkcl hM g0' g1' g2' g3' g4' hbw hXK hXN hXA hXM
      go_wp2_with fail
      have hb1 : Below wa.heap.size wa (wa.alloc (.cells #[.int .i64 XK, .int .i64 XN, .string XA, .string XM, .slice KA M kc] 58)) := (Below.refl _ _).alloc (Nat.le_refl _) _
      have hrow1 : (wa.alloc (.cells #[.int .i64 XK, .int .i64 XN, .string XA, .string XM, .slice KA M kc] 58)).rowIs H 3 N (fun j => .int .i64 ((cnK cs I 0 j : Nat) : Int)) := (HROW.out.alloc _).congr fun _ _ => by rw [cnK_zero]
      have HROW1 := Lib.hid hrow1
      have HB1 := Lib.hid (HBW.out.trans (hb1.mono (by omega)))
      clear hb1 hrow1
      go_loopw [7, 21] (fun _ k w2 => ∃ K : Nat, K ≤ M ∧ k = .int .i64 K ∧ (∀ (j : Nat) (x : Int), j < K → (cel cs I).ks[j]? = some x → 0 ≤ x ∧ x < (I : Int)) ∧ w2.rowIs H 3 N (fun j => .int .i64 ((cnK cs I K j : Nat) : Int)) ∧ (∀ j : Nat, cnK cs I K j ≤ 1) ∧ Below H w w2) (fun _ k _ => M - (intOf k).toNat)
      case atStart => exact ⟨0, Nat.zero_le _, rfl, fun j x h => absurd h (Nat.not_lt_zero _), HROW1.out, fun j => by rw [cnK_zero]; exact HONE.out j, HB1.out⟩
      case round =>
        obtain ⟨K, hK, rfl, hkok, hrow2, hone2, hbw2⟩ := hrel
        have HKOK := Lib.hid hkok
        have HROW2 := Lib.hid hrow2
        have HONE2 := Lib.hid hone2
        have HBW2 := Lib.hid hbw2
        clear hkok hrow2 hone2
        by_cases hlt2 : K < M
        · obtain ⟨x, hx⟩ : ∃ x, (cel cs I).ks[K]? = some x := ⟨_, List.getElem?_eq_getElem (by rw [HMM.out]; exact hlt2)⟩
          obtain ⟨kb, ko, hKA, hkb, hxc⟩ := HKC.out K x hx
          subst hKA
          rw [HH.out] at hkb
          have hkz : (K : Int) < (M : Int) := by omega
          have hxr := (hbw2.cell (p := ⟨kb, ko + K, none⟩) hkb).trans hxc
          have HX := Lib.hid hx
          have HBADK : Hid (¬ (0 ≤ x ∧ x < (I : Int)) → b = false) := Lib.hid fun hn => bool_no HBB.out fun h => hn (h.1 I _ HCI.out x (List.mem_of_getElem? HX.out))
          clear hx hxc hbw2
          by_cases hneg : x < 0
          · have HU := Lib.hid (HBADK.out (by omega))
            have e1 : decide (x < 0) = true := by simpa using hneg
            go_wp2_with fail
            go_ret
            exact bo_ret HU.out (by rw [HH.out]; exact HBW2.out)
          · obtain ⟨m, rfl⟩ : ∃ m : Nat, x = (m : Int) := ⟨x.toNat, by omega⟩
            have e1 : decide ((m : Int) < 0) = false := by simp
            by_cases hge : I ≤ m
            · have HU := Lib.hid (HBADK.out (by omega))
              have hgez : (I : Int) ≤ (m : Int) := by omega
              have e2 : decide ((I : Int) ≤ (m : Int)) = true := by simpa using hge
              go_wp2_with fail
              go_ret
              exact bo_ret HU.out (by rw [HH.out]; exact HBW2.out)
            · have hgez : ¬ (I : Int) ≤ (m : Int) := by omega
              have e2 : decide ((I : Int) ≤ (m : Int)) = false := by simp; omega
              have hmN : (m : Int) < (N : Int) := by omega
              have hcm := HROW2.out.cell (i := m) (by omega)
              have hfm := HROW2.out.frozen m
              have hc1 := HONE2.out m
              have HNX := Lib.hid (cnK_next (cs := cs) (i := I) HX.out)
              obtain ⟨cc, hcc⟩ : ∃ cc, cnK cs I K m = cc := ⟨_, rfl⟩
              rw [hcc] at hc1 hcm
              by_cases hc0 : 0 < cc
              · have e3 : decide (0 < (cc : Int)) = true := by simp; omega
                have HU : Hid (b = false) := Lib.hid (bool_no HBB.out fun h => by
                  have h1 := h.2 m (by rw [HNN.out]; omega)
                  have h2 := cnK_all (cs := cs) (i := I) (K := K + 1) (by rw [HNN.out]; exact hlt) m
                  rw [HNX.out, if_pos rfl] at h2
                  omega)
                have hcz : (0 : Int) < (cc : Int) := by omega
                clear hcc
                go_wp2_with fail
                go_ret
                exact bo_ret HU.out (by rw [HH.out]; exact HBW2.out)
              · obtain rfl : cc = 0 := by omega
                have HCC := Lib.hid hcc
                clear hcc hc0 hc1
                go_wp2_with fail
                go_roundw
                case rel =>
                  exact ⟨K + 1, by omega, by go_num, fun j y hj hy => by
                    rcases Nat.lt_or_ge j K with h | h
                    · exact HKOK.out j y h hy
                    · have : j = K := by omega
                      subst this
                      rw [HX.out] at hy
                      injection hy with hy
                      rw [← hy]
                      omega, (HROW2.out.set m (.int .i64 1)).congr fun j _ => by
                      rw [HNX.out]
                      by_cases e : j = m
                      · rw [if_pos e, if_pos e, e, HCC.out]; rfl
                      · rw [if_neg e, if_neg e], fun j => by
                      rw [HNX.out]
                      by_cases e : j = m
                      · rw [if_pos e, e, HCC.out]; omega
                      · rw [if_neg e]; exact HONE2.out j, HBW2.out.setCell (Nat.le_refl _) _⟩
                case measure => simp [intOf]; omega
        · have hKM : K = M := by omega
          have hkz : ¬ (K : Int) < (M : Int) := by omega
          have HEND := Lib.hid (fun j => cnK_end (cs := cs) (i := I) (by rw [HNN.out]; exact hlt) j)
          have HKM := Lib.hid hKM
          clear hKM hbw2
          go_wp2_with fail
          go_roundw
          case rel =>
            exact ⟨I + 1, by omega, by go_num, fun i' c hi' hc' y hy => by
              rcases Nat.lt_or_ge i' I with h | h
              · exact HOK.out i' c h hc' y hy
              · have : i' = I := by omega
                subst this
                rw [HCI.out] at hc'
                injection hc' with hc'
                rw [← hc'] at hy
                obtain ⟨j, hj, rfl⟩ := List.getElem_of_mem hy
                exact HKOK.out j _ (by rw [HKM.out, ← HMM.out]; exact hj) (List.getElem?_eq_getElem hj), HROW2.out.congr fun j _ => by rw [HKM.out, ← HMM.out, HEND.out], fun j => by rw [← HEND.out, HMM.out, ← HKM.out]; exact HONE2.out j, HBW2.out⟩
          case measure => simp [intOf]; omega
    · have hIN : I = N := by omega
      subst hIN
      have hIz : ¬ (I : Int) < (I : Int) := by omega
      have hokK : okK cs := fun i' c hc' y hy => HOK.out i' c (by have := (List.getElem?_eq_some_iff.1 hc').1; rw [HNN.out] at this; exact this) hc' y hy
      have hrowN := HROW.out
      have honeN := HONE.out
      rw [show cs.take I = cs from List.take_of_length_le (by rw [HNN.out]; exact Nat.le_refl _)] at hrowN honeN
      obtain ⟨z, hz⟩ := bool_of (∃ j, j < I - 1 ∧ (fun j : Nat => (((kidsOf cs).count (j : Int) : Nat) : Int)) j = 0)
      have cC := contains_any H (I - 1) I (fun j : Nat => (((kidsOf cs).count (j : Int) : Nat) : Int)) wa (by omega) (fun j hj => hrowN.cell (by omega)) z hz
      have HE : Hid (b = !z) := Lib.hid (by
        cases z with
        | true =>
          obtain ⟨j, hj, h⟩ := hz.1 rfl
          refine bool_no HBB.out fun hb => ?_
          have := hb.2 j (by rw [HNN.out]; omega)
          simp only at h
          omega
        | false =>
          refine HBB.out.2 ⟨hokK, fun j hj => ?_⟩
          rw [HNN.out] at hj
          have h1 := honeN j
          rcases Nat.eq_zero_or_pos ((kidsOf cs).count (j : Int)) with h | h
          · have := hz.2 ⟨j, by omega, by simp only; omega⟩
            cases this
          · omega)
      have hsub : ((I - 1 : Nat) : Int) = (I : Int) - 1 := by omega
      have hI1 : (0 : Int) ≤ (I : Int) - 1 ∧ (I : Int) - 1 ≤ (I : Int) := by omega
      have htn : ((I : Int) - 1).toNat = I - 1 := by omega
      clear hokK hrowN honeN hz hbw
      go_wp2_with fail
      refine cC.mono ?_
      rintro e w1 ⟨rfl, rfl⟩
      go_wp2_with fail
      go_ret
      exact bo_ret HE.out (by rw [HH.out]; exact HBW.out)
end Go.Proofs.Ytmjdeadkekhpdaa
