/-
  The document's Open: what it tells.
-/
import Derived.Test.YtmiicfdigkkbdaaDoorGt03
import Derived.Deep.OwnRows
namespace Go.Proofs.YtmiicfdigkkbdaaDoor
open Go.RowKit

theorem infoInt : (Tryd.prog.info? 3).map (fun i => (i.zero, i.size, i.bytes)) = some (some (.int .i64 0), 1, 8) := by kernel_rfl
noncomputable def opR (cs : List Cel) : Option Tr × Int :=
  if cs.length = 0 then (none, 1) else if 8192 < cs.length then (none, 3) else @ite _ (okK cs ∧ okC cs) (Classical.propDecidable _) (some (gr cs cs.length (cs.length - 1)), 0) (none, 16)
theorem op_nil {cs : List Cel} (h : cs.length = 0) : opR cs = (none, 1) := by unfold opR; rw [if_pos h]
theorem op_long {cs : List Cel} (h : 8192 < cs.length) : opR cs = (none, 3) := by unfold opR; rw [if_neg (by omega), if_pos h]
theorem op_bad {cs : List Cel} (h0 : cs.length ≠ 0) (h1 : ¬ 8192 < cs.length) (h : ¬ (okK cs ∧ okC cs)) : opR cs = (none, 16) := by unfold opR; rw [if_neg h0, if_neg h1, if_neg h]
theorem op_good {cs : List Cel} (h0 : cs.length ≠ 0) (h1 : ¬ 8192 < cs.length) (h : okK cs ∧ okC cs) : opR cs = (some (gr cs cs.length (cs.length - 1)), 0) := by unfold opR; rw [if_neg h0, if_neg h1, if_pos h]
theorem te_two {S : Nat → Prop} {r : Option Tr × Int} {o : Option Tr} {y : Int} {W w' : World} {v : Value} (hr : r = (o, y)) (h : InO w' (Sin S W w') v o) (hb : Below W.heap.size W w') : TePost S r.1 r.2 W (.returned (.tuple #[v, .int .i64 y])) w' := by subst hr; exact ⟨v, rfl, h, hb⟩
def cnK (cs : List Cel) (i k : Nat) (j : Nat) : Nat := (kidsOf (cs.take i)).count (j : Int) + ((cel cs i).ks.take k).count (j : Int)
theorem cnK_zero (cs : List Cel) (i j : Nat) : cnK cs i 0 j = (kidsOf (cs.take i)).count (j : Int) := by unfold cnK; simp
theorem cnK_next {cs : List Cel} {i k : Nat} {m : Nat} (h : (cel cs i).ks[k]? = some (m : Int)) (j : Nat) : cnK cs i (k + 1) j = if j = m then cnK cs i k j + 1 else cnK cs i k j := by
  unfold cnK
  rw [List.take_add_one, h, List.count_append]
  by_cases e : j = m
  · subst e; rw [if_pos rfl]; simp; omega
  · rw [if_neg e]
    have : ([((m : Nat) : Int)] : List Int).count (j : Int) = 0 := by
      rw [List.count_eq_zero]; simp; omega
    simp only [Option.toList_some, this, Nat.add_zero]
theorem cnK_end {cs : List Cel} {i : Nat} (h : i < cs.length) (j : Nat) : cnK cs i (cel cs i).ks.length j = (kidsOf (cs.take (i + 1))).count (j : Int) := by
  unfold cnK
  rw [List.take_length, kidsOf_take (cel_lt h), List.count_append]
theorem cnK_le {cs : List Cel} {M : Nat} (hM : ∀ (j : Nat) (c : Cel), cs[j]? = some c → c.ks.length ≤ M) : ∀ i, i ≤ cs.length → (kidsOf (cs.take i)).length ≤ i * M
  | 0, _ => by simp [kidsOf]
  | i + 1, h => by
    rw [kidsOf_take (cel_lt (by omega)), List.length_append, Nat.succ_mul]
    have h1 := cnK_le hM i (by omega)
    have h2 := hM i _ (cel_lt (by omega))
    omega
set_option maxHeartbeats 6400000 in
set_option maxRecDepth 100000 in
theorem refOpen (cs : List Cel) (w : World) (cv : Value) (hcl : Cls w w.heap.size cv cs) (hkl : ∀ (j : Nat) (c : Cel), cs[j]? = some c → c.ks.length ≤ 1000000) (hlen : cs.length ≤ 1000000000) :
    Calls Tryd.prog 18 #[.agg #[cv]] w (TePost No (opR cs).1 (opR cs).2 w) := by
  have HCL := Lib.hid hcl
  have HKL := Lib.hid hkl
  obtain ⟨A, c, rfl, hc, hcell⟩ := hcl
  have HCELL := Lib.hid hcell
  obtain ⟨N, hN⟩ : ∃ N, cs.length = N := ⟨_, rfl⟩
  have hN0 := op_nil (cs := cs)
  have hN1 := op_long (cs := cs)
  have hbad := op_bad (cs := cs)
  have hgood := op_good (cs := cs)
  have hgrow := refGrow N cs
  obtain ⟨R, hR⟩ : ∃ R, opR cs = R := ⟨_, rfl⟩
  rw [hR] at hN0 hN1 hbad hgood ⊢
  rw [hN] at hN0 hN1 hbad hgood hgrow hc hlen ⊢
  have HNN := Lib.hid hN
  have HBAD := Lib.hid hbad
  have HGOOD := Lib.hid hgood
  have HGROW := Lib.hid hgrow
  obtain ⟨CV, hCV⟩ : ∃ CV, Value.slice A N c = CV := ⟨_, rfl⟩
  have HCV := Lib.hid hCV
  rw [hN, hCV] at HCL
  clear hcell hkl hR hbad hgood hgrow hN hCV
  by_cases h0 : N = 0
  · have HU := Lib.hid (hN0 h0)
    have hz : ((N : Int) == 0) = true := by rw [beq_iff_eq]; omega
    have hb := (Below.refl w.heap.size w).alloc (Nat.le_refl _) (.cells #[.slice A N c] 24)
    clear hN0 hN1 h0
    go_enter Tryd.func18, Tryd.ntmps18
    go_wp2_with fail
    go_ret2
    exact te_two HU.out rfl hb
  · have hz : ((N : Int) == 0) = false := by rw [beq_eq_false_iff_ne]; omega
    by_cases h1 : 8192 < N
    · have HU := Lib.hid (hN1 h1)
      have hz1 : (8192 : Int) < (N : Int) := by omega
      have hb := (Below.refl w.heap.size w).alloc (Nat.le_refl _) (.cells #[.slice A N c] 24)
      clear hN0 hN1
      go_enter Tryd.func18, Tryd.ntmps18
      go_wp2_with fail
      go_ret2
      exact te_two HU.out rfl hb
    · have hz1 : ¬ (8192 : Int) < (N : Int) := by omega
      have hmk := @run_make_row' Tryd.prog 45 3 (.int .i64 0) 8 Tryd.underlying45 infoInt rfl .i64 .i64 N (by omega) (by omega)
      have H0 := Lib.hid h0
      have H1 := Lib.hid h1
      clear hN0 hN1 h0
      go_enter Tryd.func18, Tryd.ntmps18
      go_wp2_with fail
      obtain ⟨H, hH⟩ : ∃ H, w.heap.size = H := ⟨_, rfl⟩
      have hb1 : Below H w ((w.alloc (.cells #[.slice A N c] 24)).alloc (.cells (madeCells #[.int .i64 0] N) 3)) := ((Below.refl H w).alloc (by omega) _).alloc (by simp; omega) _
      have hsz1 : (w.alloc (.cells #[.slice A N c] 24)).heap.size = H + 1 := by simp; omega
      have hrow1 : ((w.alloc (.cells #[.slice A N c] 24)).alloc (.cells (madeCells #[.int .i64 0] N) 3)).rowIs (H + 1) 3 N (fun _ => .int .i64 0) := by rw [← hsz1]; exact World.rowIs_made _ _ _ _
      have hbox1 : ((w.alloc (.cells #[.slice A N c] 24)).alloc (.cells (madeCells #[.int .i64 0] N) 3)).cell? ⟨H, 0, none⟩ = some (.slice A N c) := by
        refine cell_of_row _ H 0 #[.slice A N c] 24 (0, 0) ?_
        rw [Below.heap_alloc _ _ _ (by omega), ← hH]
        exact heap_alloc_new w _
      rw [hH]
      generalize ((w.alloc (.cells #[.slice A N c] 24)).alloc (.cells (madeCells #[.int .i64 0] N) 3)) = W1 at hb1 hrow1 hbox1 ⊢
      have HB1 := Lib.hid hb1
      have HBOX1 := Lib.hid hbox1
      have HROW1 := Lib.hid hrow1
      have HH := Lib.hid hH
      clear hb1 hsz1 hrow1 hbox1 hmk hH
      go_loopw [6, 7, 8] (fun i _ _ wr => ∃ I : Nat, I ≤ N ∧ i = .int .i64 I ∧ (∀ (i' : Nat) (c : Cel), i' < I → cs[i']? = some c → ∀ x ∈ c.ks, 0 ≤ x ∧ x < (i' : Int)) ∧ wr.rowIs (H + 1) 3 N (fun j => .int .i64 (((kidsOf (cs.take I)).count (j : Int) : Nat) : Int)) ∧ Below (H + 1) W1 wr) (fun i _ _ _ => N - (intOf i).toNat)
      case atStart => exact ⟨0, Nat.zero_le _, rfl, fun i' c h => absurd h (Nat.not_lt_zero _), HROW1.out.congr fun _ _ => by simp [kidsOf], Below.refl _ _⟩
      case round =>
        rename World => wa
        obtain ⟨I, hI, rfl, hok, hrow, hbw⟩ := hrel
        have hbox := (hbw.cell (p := ⟨H, 0, none⟩) (by simp only; omega)).trans HBOX1.out
        have hbww : Below H w wa := HB1.out.trans (hbw.mono (by omega))
        have HOK := Lib.hid hok
        have HROW := Lib.hid hrow
        have HBW := Lib.hid hbw
        have HBWW := Lib.hid hbww
        clear hok hrow hbw hbww
        by_cases hlt : I < N
        · have hIz : (I : Int) < (N : Int) := by omega
          have hci := cel_lt (cs := cs) (i := I) (by rw [HNN.out]; exact hlt)
          obtain ⟨b, o, hA, hbb, g0, g1, g2, g3, kv, g4, hkv⟩ := HCELL.out I _ hci
          subst hA
          obtain ⟨KA, kc, rfl, hkc, hkcl⟩ := hkv
          have hml := HKL.out I _ hci
          obtain ⟨M, hM⟩ : ∃ M, (cel cs I).ks.length = M := ⟨_, rfl⟩
          rw [hM] at hkc g4 hml
          have HMM := Lib.hid hM
          have HCI := Lib.hid hci
          have HKC := Lib.hid hkcl
          have HG4 := Lib.hid g4
          have hbH : b < H := by rw [← HH.out]; exact hbb
          clear hci hkcl hM g0 g1 g2 g3 g4
          go_wp2_with fail
          go_loopw [7, 8] (fun k _ w2 => ∃ K : Nat, K ≤ M ∧ k = .int .i64 K ∧ (∀ (j : Nat) (x : Int), j < K → (cel cs I).ks[j]? = some x → 0 ≤ x ∧ x < (I : Int)) ∧ w2.rowIs (H + 1) 3 N (fun j => .int .i64 ((cnK cs I K j : Nat) : Int)) ∧ Below (H + 1) wa w2) (fun k _ _ => M - (intOf k).toNat)
          case atStart => exact ⟨0, Nat.zero_le _, rfl, fun j x h => absurd h (Nat.not_lt_zero _), HROW.out.congr fun _ _ => by rw [cnK_zero], Below.refl _ _⟩
          case round =>
            obtain ⟨K, hK, rfl, hkok, hrow2, hbw2⟩ := hrel
            have hbox2 := (hbw2.cell (p := ⟨H, 0, none⟩) (by simp only; omega)).trans hbox
            have hb2w : Below H w wr := HBWW.out.trans (hbw2.mono (by omega))
            have g42 : wr.cell? ⟨b, o + I * 5 + 4, none⟩ = some (.slice KA M kc) := (hb2w.cell (p := ⟨b, o + I * 5 + 4, none⟩) hbH).trans HG4.out
            have HKOK := Lib.hid hkok
            have HROW2 := Lib.hid hrow2
            have HBW2 := Lib.hid hbw2
            have HB2W := Lib.hid hb2w
            clear hkok hrow2 hbw2 hb2w hbox
            by_cases hlt2 : K < M
            · obtain ⟨x, hx⟩ : ∃ x, (cel cs I).ks[K]? = some x := ⟨_, List.getElem?_eq_getElem (by rw [HMM.out]; exact hlt2)⟩
              obtain ⟨kb, ko, hKA, hkb, hxc⟩ := HKC.out K x hx
              subst hKA
              have hkz : (K : Int) < (M : Int) := by omega
              have hxr := (HB2W.out.cell (p := ⟨kb, ko + K, none⟩) (by rw [← HH.out]; exact hkb)).trans hxc
              have HX := Lib.hid hx
              have HBADK : Hid (¬ (0 ≤ x ∧ x < (I : Int)) → R = (none, 16)) := Lib.hid fun hn => HBAD.out H0.out (by omega) fun h => hn (h.1 I _ HCI.out x (List.mem_of_getElem? HX.out))
              clear hx hxc
              by_cases hneg : x < 0
              · have HU := Lib.hid (HBADK.out (by omega))
                go_wp2_with fail
                go_ret2
                exact te_two HU.out rfl (by rw [HH.out]; exact HB2W.out)
              · obtain ⟨m, rfl⟩ : ∃ m : Nat, x = (m : Int) := ⟨x.toNat, by omega⟩
                by_cases hge : I ≤ m
                · have HU := Lib.hid (HBADK.out (by omega))
                  have hgez : (I : Int) ≤ (m : Int) := by omega
                  go_wp2_with fail
                  go_ret2
                  exact te_two HU.out rfl (by rw [HH.out]; exact HB2W.out)
                · have hgez : ¬ (I : Int) ≤ (m : Int) := by omega
                  have hmN : (m : Int) < (N : Int) := by omega
                  have hcm := HROW2.out.cell (i := m) (by omega)
                  have hfm := HROW2.out.frozen m
                  have hcb : cnK cs I K m ≤ 10000000000 := by
                    unfold cnK
                    have h1 := cnK_le (M := 1000000) HKL.out I (by rw [HNN.out]; exact hI)
                    have h2 : (kidsOf (cs.take I)).count (m : Int) ≤ _ := List.count_le_length
                    have h3 : ((cel cs I).ks.take K).count (m : Int) ≤ _ := List.count_le_length
                    rw [List.length_take, HMM.out] at h3
                    have h4 : I * 1000000 ≤ 8192 * 1000000 := Nat.mul_le_mul (by omega) (Nat.le_refl _)
                    omega
                  have HNX := Lib.hid (cnK_next (cs := cs) (i := I) HX.out)
                  obtain ⟨cc, hcc⟩ : ∃ cc, cnK cs I K m = cc := ⟨_, rfl⟩
                  rw [hcc] at hcb hcm
                  have HCC := Lib.hid hcc
                  clear hcc
                  go_wp2_with fail
                  go_roundw
                  case rel =>
                    exact ⟨K + 1, by omega, by go_num, fun j y hj hy => by
                      rcases Nat.lt_or_ge j K with h | h
                      · exact HKOK.out j y h hy
                      · have : j = K := by omega
                        subst this
                        rw [HX.out] at hy
                        injection hy with hy
                        rw [← hy]
                        omega, (HROW2.out.set m (.int .i64 ((cc : Int) + 1))).congr fun j _ => by
                        rw [HNX.out]
                        by_cases e : j = m
                        · rw [if_pos e, if_pos e, e, HCC.out]; rfl
                        · rw [if_neg e, if_neg e], HBW2.out.setCell (Nat.le_refl _) _⟩
                  case measure => simp [intOf]; omega
            · have hKM : K = M := by omega
              have hkz : ¬ (K : Int) < (M : Int) := by omega
              have HEND := Lib.hid (fun j => cnK_end (cs := cs) (i := I) (by rw [HNN.out]; exact hlt) j)
              have HKM := Lib.hid hKM
              clear hKM
              go_wp2_with fail
              go_roundw
              case rel =>
                exact ⟨I + 1, by omega, by go_num, fun i' c hi' hc' y hy => by
                  rcases Nat.lt_or_ge i' I with h | h
                  · exact HOK.out i' c h hc' y hy
                  · have : i' = I := by omega
                    subst this
                    rw [HCI.out] at hc'
                    injection hc' with hc'
                    rw [← hc'] at hy
                    obtain ⟨j, hj, rfl⟩ := List.getElem_of_mem hy
                    exact HKOK.out j _ (by rw [HKM.out, ← HMM.out]; exact hj) (List.getElem?_eq_getElem hj), HROW2.out.congr fun j _ => by rw [HKM.out, ← HMM.out, HEND.out], HBW.out.trans HBW2.out⟩
              case measure => simp [intOf]; omega
        · have hIN : I = N := by omega
          subst hIN
          have hIz : ¬ (I : Int) < (I : Int) := by omega
          have hokK : okK cs := fun i' c hc' y hy => HOK.out i' c (by have := (List.getElem?_eq_some_iff.1 hc').1; rw [HNN.out] at this; exact this) hc' y hy
          have hrowN := HROW.out
          rw [show cs.take I = cs from List.take_of_length_le (by rw [HNN.out]; exact Nat.le_refl _)] at hrowN
          have HROWN := Lib.hid hrowN
          have HOKK := Lib.hid hokK
          have hcgrow : Calls Tryd.prog 37 #[.agg #[.slice A I c], .int .i64 ((I - 1 : Nat) : Int)] wa (WiPost (gr cs I (I - 1)) No wa) := HGROW.out (I - 1) hokK (by have := H0.out; omega) (by omega) HKL.out (by have := H0.out; omega) wa w.heap.size (.slice A I c) (by
            rw [HCV.out]
            exact HCL.out.below (by rw [HH.out]; exact HBWW.out)) (by have := HBWW.out.size; exact this)
          have hsub : ((I - 1 : Nat) : Int) = (I : Int) - 1 := by have := H0.out; omega
          rw [hsub] at hcgrow
          have hI0 : (I : Int) - 1 ≤ 8192 ∧ 0 ≤ (I : Int) - 1 := by have := H0.out; omega
          clear hokK hrowN hsub
          go_wp2_with fail
          go_loop [9] (fun i => ∃ q : Nat, (q : Int) ≤ (I : Int) - 1 ∧ i = .int .i64 q ∧ (∀ j, j < q → (kidsOf cs).count (j : Int) = 1)) (fun i => I - (intOf i).toNat)
          case atStart => exact ⟨0, by omega, rfl, fun j hj => absurd hj (Nat.not_lt_zero _)⟩
          case round =>
            obtain ⟨q, hq, rfl, hone⟩ := hrel
            have HONE := Lib.hid hone
            clear hone
            by_cases hqlt : (q : Int) < (I : Int) - 1
            · have hcq := HROWN.out.cell (i := q) (by omega)
              obtain ⟨cc, hcc⟩ : ∃ cc, (kidsOf cs).count (q : Int) = cc := ⟨_, rfl⟩
              rw [hcc] at hcq
              have HCC := Lib.hid hcc
              clear hcc
              by_cases h1' : cc = 1
              · have e1 : ((cc : Int) == 1) = true := by rw [beq_iff_eq]; omega
                have e2 : ((cc : Int) != 1) = false := by rw [bne_eq_false_iff_eq]; omega
                have HCC1 := Lib.hid h1'
                clear h1'
                go_wp2_with fail
                go_round
                case rel => exact ⟨q + 1, by omega, by go_num, fun j hj => by
                  rcases Nat.lt_or_ge j q with h | h
                  · exact HONE.out j h
                  · rw [show j = q by omega, HCC.out, HCC1.out]⟩
                case measure => simp [intOf]; omega
              · have e1 : ((cc : Int) == 1) = false := by rw [beq_eq_false_iff_ne]; omega
                have e2 : ((cc : Int) != 1) = true := by rw [bne_iff_ne]; omega
                have HU := Lib.hid (HBAD.out H0.out (by omega) fun h => h1' (by rw [← HCC.out]; exact h.2 q (by rw [HNN.out]; omega)))
                clear h1'
                go_wp2_with fail
                go_ret2
                exact te_two HU.out rfl (by rw [HH.out]; exact HBWW.out)
            · have HU := Lib.hid (HGOOD.out H0.out (by omega) ⟨HOKK.out, fun i hi => HONE.out i (by rw [HNN.out] at hi; omega)⟩)
              have hqz : ¬ (q : Int) < (I : Int) - 1 := hqlt
              go_wp2_with fail
              refine hcgrow.mono ?_
              rintro e w3 ⟨v3, rfl, hv3, hb3⟩
              have HV3 := Lib.hid hv3
              have HB3 := Lib.hid hb3
              clear hv3 hb3
              go_wp2_with fail
              go_ret2
              have hsz := HBWW.out.size
              rw [HH.out] at hsz
              refine te_two HU.out (InT.keep HV3.out (by
                rintro q' (h | ⟨h, h2⟩)
                · exact h.elim
                · exact .inr ⟨by rw [HH.out]; omega, h2⟩) fun _ _ => rfl) (by rw [HH.out]; exact HBWW.out.trans (HB3.out.mono (by omega)))
end Go.Proofs.YtmiicfdigkkbdaaDoor
namespace Go.Proofs.YtmiicfdigkkbdaaDoor

def innK (k : Int) : Nat := if (117 ≤ k ∧ k ≤ 119) ∨ k = 121 then 1 else 0
def frV (c : Int) (d : Nat) (x : Nod) : Prop := x.k = 110 ∧ (d : Int) ≤ x.n ∧ c ≤ x.n - d
instance (c : Int) (d : Nat) (x : Nod) : Decidable (frV c d x) := by unfold frV; infer_instance
def atV (i : Int) (d : Nat) (x : Nod) : Prop := x.k = 110 ∧ (d : Int) ≤ x.n ∧ x.n - d = i
instance (c : Int) (d : Nat) (x : Nod) : Decidable (atV c d x) := by unfold atV; infer_instance
def setN (x : Nod) (n : Int) : Nod := ⟨x.k, n, x.a, ⟨#[]⟩⟩
def mvN (b c : Int) (d : Nat) (x : Nod) : Option Nod :=
  if frV c d x then (if b < d - x.n ∨ 65536 - x.n < b then none else some (setN x (x.n + b))) else some (setN x x.n)
def Fr.mv (b c : Int) : Nat → Fr → Option Fr
  | _, .nil => some .nil
  | d, .cons x k r => match mvN b c d x, Fr.mv b c (d + innK x.k) k, Fr.mv b c d r with
    | some y, some k', some r' => some (.cons y k' r')
    | _, _, _ => none
def mvT (b c : Int) (d : Nat) (t : Tr) : Option Tr := match mvN b c d t.1, Fr.mv b c (d + innK t.1.k) t.2 with
  | some y, some k' => some (y, k')
  | _, _ => none
def Fr.ct (i : Int) : Nat → Fr → Nat
  | _, .nil => 0
  | d, .cons x k r => (if atV i d x then 1 else 0) + Fr.ct i (d + innK x.k) k + Fr.ct i d r
def ptN (i : Int) (d : Nat) (x : Nod) : Nod := if frV (i + 1) d x then setN x (x.n - 1) else setN x x.n
def Fr.pt (i : Int) (u : Tr) : Nat → Fr → Option Fr
  | _, .nil => some .nil
  | d, .cons x k r => if atV i d x then (match mvT d 0 0 u, Fr.pt i u d r with
      | some t, some r' => some (.cons t.1 t.2 r')
      | _, _ => none)
    else match Fr.pt i u (d + innK x.k) k, Fr.pt i u d r with
      | some k', some r' => some (.cons (ptN i d x) k' r')
      | _, _ => none
def fvN (d : Nat) (x : Nod) : Int := if x.k = 110 ∧ (d : Int) ≤ x.n then x.n - d + 1 else 0
def Fr.fv : Nat → Fr → Int
  | _, .nil => 0
  | d, .cons x k r => max (max (fvN d x) (Fr.fv (d + innK x.k) k)) (Fr.fv d r)
def NodOk (x : Nod) (k : Fr) : Prop := x.m = ⟨#[]⟩ ∧ (x.k = 110 → 0 ≤ x.n ∧ x.n ≤ 65536 ∧ x.a = ⟨#[]⟩ ∧ k = .nil)
def Fr.vok : Fr → Prop
  | .nil => True
  | .cons x k r => NodOk x k ∧ k.vok ∧ r.vok
theorem setN_self {x : Nod} (h : x.m = ⟨#[]⟩) : setN x x.n = x := by
  cases x
  simp only at h
  subst h
  rfl
theorem Fr.mv_cons {b c : Int} {d : Nat} {x : Nod} {k r g : Fr} (h : Fr.mv b c d (.cons x k r) = some g) : ∃ y k' r', mvN b c d x = some y ∧ Fr.mv b c (d + innK x.k) k = some k' ∧ Fr.mv b c d r = some r' ∧ g = .cons y k' r' := by
  unfold Fr.mv at h
  split at h
  · rename_i y k' r' h1 h2 h3
    injection h with h
    exact ⟨y, k', r', h1, h2, h3, h.symm⟩
  · cases h
theorem Fr.mv_some {b c : Int} {d : Nat} {x y : Nod} {k r k' r' : Fr} (h1 : mvN b c d x = some y) (h2 : Fr.mv b c (d + innK x.k) k = some k') (h3 : Fr.mv b c d r = some r') : Fr.mv b c d (.cons x k r) = some (.cons y k' r') := by
  unfold Fr.mv
  rw [h1, h2, h3]
theorem mvN_k {b c : Int} {d : Nat} {x y : Nod} (h : mvN b c d x = some y) : y.k = x.k := by
  unfold mvN at h
  split at h
  · split at h
    · cases h
    · injection h with h; rw [← h]; rfl
  · injection h with h; rw [← h]; rfl
theorem Fr.fv_pos (f : Fr) (d : Nat) : 0 ≤ Fr.fv d f := by
  induction f generalizing d with
  | nil => exact Int.le_refl _
  | cons x k r ihk ihr => have := ihr d; unfold Fr.fv; omega
end Go.Proofs.YtmiicfdigkkbdaaDoor
