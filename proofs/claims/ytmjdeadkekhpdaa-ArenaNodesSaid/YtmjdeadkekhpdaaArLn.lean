/-
  The law ArenaNodes.
-/
import Derived.Test.YtmjdeadkekhpdaaArLp
namespace Go.Proofs.Ytmjdeadkekhpdaa
open Go.RowKit

/-- A path that stands ahead of another one neither is it, nor begins with it. -/
theorem paths_apart {kind : Int} {t : Tr} {i k : Nat} {p q : List Int} (hp : (pathsT kind t)[i]? = some p) (hq : (pathsT kind t)[k]? = some q) (hki : k < i) : q ≠ p ∧ q.take p.length ≠ p := by
  have hor := pathsT_order kind t
  rw [List.pairwise_iff_getElem] at hor
  obtain ⟨h1, h2⟩ := List.getElem?_eq_some_iff.1 hp
  obtain ⟨h3, h4⟩ := List.getElem?_eq_some_iff.1 hq
  have h := hor k i h3 h1 hki
  rw [h2, h4] at h
  refine ⟨fun e => h (by rw [e]; exact List.prefix_refl _), fun e => h (by rw [← e]; exact List.take_prefix _ _)⟩
set_option maxHeartbeats 12800000 in
set_option maxRecDepth 100000 in
theorem lawNodes (cs : List Cel) (kind : Int) (w : World) (cv : Value) (hcl : Cls w w.heap.size cv cs) (hfit : ∀ c ∈ cs, fitC c) :
    Calls Try.prog 8 #[.agg #[cv], .int .i64 kind] w (SbPost true w) := by
  obtain ⟨H, hH⟩ : ∃ H, w.heap.size = H := ⟨_, rfl⟩
  obtain ⟨CA, cc, hcv, -, -⟩ := id hcl
  have u0 : Up w (w.alloc (.cells #[cv] 24)) := (Up.refl w).alloc _
  obtain ⟨W0, hW0⟩ : ∃ W0, w.alloc (.cells #[cv] 24) = W0 := ⟨_, rfl⟩
  have hx0 : W0.heap[H]? = some (.cells #[cv] 24 (0, 0)) := by rw [← hW0, ← hH]; exact heap_alloc_new w _
  rw [hW0] at u0
  have hcl0 := hcl.upp u0
  have kc : W0.cell? ⟨H, 0, none⟩ = some cv := cell_of_row _ H 0 _ _ _ hx0
  obtain ⟨o, z, ho, hs, h2⟩ := op_few cs
  have HW0 := Lib.hid hW0
  have U0 := Lib.hid u0
  have HCL := Lib.hid hcl0
  have HF := Lib.hid hfit
  have HO := Lib.hid ho
  have HS := Lib.hid hs
  have H2 := Lib.hid h2
  clear hcl u0 hW0 hcl0 hfit ho hs h2 hx0
  subst hcv
  go_enter Try.func8, Try.ntmps8
  go_wp2_with fail
  rw [HW0.out]
  refine (uFew cs HCL.out HF.out (Up.refl _)).mono ?_
  rintro e w1 ⟨v1, rfl, h1, u1⟩
  have H1 := Lib.hid h1
  have U1 := Lib.hid (U0.out.trans u1)
  clear h1 u1 kc
  go_wp2_with fail
  refine (uOpen (fewL cs) H1.out (few_kids cs) (few_le cs) (Up.refl _)).mono ?_
  rw [HO.out]
  rintro e w2 ⟨n, rfl, h2, u2⟩
  have HN2 := Lib.hid h2
  have U2 := Lib.hid (U1.out.trans u2)
  clear h2 u2
  rcases H2.out with ⟨t, rfl, rfl, -, -⟩ | ⟨rfl, hz⟩
  · go_wp2_with fail
    refine (uPaths (some t) kind HN2.out (by have := HS.out; omega) (Up.refl _)).mono ?_
    rintro e w3 ⟨all, rfl, h3, u3⟩
    obtain ⟨L, hL⟩ : ∃ L, pathsO kind (some t) = L := ⟨_, rfl⟩
    rw [hL] at h3
    obtain ⟨PA, pc, rfl, hpc, hj⟩ := h3
    have hple := paths_le kind (some t)
    have hsz : szO (some t) ≤ 60 := HS.out
    rw [hL] at hple
    have hap : ∀ (i k : Nat) (p q : List Int), L[i]? = some p → L[k]? = some q → k < i → q ≠ p ∧ q.take p.length ≠ p := fun i k p q h1 h2 h3 => paths_apart (kind := kind) (t := t) (by rw [← hL] at h1; exact h1) (by rw [← hL] at h2; exact h2) h3
    have hat : ∀ (i : Nat) (p : List Int), L[i]? = some p → p.length ≤ 60 ∧ ∃ u, atT t p = some u ∧ (0 ≤ kind → u.1.k = kind) := fun i p h => by
      have hm := List.mem_of_getElem? h
      refine ⟨by have := hple.2 p hm; omega, pathsT_at (by rw [← hL] at hm; exact hm)⟩
    obtain ⟨M, hM⟩ : ∃ M, L.length = M := ⟨_, rfl⟩
    have hM60 : M ≤ 60 := by have := hple.1; omega
    rw [hM] at hpc ⊢
    have HJ := Lib.hid hj
    have HAP := Lib.hid hap
    have HAT := Lib.hid hat
    have HM := Lib.hid hM
    have HN3 := Lib.hid (HN2.out.up u3)
    have U3 := Lib.hid (U2.out.trans u3)
    clear hj hap hat hM u3 hple hL
    go_wp2_with fail
    go_loopw [8, 9, 10, 11, 12, 34, 60] (fun _ _ _ _ _ i _ wr => ∃ I : Nat, i = .int .i64 I ∧ I ≤ M ∧ Up w3 wr) (fun _ _ _ _ _ i _ _ => M - (intOf i).toNat)
    case atStart => exact ⟨0, rfl, Nat.zero_le _, Up.refl _⟩
    case round =>
      obtain ⟨I, rfl, hI, hur⟩ := hrel
      by_cases hlt : I < M
      · have hiz : (I : Int) < (M : Int) := by omega
        obtain ⟨p, hp⟩ : ∃ p, L[I]? = some p := ⟨_, List.getElem?_eq_getElem (by have := HM.out; omega)⟩
        obtain ⟨pb, po, pv, rfl, hpb, hcell, hsp⟩ := HJ.out I p hp
        obtain ⟨hpl, u, hu, huk⟩ := HAT.out I p hp
        have hcr := hur.cell hcell
        have HPR := Lib.hid (hsp.up hur)
        have HNR := Lib.hid (HN3.out.up hur)
        have hE : Hid (atE (some t) p = 0) := Lib.hid (by show (match atT t p with | none => 21 | some _ => 0) = (0 : Int); rw [hu])
        have hA : Hid (atO (some t) p = some u) := Lib.hid hu
        have HP := Lib.hid hp
        have HPL := Lib.hid hpl
        have UR := Lib.hid hur
        obtain ⟨PA, pc', rfl, hpc', -⟩ := id hsp
        obtain ⟨PN, hPN⟩ : ∃ PN, p.length = PN := ⟨_, rfl⟩
        rw [hPN] at hcr hpc' HPR
        have HPN := Lib.hid hPN
        have hku : Hid (0 ≤ kind → u.1.k = kind) := Lib.hid huk
        clear hcell hsp hu hp hpl hur huk hPN
        go_wp2_with fail
        refine (uAt (some t) p HNR.out HPR.out (by have := HPL.out; omega) (Up.refl _)).mono ?_
        rw [hE.out, hA.out]
        rintro e w5 ⟨x, rfl, h5, u5⟩
        obtain ⟨q, o, A, c, rfl, -, d0, -⟩ := InT.open h5
        have HPT := Lib.hid (HPR.out.up u5)
        have U5 := Lib.hid (UR.out.trans u5)
        clear h5 u5 hcr
        have hkk : (0 ≤ kind ∧ (u.1.k != kind) = false) ∨ ¬ 0 ≤ kind := by
          by_cases h : 0 ≤ kind
          · refine .inl ⟨h, ?_⟩
            rw [hku.out h]
            simp
          · exact .inr h
        rcases hkk with ⟨hk0, hk1⟩ | hk0
        all_goals
          go_wp2_with fail
          go_loopw [12, 60] (fun _ k wb => ∃ K : Nat, k = .int .i64 K ∧ K ≤ I ∧ Up w5 wb) (fun _ k _ => I - (intOf k).toNat)
          case atStart => exact ⟨0, rfl, Nat.zero_le _, Up.refl _⟩
          case round =>
            obtain ⟨K, rfl, hK, hub⟩ := hrel
            by_cases hlt2 : K < I
            · have hkz : (K : Int) < (I : Int) := by omega
              have hkM : (K : Int) < (M : Int) := by omega
              obtain ⟨qq, hq⟩ : ∃ qq, L[K]? = some qq := ⟨_, List.getElem?_eq_getElem (by have := HM.out; omega)⟩
              obtain ⟨qb, qo, qv, hqa, hqb, hqcell, hqsp⟩ := HJ.out K qq hq
              injection hqa with hqa
              injection hqa with hqa1 hqa2
              subst hqa1 hqa2
              obtain ⟨hap1, hap2⟩ := HAP.out I K p qq HP.out hq hlt2
              obtain ⟨hql, -⟩ := HAT.out K qq hq
              obtain ⟨QA, qc, rfl, hqc, -⟩ := id hqsp
              have hcq := (U5.out.trans hub).cell hqcell
              have HQR := Lib.hid (hqsp.up (U5.out.trans hub))
              have HPB := Lib.hid (HPT.out.up hub)
              obtain ⟨QN, hQN⟩ : ∃ QN, qq.length = QN := ⟨_, rfl⟩
              rw [hQN] at hcq hqc HQR
              have c1 := rSamePath qq p HQR.out HPB.out (by omega) false (by simp [hap1]) (Up.refl wr)
              by_cases hln : PN < QN
              · have hlz : (PN : Int) < (QN : Int) := by omega
                have hz0 : (0 : Int) ≤ (PN : Int) := by omega
                have hz1 : (PN : Int) ≤ (qc : Int) := by omega
                have hz2 : (PN : Int) ≤ (QN : Int) := by omega
                have c2 := fun W (h : Up wr W) => rSamePath (qq.take PN) p (HQR.out.take (k := PN) (by omega)) HPB.out (by rw [List.length_take]; omega) false (by rw [HPN.out] at hap2; simp [hap2]) h
                have HB := Lib.hid hub
                have C2 := Lib.hid c2
                clear hap1 hap2 hqcell hqsp hq hQN c2 hub
                go_wp2_with fail
                refine c1.mono ?_
                rintro e w6 ⟨rfl, u6⟩
                have hcq6 := u6.cell hcq
                go_wp2_with fail
                refine (C2.out _ u6).mono ?_
                rintro e w7 ⟨rfl, u7⟩
                go_wp2_with fail
                go_roundw
                case rel => exact ⟨K + 1, by go_num, by omega, HB.out.trans u7⟩
                case measure => simp [intOf]; omega
              · have hlz : ¬ (PN : Int) < (QN : Int) := by omega
                have HB := Lib.hid hub
                clear hap1 hap2 hqcell hqsp hq hQN hub
                go_wp2_with fail
                refine c1.mono ?_
                rintro e w6 ⟨rfl, u6⟩
                have hcq6 := u6.cell hcq
                go_wp2_with fail
                go_roundw
                case rel => exact ⟨K + 1, by go_num, by omega, HB.out.trans u6⟩
                case measure => simp [intOf]; omega
            · have hkz : ¬ (K : Int) < (I : Int) := by omega
              have HB := Lib.hid hub
              clear hub
              go_wp2_with fail
              go_roundw
              case rel => exact ⟨I + 1, by go_num, by omega, U5.out.trans HB.out⟩
              case measure => simp [intOf]; omega
      · have hiz : ¬ (I : Int) < (M : Int) := by omega
        go_wp2_with fail
        refine (uWorks hur).mono ?_
        rintro e w5 ⟨rfl, u5⟩
        go_wp2_with fail
        go_ret
        exact ⟨rfl, U3.out.trans u5⟩
  · have hz1 : (z != 0) = true := by rw [bne_iff_ne]; exact hz
    clear hz
    go_wp2_with fail
    refine (uPaths none kind HN2.out (by decide) (Up.refl _)).mono ?_
    rintro e w3 ⟨all, rfl, h3, u3⟩
    obtain ⟨PA, pc, rfl, -, -⟩ := h3
    have hl0 : (pathsO kind none).length = 0 := rfl
    rw [hl0]
    go_wp2_with fail
    refine (uWorks u3).mono ?_
    rintro e w5 ⟨rfl, u5⟩
    go_wp2_with fail
    go_ret
    exact ⟨rfl, U2.out.trans u5⟩
end Go.Proofs.Ytmjdeadkekhpdaa
