/-
  The law ArenaFinds.
-/
import Derived.Test.YtmjdeadkekhpdaaArLp
namespace Go.Proofs.Ytmjdeadkekhpdaa
open Go.RowKit

theorem w64 (n : Int) (h : -9223372036854775808 ≤ n ∧ n ≤ 9223372036854775807) : IntKind.i64.wrap n = n := by rw [IntKind.wrap_i64]; omega
theorem tmod_fit {x n : Int} (h0 : 0 < n) : 0 ≤ (Int.tmod (Int.tmod x n + n) n) ∧ Int.tmod (Int.tmod x n + n) n < n := by
  have h1 : -n < Int.tmod x n := by
    have := Int.lt_tmod_of_pos x h0
    omega
  have h2 : 0 ≤ Int.tmod x n + n := by omega
  exact ⟨Int.tmod_nonneg _ h2, Int.tmod_lt_of_pos _ h0⟩
set_option maxHeartbeats 12800000 in
set_option maxRecDepth 100000 in
theorem lawFinds (cs ds : List Cel) (k : Int) (w : World) (cv dv : Value) (hcl : Cls w w.heap.size cv cs) (hdl : Cls w w.heap.size dv ds) (hfit : ∀ c ∈ cs, fitC c) (hfit2 : ∀ c ∈ ds, fitC c) :
    Calls Try.prog 7 #[.agg #[cv], .agg #[dv], .int .i64 k] w (SbPost true w) := by
  obtain ⟨H, hH⟩ : ∃ H, w.heap.size = H := ⟨_, rfl⟩
  obtain ⟨CA, cc, hcv, -, -⟩ := id hcl
  obtain ⟨DA, dc, hdv, -, -⟩ := id hdl
  have u0 : Up w ((w.alloc (.cells #[cv] 24)).alloc (.cells #[dv] 24)) := ((Up.refl w).alloc _).alloc _
  obtain ⟨W0, hW0⟩ : ∃ W0, (w.alloc (.cells #[cv] 24)).alloc (.cells #[dv] 24) = W0 := ⟨_, rfl⟩
  have kc : W0.cell? ⟨H, 0, none⟩ = some cv := by
    rw [← hW0, ← hH]
    exact cell_of_row _ w.heap.size 0 _ _ _ (block_alloc _ (heap_alloc_new w (.cells #[cv] 24)))
  have kd : W0.cell? ⟨H + 1, 0, none⟩ = some dv := by
    rw [← hW0, ← hH]
    have h := heap_alloc_new (w.alloc (.cells #[cv] 24)) (.cells #[dv] 24)
    rw [show (w.alloc (.cells #[cv] 24)).heap.size = w.heap.size + 1 by simp] at h
    exact cell_of_row _ (w.heap.size + 1) 0 _ _ _ h
  rw [hW0] at u0
  have hcl0 := hcl.upp u0
  have hdl0 := hdl.upp u0
  obtain ⟨o, z, ho, hs, h2⟩ := op_few cs
  obtain ⟨s, y, ho2, hs2, h22⟩ := op_few ds
  have HW0 := Lib.hid hW0
  have U0 := Lib.hid u0
  have HCL := Lib.hid hcl0
  have HDL := Lib.hid hdl0
  have HF := Lib.hid hfit
  have HF2 := Lib.hid hfit2
  have HO := Lib.hid ho
  have HO2 := Lib.hid ho2
  have HS := Lib.hid hs
  have HS2 := Lib.hid hs2
  have H2 := Lib.hid h2
  have H22 := Lib.hid h22
  clear hcl hdl u0 hW0 hcl0 hdl0 hfit hfit2 ho ho2 hs hs2 h2 h22
  subst hcv hdv
  go_enter Try.func7, Try.ntmps7
  go_wp2_with fail
  rw [HW0.out]
  refine (uFew cs HCL.out HF.out (Up.refl _)).mono ?_
  rintro e w1 ⟨v1, rfl, h1, u1⟩
  have kd1 := u1.cell kd
  have H1 := Lib.hid h1
  have U1 := Lib.hid u1
  clear h1 u1 kc kd
  go_wp2_with fail
  refine (uOpen (fewL cs) H1.out (few_kids cs) (few_le cs) (Up.refl _)).mono ?_
  rw [HO.out]
  rintro e w2 ⟨n, rfl, h2, u2⟩
  have kd2 := u2.cell kd1
  have HN2 := Lib.hid h2
  have U2 := Lib.hid (U1.out.trans u2)
  clear h2 u2 kd1
  go_wp2_with fail
  refine (uFew ds (HDL.out.upp U2.out) HF2.out (Up.refl _)).mono ?_
  rintro e w3 ⟨v3, rfl, h3, u3⟩
  have H3 := Lib.hid h3
  have HN3 := Lib.hid (HN2.out.up u3)
  have U3 := Lib.hid (U2.out.trans u3)
  clear h3 u3 kd2
  go_wp2_with fail
  refine (uOpen (fewL ds) H3.out (few_kids ds) (few_le ds) (Up.refl _)).mono ?_
  rw [HO2.out]
  rintro e w4 ⟨sv, rfl, h4, u4⟩
  have HN4 := Lib.hid (HN3.out.up u4)
  have HS4 := Lib.hid h4
  have U4 := Lib.hid (U0.out.trans (U3.out.trans u4))
  clear h4 u4
  rcases H2.out with ⟨t, rfl, rfl, -, -⟩ | ⟨rfl, hz⟩
  · rcases H22.out with ⟨t2, rfl, rfl, -, -⟩ | ⟨rfl, hz⟩
    · go_wp2_with fail
      refine (uPaths (some t) (-1) HN4.out (by have := HS.out; omega) (Up.refl _)).mono ?_
      rintro e w5 ⟨all, rfl, h5, u5⟩
      have hlen : (pathsO (-1) (some t)).length = szT t := pathsT_all t
      obtain ⟨PA, pc, rfl, hpc, hj⟩ := h5
      rw [hlen] at hpc ⊢
      have hszo : szO (some t) = szT t := rfl
      have hpos : 1 ≤ szT t := by unfold szT; omega
      have hle : szT t ≤ 60 := HS.out
      obtain ⟨M, hM⟩ : ∃ M, szT t = M := ⟨_, rfl⟩
      have cSz := uSize (some t) (HN4.out.up u5) (by rw [hszo]; omega) (Up.refl w5)
      rw [hszo] at cSz
      rw [hM] at hpc hlen hpos hle cSz ⊢
      have e0 : ((M : Int) == 0) = false := by rw [beq_eq_false_iff_ne]; omega
      have hm0 : (M : Int) ≠ 0 := by omega
      obtain ⟨hi0, hi1⟩ := tmod_fit (x := k) (n := (M : Int)) (by omega)
      have hb1 : -(M : Int) < Int.tmod k M ∧ Int.tmod k M < M := ⟨by have := Int.lt_tmod_of_pos k (b := (M : Int)) (by omega); omega, Int.tmod_lt_of_pos _ (by omega)⟩
      have hw1 : IntKind.i64.wrap (Int.tmod k M) = Int.tmod k M := w64 _ (by omega)
      have hw2 : IntKind.i64.wrap (Int.tmod k M + M) = Int.tmod k M + M := w64 _ (by omega)
      have hw3 : IntKind.i64.wrap (Int.tmod (Int.tmod k M + M) M) = Int.tmod (Int.tmod k M + M) M := w64 _ (by omega)
      obtain ⟨J, hJ⟩ : ∃ J : Nat, Int.tmod (Int.tmod k M + M) M = J := ⟨(Int.tmod (Int.tmod k M + M) M).toNat, by omega⟩
      rw [hJ] at hi0 hi1 hw3
      have hJM : J < M := by omega
      obtain ⟨p, hp⟩ : ∃ p, (pathsO (-1) (some t))[J]? = some p := ⟨_, List.getElem?_eq_getElem (by omega)⟩
      obtain ⟨pb, po, pv, rfl, hpb, hcell, hsp⟩ := hj J p hp
      have hmem : p ∈ pathsT (-1) t := List.mem_of_getElem? hp
      obtain ⟨u, hu, -⟩ := pathsT_at hmem
      have hpl : p.length ≤ 60 := by have := (pathsT_num (-1) t).2 p hmem; omega
      have HN5 := Lib.hid (HN4.out.up u5)
      have HS5 := Lib.hid (HS4.out.up u5)
      have HSP := Lib.hid hsp
      have HU := Lib.hid hu
      have HPL := Lib.hid hpl
      have HM := Lib.hid hM
      have U5 := Lib.hid (Up.trans U4.out u5)
      clear hsp hu hpl hM hj hp hmem u5 hlen hszo
      go_wp2_with fail
      refine cSz.mono ?_
      rintro e w6 ⟨rfl, u6⟩
      have hcell6 := u6.cell hcell
      go_wp2_with fail
      have U6 := Lib.hid (Up.trans U5.out u6)
      have HN6 := Lib.hid (HN5.out.up u6)
      have HS6 := Lib.hid (HS5.out.up u6)
      have HP6 := Lib.hid (HSP.out.up u6)
      have hE : Hid (atE (some t) p = 0) := Lib.hid (by show (match atT t p with | none => 21 | some _ => 0) = (0 : Int); rw [HU.out])
      have hA : Hid (atO (some t) p = some u) := Lib.hid HU.out
      have hPO : Hid (putO (some t) p (some t2) = some (withT t p t2)) := Lib.hid (by unfold putO; simp only [HU.out])
      have hPE : Hid (putE (some t) p (some t2) = 0) := Lib.hid (by unfold putE; rw [hE.out]; rfl)
      have hu2 := at_with p t t2 u HU.out
      have hE2 : Hid (atE (some (withT t p t2)) p = 0) := Lib.hid (by show (match atT (withT t p t2) p with | none => 21 | some _ => 0) = (0 : Int); rw [hu2])
      have hA2 : Hid (atO (some (withT t p t2)) p = some t2) := Lib.hid hu2
      have hPO2 : Hid (putO (some (withT t p t2)) p (some u) = some t) := Lib.hid (by unfold putO; simp only [hu2]; rw [with_back p t t2 u HU.out])
      have hPE2 : Hid (putE (some (withT t p t2)) p (some u) = 0) := Lib.hid (by unfold putE; rw [hE2.out]; rfl)
      have hsz := with_sz p t t2 u HU.out
      have hszu := at_sz p t u HU.out
      have hs2 : szT t2 ≤ 60 := HS2.out
      have hs1 : szT t ≤ 60 := HS.out
      have hs3 : szT (withT t p t2) ≤ 120 := by omega
      have HSZ := Lib.hid hsz
      have HSZU := Lib.hid hszu
      have HS3 := Lib.hid hs3
      have HSA := Lib.hid hs2
      have HSB := Lib.hid hs1
      clear u6 hcell hcell6 hu2 hsz hszu hs3 hs2 hs1
      refine (uAt (some t) p HN6.out HP6.out (by have := HPL.out; omega) (Up.refl _)).mono ?_
      rw [hE.out, hA.out]
      rintro e w7 ⟨old, rfl, h7, u7⟩
      have HO7 := Lib.hid h7
      have HN7 := Lib.hid (HN6.out.up u7)
      have HS7 := Lib.hid (HS6.out.up u7)
      have HP7 := Lib.hid (HP6.out.up u7)
      have U7 := Lib.hid (Up.trans U6.out u7)
      clear h7 u7
      go_wp2_with fail
      refine (uPut (some t) p (some t2) HN7.out HS7.out HP7.out (by have := HPL.out; omega) (by have : szO (some t) = szT t := rfl; have := HSB.out; omega) (Up.refl _)).mono ?_
      rw [hPO.out, hPE.out]
      rintro e w8 ⟨m, rfl, h8, u8⟩
      have HM8 := Lib.hid h8
      have HO8 := Lib.hid (HO7.out.up u8)
      have HN8 := Lib.hid (HN7.out.up u8)
      have HS8 := Lib.hid (HS7.out.up u8)
      have HP8 := Lib.hid (HP7.out.up u8)
      have U8 := Lib.hid (Up.trans U7.out u8)
      clear h8 u8
      go_wp2_with fail
      refine (uAt (some (withT t p t2)) p HM8.out HP8.out (by have := HPL.out; omega) (Up.refl _)).mono ?_
      rw [hE2.out, hA2.out]
      rintro e w9 ⟨x, rfl, h9, u9⟩
      have HX9 := Lib.hid h9
      have HM9 := Lib.hid (HM8.out.up u9)
      have HO9 := Lib.hid (HO8.out.up u9)
      have HN9 := Lib.hid (HN8.out.up u9)
      have HS9 := Lib.hid (HS8.out.up u9)
      have HP9 := Lib.hid (HP8.out.up u9)
      have U9 := Lib.hid (Up.trans U8.out u9)
      clear h9 u9
      go_wp2_with fail
      refine (uPut (some (withT t p t2)) p (some u) HM9.out HO9.out HP9.out (by have := HPL.out; omega) (by have : szO (some (withT t p t2)) = szT (withT t p t2) := rfl; have := HS3.out; omega) (Up.refl _)).mono ?_
      rw [hPO2.out, hPE2.out]
      rintro e w10 ⟨back, rfl, h10, u10⟩
      have HBK := Lib.hid h10
      have HXX := Lib.hid (HX9.out.up u10)
      have HMM := Lib.hid (HM9.out.up u10)
      have HOO := Lib.hid (HO9.out.up u10)
      have HNN := Lib.hid (HN9.out.up u10)
      have HSS := Lib.hid (HS9.out.up u10)
      have U10 := Lib.hid (Up.trans U9.out u10)
      clear h10 u10
      go_wp2_with fail
      refine (uSame (some t2) (some t2) HXX.out HSS.out (by have : szO (some t2) = szT t2 := rfl; have := HSA.out; omega) true (by simp) (Up.refl _)).mono ?_
      rintro e w11 ⟨rfl, u11⟩
      go_wp2_with fail
      refine (uSame (some t) (some t) HBK.out HNN.out (by have : szO (some t) = szT t := rfl; have := HSB.out; omega) true (by simp) u11).mono ?_
      rintro e w12 ⟨rfl, u12⟩
      go_wp2_with fail
      have g1 : szO (some (withT t p t2)) + szO (some u) = szO (some t) + szO (some t2) := HSZ.out
      have g2 : szO (some t) ≤ 60 := HSB.out
      have g3 : szO (some t2) ≤ 60 := HSA.out
      have g4 : szO (some (withT t p t2)) ≤ 120 := HS3.out
      have g5 : szO (some u) ≤ szO (some t) := HSZU.out
      have cM := uSize _ HMM.out (by omega) u12
      have cN := fun W (h : Up w10 W) => uSize _ HNN.out (by omega) h
      have cO := fun W (h : Up w10 W) => uSize _ HOO.out (by omega) h
      have cS := fun W (h : Up w10 W) => uSize _ HSS.out (by omega) h
      generalize szO (some (withT t p t2)) = A at g1 g4 cM
      generalize szO (some u) = C at g1 g5 cO
      generalize szO (some t) = B at g1 g2 g5 cN
      generalize szO (some t2) = D at g1 g3 cS
      have k1 : IntKind.i64.wrap ((B : Int) - (C : Int)) = (B : Int) - (C : Int) := w64 _ (by omega)
      have k2 : IntKind.i64.wrap ((B : Int) - (C : Int) + (D : Int)) = (B : Int) - (C : Int) + (D : Int) := w64 _ (by omega)
      have k3 : ((A : Int) == (B : Int) - (C : Int) + (D : Int)) = true := by rw [beq_iff_eq]; omega
      clear g1 g2 g3 g4 g5
      refine cM.mono ?_
      rintro e w13 ⟨rfl, u13⟩
      go_wp2_with fail
      refine (cN _ u13).mono ?_
      rintro e w14 ⟨rfl, u14⟩
      go_wp2_with fail
      refine (cO _ u14).mono ?_
      rintro e w15 ⟨rfl, u15⟩
      go_wp2_with fail
      refine (cS _ u15).mono ?_
      rintro e w16 ⟨rfl, u16⟩
      go_wp2_with fail
      refine (uWorks u16).mono ?_
      rintro e w17 ⟨rfl, u17⟩
      go_wp2_with fail
      go_ret
      exact ⟨rfl, Up.trans U10.out u17⟩
    · have hz1 : (y != 0) = true := by rw [bne_iff_ne]; exact hz
      clear hz
      go_wp2_with fail
      refine (uWorks (Up.refl _)).mono ?_
      rintro e w5 ⟨rfl, u5⟩
      go_wp2_with fail
      go_ret
      exact ⟨rfl, Up.trans U4.out u5⟩
  · have hz1 : (z != 0) = true := by rw [bne_iff_ne]; exact hz
    clear hz
    go_wp2_with fail
    refine (uWorks (Up.refl _)).mono ?_
    rintro e w5 ⟨rfl, u5⟩
    go_wp2_with fail
    go_ret
    exact ⟨rfl, Up.trans U4.out u5⟩
end Go.Proofs.Ytmjdeadkekhpdaa
