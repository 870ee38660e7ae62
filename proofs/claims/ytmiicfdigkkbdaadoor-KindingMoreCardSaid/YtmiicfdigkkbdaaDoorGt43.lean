/-
  Layer 11, the program's side: step, Step.
-/
import Derived.Test.YtmiicfdigkkbdaaDoorGt41
import Derived.Test.YtmiicfdigkkbdaaDoorGt42
import Derived.Deep.DeepHandedRow
import Derived.Deep.DeepWitnessRowRef
import Derived.LaidLaws
import Derived.Lib.LaidIn
import Derived.Lib.LaidU8T
import Derived.MakeChecks
import Derived.OpenShut
import Derived.ProofKit
import Derived.SizedLaws
namespace Go.Proofs.YtmiicfdigkkbdaaDoor
open Go.RowKit

set_option maxHeartbeats 12800000 in
set_option maxRecDepth 100000 in
theorem pStepIn (t : Tr) (h0 : ckE (some t) = 0) {w : World} {v : Value} (h : HasT w v (some t)) : Calls Tryd.prog 35 #[v] w (StP3 (stR (some t)) w) := by
  have hz1 : szT t ≤ 65536 := by
    obtain ⟨_, e, h2, _⟩ := ckE_ok h0
    injection e with e
    subst e
    exact h2
  have cF := pFirst (szT t) (by omega) t (Nat.le_refl _) (co_apkT (ck_co h0)) w v h
  rcases st_cases t with ⟨h1, _⟩ | ⟨_, hf, h1⟩ | ⟨_, p, u, b, a, hf, ha, huc, hur, hb, hcb, hca, hzb, hza, h5⟩
  · exact absurd h0 h1
  · have HR := Lib.hid h1
    rw [hf] at cF
    clear h hz1 h0 hf h1
    go_enter Tryd.func35, Tryd.ntmps35
    go_wp2_with fail
    refine cF.mono ?_
    rintro e w1 ⟨v', rfl, hn, -, u1⟩
    have hn := hn rfl
    subst hn
    have U1 := Lib.hid u1
    clear u1 cF
    go_wp2_with fail
    go_ret3
    exact stp3_none HR.out U1.out
  · have hus := at_sz p t u ha
    obtain ⟨y, l, z, zk, b1, bk, a1, ak, hu2, h2, h3, rfl, hy⟩ := beta_of huc hur
    have hbb : b = (b1, bk) ∧ a = (a1, ak) := by
      unfold betaO at hb
      rw [hu2] at hb
      injection hb with hb
      injection hb with hb1 hb2
      exact ⟨hb1.symm, hb2.symm⟩
    obtain ⟨rfl, rfl⟩ := hbb
    rw [hf] at cF
    have HA := Lib.hid ha
    have HT := Lib.hid (show HasT w v (some t) from h)
    have HP : Hid (∀ (W : World) (m : Tr) (pv mv : Value), Up w W → HasT W pv (some u) → HasT W mv (some m) → Ld W p v pv → Calls Tryd.prog 65 #[v, pv, mv] W (PuP (some (withT t p m)) W)) := Lib.hid fun W m pv mv hu h1 h2 h3 => by
      have c := pPut u m hur (szT t) (by omega) t (Nat.le_refl _) W v pv mv (HasT.up (o := some t) h hu) h1 h2 (fun q h => by rw [hf] at h; injection h with h; subst h; exact h3)
      have e : rpT m t = some (withT t p m) := by unfold rpT; rw [hf]
      rw [e] at c
      exact c
    have H5 := Lib.hid h5
    have hub : szT u ≤ 65536 := by omega
    obtain ⟨x, us⟩ := u
    have hu2 : us = .cons y (.cons z zk (.cons b1 bk .nil)) (.cons a1 ak .nil) := hu2
    subst hu2
    clear h h0 hf h5 hb ha hus h2 h3 hy huc hur
    go_enter Tryd.func35, Tryd.ntmps35
    go_wp2_with fail
    refine cF.mono ?_
    rintro e w2 ⟨v2, rfl, -, hl, u2⟩
    have hl := hl p rfl
    have U2 := Lib.hid u2
    have HL := Lib.hid hl
    have hv2 : HasT w2 v2 (some (x, .cons y (.cons z zk (.cons b1 bk .nil)) (.cons a1 ak .nil))) := Ld.has (HT.out.up u2) hl HA.out
    have HV2 := Lib.hid hv2
    obtain ⟨qr, pr, A, cc, rfl, hqr, c0, c1, c2, c3, c4, hc, hkid⟩ := InT.open (x := x) (ks := .cons y (.cons z zk (.cons b1 bk .nil)) (.cons a1 ak .nil)) hv2
    obtain ⟨kb, ko, vy, va, rfl, d0, d1, hy, hva, hkb⟩ := hkid.two
    obtain ⟨qy, py, Ay, cy, rfl, hqy, e0, e1, e2, e3, e4, hcy, hky⟩ := hy.open
    obtain ⟨kb2, ko2, vz, vb, rfl, f0, f1, hz2, hvb, hkb2⟩ := hky.two
    have CS0 : ∀ W, Up w2 W → Calls Tryd.prog 16 #[vb, .int .i64 0, va] W (ErH (sbR 0 (some (b1, bk)) (some (a1, ak))) W) := fun W u => pSubst (some (b1, bk)) (some (a1, ak)) W _ _ 0 (HasT.up (o := some (b1, bk)) hvb u) (by show szT (b1, bk) ≤ _; omega) (HasT.up (o := some (a1, ak)) hva u) (by show szT (a1, ak) ≤ _; omega)
    obtain ⟨qb, pb, rfl⟩ := hvb.ptr
    obtain ⟨qa, pa, rfl⟩ := hva.ptr
    clear u2 hv2 hl hkid hy hva hvb hky hz2 cF c0 c1 c2 c3 e0 e1 e2 e3 f0 hc hcy hqr hkb hqy hkb2 hza hzb hub
    have hl1 : (Fr.cons y (.cons z zk (.cons b1 bk .nil)) (.cons a1 ak .nil)).len = 2 := rfl
    have hl2 : (Fr.cons z zk (.cons b1 bk .nil)).len = 2 := rfl
    rw [hl1] at c4
    rw [hl2] at e4
    rcases H5.out with ⟨m, hs, hR⟩ | ⟨e9, he9, hs, hR⟩
    · rw [hs] at CS0
      have CS := Lib.hid CS0
      have HR := Lib.hid hR
      clear CS0 hs hR H5
      go_wp2_with fail
      go_region_held3 (fun w' => w'.cell? ⟨qr, pr + 4, none⟩ = some (.slice (some ⟨kb, ko, none⟩) 2 cc) ∧ w'.cell? ⟨kb, ko, none⟩ = some (.pointer (some ⟨qy, py, none⟩)) ∧ w'.cell? ⟨kb, ko + 1, none⟩ = some (.pointer (some ⟨qa, pa, none⟩)) ∧ w'.cell? ⟨qy, py + 4, none⟩ = some (.slice (some ⟨kb2, ko2, none⟩) 2 cy) ∧ w'.cell? ⟨kb2, ko2 + 1, none⟩ = some (.pointer (some ⟨qb, pb, none⟩))) (first | go_keep | (refine ⟨?_, ?_, ?_, ?_, ?_⟩ <;> assumption)) (first
        | (go_at_call 16; refine Calls.mono (CS.out _ (by first | exact Up.refl _ | exact (Up.refl _).drewN 1)) ?_; rintro e3 w3 ⟨v3, he3, h3, u3⟩; dsimp only at he3; subst he3; have n1 := u3.cell c4; have n2 := u3.cell d0; have n3 := u3.cell d1; have n4 := u3.cell e4; have n5 := u3.cell f1))
      have U23 : Up w2 w3 := ((Up.refl w2).drewN 1).trans u3
      have U3 := Lib.hid (U2.out.trans U23)
      have H3 : Hid (HasT w3 v3 (some m)) := Lib.hid h3
      have cW := HP.out w3 m _ _ U3.out (HV2.out.up U23) h3 (HL.out.up U23)
      clear n1 n2 n3 n4 n5 u3 h3 c4 d0 d1 e4 f1 U23
      go_wp2_with fail
      refine cW.mono ?_
      rintro e w4 ⟨v4, rfl, h4, u4⟩
      have U4 := Lib.hid (U3.out.trans u4)
      have H4 : Hid (HasT w4 v4 (some (withT t p m))) := Lib.hid h4
      clear h4 u4 cW
      go_wp2_with fail
      go_ret3
      exact ⟨v4, by rw [HR.out]; rfl, by rw [HR.out]; exact H4.out, U4.out⟩
    · rw [hs] at CS0
      have CS := Lib.hid CS0
      have HR := Lib.hid hR
      have h9 : (e9 != 0) = true := by rw [bne_iff_ne]; exact he9
      clear CS0 hs hR H5
      go_wp2_with fail
      go_region_held3 (fun w' => w'.cell? ⟨qr, pr + 4, none⟩ = some (.slice (some ⟨kb, ko, none⟩) 2 cc) ∧ w'.cell? ⟨kb, ko, none⟩ = some (.pointer (some ⟨qy, py, none⟩)) ∧ w'.cell? ⟨kb, ko + 1, none⟩ = some (.pointer (some ⟨qa, pa, none⟩)) ∧ w'.cell? ⟨qy, py + 4, none⟩ = some (.slice (some ⟨kb2, ko2, none⟩) 2 cy) ∧ w'.cell? ⟨kb2, ko2 + 1, none⟩ = some (.pointer (some ⟨qb, pb, none⟩))) (first | go_keep | (refine ⟨?_, ?_, ?_, ?_, ?_⟩ <;> assumption)) (first
        | (go_at_call 16; refine Calls.mono (CS.out _ (by first | exact Up.refl _ | exact (Up.refl _).drewN 1)) ?_; rintro e3 w3 ⟨v3, he3, h3, u3⟩; dsimp only at he3; subst he3; have n1 := u3.cell c4; have n2 := u3.cell d0; have n3 := u3.cell d1; have n4 := u3.cell e4; have n5 := u3.cell f1))
      have U3 := Lib.hid (U2.out.trans (((Up.refl w2).drewN 1).trans u3))
      clear n1 n2 n3 n4 n5 u3 h3 c4 d0 d1 e4 f1
      go_wp2_with fail
      go_ret3
      exact stp3_none HR.out U3.out
end Go.Proofs.YtmiicfdigkkbdaaDoor
namespace Go.Proofs.YtmiicfdigkkbdaaDoor
open Go.RowKit

def SzBig : Prop := ∀ (w : World) (v : Value) (m : Tr), HasT w v (some m) → 65536 < szT m → szT m ≤ 131072 → Calls Tryd.prog 32 #[v] w (NuP (szT m) w)
def nmB : Nat → Tr → Bool
  | 0, _ => true
  | k + 1, t => match stR (some t) with
    | (some m, true, _) => decide (szT m ≤ 65536) && nmB k m
    | _ => true
theorem nmB_step {k : Nat} {t m : Tr} (h : stR (some t) = (some m, true, 0)) (hb : nmB (k + 1) t = true) : szT m ≤ 65536 ∧ nmB k m = true := by
  rw [nmB, h] at hb
  simp only [Bool.and_eq_true, decide_eq_true_eq] at hb
  exact hb
set_option maxHeartbeats 12800000 in
set_option maxRecDepth 100000 in
theorem pNormal (o : Option Tr) {w : World} {v : Value} (h : HasT w v o) (hz : szO o ≤ 65536) (hb : SzBig ∨ ∀ t, o = some t → nmB 1000 t = true) : Calls Tryd.prog 17 #[v] w (TeP (nmR o) w) := by
  have cC := pCheck o w v h hz
  by_cases h0 : ckE o = 0
  · obtain ⟨t, rfl, -⟩ := ckE_ok h0
    obtain ⟨R, hR⟩ : ∃ R, nmR (some t) = R := ⟨_, rfl⟩
    rw [hR]
    have hR : nmI 1000 t = R := hR
    have hb : SzBig ∨ nmB 1000 t = true := hb.imp id fun h => h t rfl
    have HR := Lib.hid hR
    have HT := Lib.hid h
    have HB := Lib.hid hb
    have H0 := Lib.hid h0
    rw [h0] at cC
    clear h hz h0 hR hb
    go_enter Tryd.func17, Tryd.ntmps17
    go_wp2_with fail
    refine cC.mono ?_
    rintro e w1 ⟨rfl, u1⟩
    have U1 := Lib.hid u1
    have HT1 := Lib.hid (HT.out.up u1)
    clear u1 cC HT
    go_wp2_with fail
    go_loopw [0, 5, 6, 7, 15] (fun nv _ _ _ j wr => ∃ (k : Nat) (t' : Tr), j = .int .i64 k ∧ k ≤ 1000 ∧ HasT wr nv (some t') ∧ ckE (some t') = 0 ∧ nmI (1000 - k) t' = R ∧ (SzBig ∨ nmB (1000 - k) t' = true) ∧ Up w wr) (fun _ _ _ _ j _ => 1001 - (intOf j).toNat)
    case atStart => exact ⟨0, t, rfl, by omega, HT1.out, H0.out, HR.out, HB.out, U1.out⟩
    case round =>
      obtain ⟨k, t', rfl, hk, ht, hc, hr, hbb, hup⟩ := hrel
      have hz1 : szT t' ≤ 65536 := by
        obtain ⟨_, e, h2, _⟩ := ckE_ok hc
        injection e with e
        subst e
        exact h2
      have HUP := Lib.hid hup
      have HT2 := Lib.hid ht
      have HC2 := Lib.hid hc
      by_cases hlt : k < 1000
      · have hkz : (k : Int) < 1000 := by omega
        obtain ⟨K, hK⟩ : ∃ K, 1000 - k = K + 1 := ⟨1000 - k - 1, by omega⟩
        have hK1 : 1000 - (k + 1) = K := by omega
        rw [hK] at hr hbb
        have cS := pStepIn t' hc ht
        have HR2 := Lib.hid hr
        have HBB := Lib.hid hbb
        have HK1 := Lib.hid hK1
        clear ht hc hr hbb hup hz1 hK hK1
        rcases st_three t' with ⟨e, he, h1⟩ | h1 | ⟨m, h1⟩
        · rw [h1] at cS
          have HE := Lib.hid (HR2.out.symm.trans (nm_err he h1))
          have h9 : (e != 0) = true := by rw [bne_iff_ne]; exact he
          clear h1
          go_wp2_with fail
          refine cS.mono ?_
          rintro e w2 ⟨v2, rfl, -, u2⟩
          have U2 := Lib.hid (HUP.out.trans u2)
          clear u2 cS
          go_wp2_with fail
          go_ret2
          exact tep_none HE.out U2.out
        · rw [h1] at cS
          have HE := Lib.hid (HR2.out.symm.trans (nm_done h1))
          clear h1
          go_wp2_with fail
          refine cS.mono ?_
          rintro e w2 ⟨v2, rfl, -, u2⟩
          have U2 := Lib.hid (HUP.out.trans u2)
          have T2 := Lib.hid (HT2.out.up u2)
          clear u2 cS
          go_wp2_with fail
          go_ret2
          exact ⟨_, by rw [HE.out]; rfl, by rw [HE.out]; exact T2.out, U2.out⟩
        · rw [h1] at cS
          have HN := Lib.hid (HR2.out.symm.trans (nm_step h1))
          have hm2 := (st_sz h1).2
          rcases st_ckm h1 with ⟨hz, hck⟩ | ⟨hz, hck⟩
          · have HZ := Lib.hid hz
            have HCK := Lib.hid hck
            have HB3 : Hid (SzBig ∨ nmB K m = true) := Lib.hid (HBB.out.imp id fun h => (nmB_step h1 h).2)
            have hzn : ¬ (65536 : Int) < (szT m : Int) := by omega
            obtain ⟨Z, hZ⟩ : ∃ Z, szT m = Z := ⟨_, rfl⟩
            have HZZ := Lib.hid hZ
            rw [hZ] at hzn
            clear h1 hz hck hm2 hZ
            go_wp2_with fail
            refine cS.mono ?_
            rintro e w2 ⟨v2, rfl, h2, u2⟩
            have h2 : HasT w2 v2 (some m) := h2
            have U2 := Lib.hid (HUP.out.trans u2)
            have cZ := uSize (some m) h2 HZ.out (Up.refl w2)
            rw [show szO (some m) = Z from HZZ.out] at cZ
            have T2 := Lib.hid h2
            clear u2 h2 cS
            go_wp2_with fail
            refine cZ.mono ?_
            rintro e w3 ⟨rfl, u3⟩
            have U3 := Lib.hid (U2.out.trans u3)
            have T3 := Lib.hid (T2.out.up u3)
            clear u3 cZ
            go_wp2_with fail
            go_roundw
            case rel => exact ⟨k + 1, m, by go_num, by omega, T3.out, HCK.out, by rw [HK1.out]; exact HN.out.symm, by rw [HK1.out]; exact HB3.out, U3.out⟩
            case measure => simp [intOf]; omega
          · have HE := Lib.hid (HN.out.trans (nm_ck (by decide) hck))
            have hbig : SzBig := by
              rcases HBB.out with h | h
              · exact h
              · exact absurd (nmB_step h1 h).1 (by omega)
            have HBIG := Lib.hid (fun (W : World) (v' : Value) (h : HasT W v' (some m)) => hbig W v' m h hz hm2)
            have hzn : (65536 : Int) < (szT m : Int) := by omega
            obtain ⟨Z, hZ⟩ : ∃ Z, szT m = Z := ⟨_, rfl⟩
            rw [hZ] at hzn HBIG
            clear h1 hz hck hm2 hZ hbig
            go_wp2_with fail
            refine cS.mono ?_
            rintro e w2 ⟨v2, rfl, h2, u2⟩
            have U2 := Lib.hid (HUP.out.trans u2)
            have cZ := HBIG.out w2 v2 h2
            clear u2 h2 cS
            go_wp2_with fail
            refine cZ.mono ?_
            rintro e w3 ⟨rfl, u3⟩
            have U3 := Lib.hid (U2.out.trans u3)
            clear u3 cZ
            go_wp2_with fail
            go_ret2
            exact tep_none HE.out U3.out
      · have hk1 : k = 1000 := by omega
        have h10 : 1000 - k = 0 := by omega
        rw [h10] at hr
        have hkz : ¬ (k : Int) < 1000 := by omega
        have cF := pFirst (szT t') (by omega) t' (Nat.le_refl _) (co_apkT (ck_co hc)) wr _ ht
        have HR2 := Lib.hid hr
        cases hf : fiT t' with
        | none =>
          have HE : Hid (R = (some t', 0)) := Lib.hid (HR2.out.symm.trans (nm_done (stR_no hc hf)))
          rw [hf] at cF
          clear ht hc hr hbb hup hz1 hf hlt hk1 h10 hk
          go_wp2_with fail
          refine cF.mono ?_
          rintro e w2 ⟨v2, rfl, -, -, u2⟩
          have U2 := Lib.hid (HUP.out.trans u2)
          have T2 := Lib.hid (HT2.out.up u2)
          clear u2 cF
          go_wp2_with fail
          go_ret2
          exact ⟨_, by rw [HE.out]; rfl, by rw [HE.out]; exact T2.out, U2.out⟩
        | some p =>
          have HE : Hid (R = (none, 18)) := Lib.hid (HR2.out.symm.trans (nm_red hc hf))
          rw [hf] at cF
          clear ht hc hr hbb hup hz1 hf hlt hk1 h10 hk
          go_wp2_with fail
          refine cF.mono ?_
          rintro e w2 ⟨v2, rfl, -, -, u2⟩
          have U2 := Lib.hid (HUP.out.trans u2)
          clear u2 cF
          go_wp2_with fail
          go_ret2
          exact tep_none HE.out U2.out
  · have hR : nmR o = (none, ckE o) := by
      cases o with
      | none => rfl
      | some t => exact nm_ck (k := 1000) h0 rfl
    obtain ⟨E, hE⟩ : ∃ E, ckE o = E := ⟨_, rfl⟩
    rw [hE] at cC h0 hR
    have HR := Lib.hid hR
    have h1 : (E != 0) = true := by rw [bne_iff_ne]; exact h0
    clear h hz hE hR hb
    go_enter Tryd.func17, Tryd.ntmps17
    go_wp2_with fail
    refine cC.mono ?_
    rintro e w1 ⟨rfl, u1⟩
    have U1 := Lib.hid u1
    clear u1 cC
    go_wp2_with fail
    go_ret2
    exact tep_none HR.out U1.out
end Go.Proofs.YtmiicfdigkkbdaaDoor
namespace Go.Proofs.YtmiicfdigkkbdaaDoor
open Go.RowKit

set_option maxHeartbeats 1600000 in
set_option maxRecDepth 100000 in
theorem measuredG (t : Tr) (w : World) (v : Value) (hin : HasT w v (some t)) (hsz : szT t ≤ 1000000) : Calls Tryd.prog 60 #[v] w (MePost (szT t) (dpT t) false w) := by
  have hmm := @run_makeMap Tryd.prog
  have three := three_blocks w (.cells #[.int .i64 0, .int .i64 0, .bool false] 102) (.map #[] 0) (.cells #[.int .i64 0, .map (some (w.heap.size + 1))] 131) rfl
  obtain ⟨H, hH⟩ : ∃ H, w.heap.size = H := ⟨_, rfl⟩
  rw [hH] at three
  have HT := Lib.hid three
  have HH := Lib.hid hH
  clear three
  obtain ⟨S, hS⟩ : ∃ S, szT t = S := ⟨_, rfl⟩
  obtain ⟨D, hD⟩ : ∃ D, dpT t = D := ⟨_, rfl⟩
  have HS := Lib.hid hS
  have HD := Lib.hid hD
  have HIN := Lib.hid hin
  have HZ := Lib.hid hsz
  rw [hS, hD]
  clear hH hin hS hD hsz
  go_enter Tryd.func60, Tryd.ntmps60
  go_wp2_with fail
  rw [HH.out]
  obtain ⟨W, hW⟩ : ∃ W, W = ((w.alloc (.cells #[.int .i64 0, .int .i64 0, .bool false] 102)).alloc (.map #[] 0)).alloc (.cells #[.int .i64 0, .map (some (H + 1))] 131) := ⟨_, rfl⟩
  have ht := HT.out
  rw [← hW] at ht ⊢
  obtain ⟨t1, t2, t3, hb1, hs1⟩ := ht
  have hbq : Bel (fun q => q < w.heap.size) W.heap.size := fun q h => by rw [hs1]; rw [HH.out] at h; omega
  have uW : Up w W := by unfold Up; rw [HH.out]; exact hb1
  have key : Calls Tryd.prog 83 #[.pointer (some ⟨H + 1 + 1, 0, none⟩), v] W (fun e w' => e = .returned (.agg #[.int .i64 (S : Int), .int .i64 (D : Int), .bool false]) ∧ Gs (Two (H + 2) (H + 1)) W w') := by
    rw [← HS.out, ← HD.out]
    refine (ofG (szT t) HZ.out t (Nat.le_refl _) W (fun q => q < w.heap.size) v (H + 2) (H + 1) 0 #[] 0 (fun _ => False) hbq (by rw [HH.out]; omega) (by rw [HH.out]; omega) (InT.keep (t := t) HIN.out (fun _ h => h) fun b hb => uW.block b hb) ⟨t3, t2⟩ (by omega) (by have := HZ.out; omega) (Ents.nil _ _ _) (fun u t' h => h.elim)).mono ?_
    rintro e w' ⟨rfl, _, _, _, _, _, _, _, hg⟩
    exact ⟨rfl, hg⟩
  have HT1 := Lib.hid t1
  have HUW := Lib.hid uW
  clear t1 t2 t3 hW hb1 hs1 HT uW hbq
  refine key.mono ?_
  rintro e w1 ⟨rfl, hg1⟩
  have hr1 := hg1.row HT1.out (fun e => by rcases e with e | e <;> omega)
  have dr0 := cell3_0 hr1
  have dr1 := cell3_1 hr1
  have dr2 := cell3_2 hr1
  have gx := fun i => frozen_of_row w1 H i _ _ hr1
  have gx0 := gx 0
  have gx1 := gx 1
  have gx2 := gx 2
  have HG1 := Lib.hid hg1
  clear key hr1 gx hg1
  go_wp2_with fail
  have hbF : Below w.heap.size w (((w1.setCell ⟨H, 0, none⟩ (.int .i64 (S : Int))).setCell ⟨H, 1, none⟩ (.int .i64 (D : Int))).setCell ⟨H, 2, none⟩ (.bool false)) := by
    have h1 : Up w w1 := HG1.out.up HUW.out (fun k hk => by rw [HH.out]; rcases hk with hk | hk <;> omega)
    unfold Up at h1
    rw [HH.out] at h1 ⊢
    exact ((h1.setCell (Nat.le_refl _) _).setCell (Nat.le_refl _) _).setCell (Nat.le_refl _) _
  exact bodyPost_ret (v := .agg #[.int .i64 (S : Int), .int .i64 (D : Int), .bool false]) (by simp [results, Tryd.results60, go_sem, dr0, dr1, dr2]) rfl ⟨rfl, hbF⟩
theorem sizeG (t : Tr) (w : World) (v : Value) (hin : HasT w v (some t)) (hsz : szT t ≤ 1000000) : Calls Tryd.prog 32 #[v] w (NuP (szT t) w) := by
  have cM := measuredG t w v hin hsz
  obtain ⟨S, hS⟩ : ∃ S, szT t = S := ⟨_, rfl⟩
  obtain ⟨D, hD⟩ : ∃ D, dpT t = D := ⟨_, rfl⟩
  rw [hS, hD] at cM
  rw [hS]
  clear hin hS hD hsz
  go_enter Tryd.func32, Tryd.ntmps32
  go_wp2_with fail
  refine cM.mono ?_
  rintro e w1 ⟨rfl, hb⟩
  have hf := field0 (.int .i64 (S : Int)) (.int .i64 (D : Int)) (.bool false) w1
  go_wp2_with fail
  go_ret
  exact ⟨rfl, hb⟩
theorem sz_big : SzBig := fun w v m h _ h2 => sizeG m w v h (by omega)
end Go.Proofs.YtmiicfdigkkbdaaDoor
namespace Go.Proofs.YtmiicfdigkkbdaaDoor
open Go.RowKit

theorem nm12 : NmN := ⟨fun _ o _ h hz => pNormal o h hz (.inl sz_big)⟩
end Go.Proofs.YtmiicfdigkkbdaaDoor
namespace Go.Proofs.YtmiicfdigkkbdaaDoor
open Go.ChangeShapes Go.WideShapes Go.ChangeAt Go.RowKit Go.Lib

theorem ownKnobNone : ownKnob Tryd.prog.godebug = none := by kernel_rfl
def laidL : List (String × DataW Unit) := [("math/bits.deBruijn32tab", Rows.laid_math_bits_deBruijn32tab), ("math/bits.deBruijn64tab", Rows.laid_math_bits_deBruijn64tab), ("internal/strconv.uint64pow10", Rows.laid_internal_strconv_uint64pow10)]
theorem pow_is : (Rows.laid_internal_strconv_uint64pow10 : DataW Unit) = Lib.tabData .u64 Lib.pow10Tab := by kernel_rfl
theorem reads_cells {w : World} {n : String} {d : DataW Unit} (h : VarReads Tryd.prog w n d) {g : Nat} {t : TypeId} (hg : Tryd.prog.globalNamed n = some g) (ht : (Tryd.prog.globals[g]?).map (·.type) = some t) :
    ∃ cs fuel p, w.var? Tryd.prog n = some cs ∧ (∃ e z, w.heap[g]? = some (.cells cs e z)) ∧ DataW.trod (fun _ => ()) Tryd.prog w 0 (fun _ => true) false fuel t cs.toList = some (d, p) := by
  obtain ⟨g', t', cs, fuel, p, h1, h2, h3, h4⟩ := h
  obtain rfl := Option.some.inj (hg.symm.trans h1)
  obtain rfl := Option.some.inj (ht.symm.trans h2)
  refine ⟨cs, fuel, p, h3, ?_, h4⟩
  unfold World.var? at h3
  rw [hg] at h3
  simp only [Option.bind_some] at h3
  split at h3
  · rename_i cs' e z he
    injection h3 with h3
    subst h3
    exact ⟨e, z, he⟩
  · cases h3
theorem pw_of {W : World} {l : List (String × DataW Unit)} (h : laidMetH Tryd.prog l W) (hl : l = laidL) : Pw W := by
  subst hl
  have h : laidMet Tryd.prog laidL W := h
  have h3 := Lib.laidMet.reads h (show ("internal/strconv.uint64pow10", Rows.laid_internal_strconv_uint64pow10) ∈ laidL by simp [laidL])
  rw [pow_is] at h3
  obtain ⟨cs, fuel, p, k1, _, k3⟩ := reads_cells h3 (g := 1) (t := 154) (by kernel_rfl) (by kernel_rfl)
  unfold Pw TabIs
  rw [k1, ← Lib.cells_of_tab (t := 154) (n := 20) (e := 147) (by kernel_rfl) (by kernel_rfl) (by kernel_rfl) (by kernel_rfl) k3]
def litV : DataW Unit → Value
  | .lit (.int k z) => .int k z
  | .lit (.string l) => .string ⟨l.toArray⟩
  | _ => undef
def rowV : DataW Unit → Array Value
  | .agg ds => (ds.map litV).toArray
  | _ => #[]
noncomputable def laidWorld (os : Os) : World :=
  let w0 := World.holding Tryd.prog os ⟨#[], #[], []⟩
  let put (h : Array Obj) (g : Nat) (cs : Array Value) : Array Obj := h.modify g fun
    | .cells _ t frozen => .cells cs t frozen
    | o => o
  let h3 := put w0.heap 1 (rowV Rows.laid_internal_strconv_uint64pow10)
  let h4 := put h3 2 (rowV Rows.laid_math_bits_deBruijn32tab)
  let h5 := put h4 3 (rowV Rows.laid_math_bits_deBruijn64tab)
  { w0 with heap := h5 }
end Go.Proofs.YtmiicfdigkkbdaaDoor
namespace Go.Proofs.YtmiicfdigkkbdaaDoor
open Go.ChangeShapes Go.WideShapes Go.Deep Go.RowKit

set_option maxRecDepth 100000 in
theorem one_tree {H : Type} {enc : TypeId × Value → H} {W : World} {fuel : Nat} {cs : List Value} {x : DataW H × List MemPlace}
    (h : DataW.trod enc Tryd.prog W 0 (fun _ => true) true fuel 24 cs = some x) : ∃ (cv : Value) (l : List Cel), cs = [cv] ∧ Cls W W.heap.size cv l ∧ ∀ c ∈ l, fitC c := by
  obtain ⟨ys, n, _, _, hlen, hyl, hff⟩ := DataW.trod_struct Tryd.underlying24 h
  have hC1 : Tryd.prog.cellsOf 24 = 1 := by kernel_rfl
  rw [hC1] at hlen
  have hl1 : cs.length = 1 := hlen
  have hy1 : ys.length = 1 := hyl
  match cs, hl1 with
  | [cv], _ =>
  match ys, hy1 with
  | [y0], _ =>
  have g0 : DataW.trod enc Tryd.prog W 0 (fun _ => true) true n 22 [cv] = some y0 := hff 0 _ rfl
  refine ⟨cv, ?_⟩
  rcases open_slice Tryd.underlying22 g0 with ⟨h0, _⟩ | ⟨a, len, cap, m, n, D, Pl, hc, _, hlc, hcm, hm, _, hi⟩
  · injection h0 with h0
    rw [h0]
    exact ⟨[], rfl, ⟨none, 0, rfl, Nat.le_refl _, fun j t ht => by simp at ht⟩, fun t ht => by cases ht⟩
  · injection hc with hc
    rw [hc]
    have hC : Tryd.prog.cellsOf 47 = 5 := by kernel_rfl
    have hm2 : m = cap := by simpa using hm
    have key : ∀ i, i < len → ∃ (c : Cel) (kv : Value), w5 W (a.add (i * 5)) c kv ∧ Sp W W.heap.size kv c.ks ∧ fitC c := by
      intro i hil
      obtain ⟨cs', hce, htr⟩ := hi i (by omega)
      obtain ⟨c, kv, rfl, hsp, hfit⟩ := one_cel htr
      rw [hC] at hce
      obtain ⟨_, _, hat⟩ := World.cells?_some hce
      exact ⟨c, kv, ⟨hat 0 (by omega), hat 1 (by omega), hat 2 (by omega), hat 3 (by omega), hat 4 (by omega)⟩, hsp, hfit⟩
    have key2 : ∀ i, i < len → ∃ c : Cel, (∃ b o, a = ⟨b, o, none⟩ ∧ b < W.heap.size ∧ CelAt W W.heap.size b (o + i * 5) c) ∧ fitC c := by
      intro i hil
      obtain ⟨_, _, hw0, _, _⟩ := key 0 (by omega)
      have h00 := hw0.1
      rw [Nat.zero_mul] at h00
      obtain ⟨b, o, rfl, hb⟩ := plain_of (a := a) (by rw [add_zero'] at h00; exact h00)
      obtain ⟨c, kv, ⟨q0, q1, q2, q3, q4⟩, hsp, hfit⟩ := key i hil
      simp only [addAt] at q0 q1 q2 q3 q4
      exact ⟨c, ⟨b, o, rfl, hb, q0, q1, q2, q3, kv, q4, hsp⟩, hfit⟩
    let f : Nat → Cel := fun i => if h : i < len then Classical.choose (key2 i h) else ⟨⟨0, 0, ⟨#[]⟩, ⟨#[]⟩⟩, []⟩
    have hfx : ∀ i, i < len → (∃ b o, a = ⟨b, o, none⟩ ∧ b < W.heap.size ∧ CelAt W W.heap.size b (o + i * 5) (f i)) ∧ fitC (f i) := by
      intro i h
      have := Classical.choose_spec (key2 i h)
      show (∃ b o, _ ∧ _ ∧ CelAt W _ _ _ (dite _ _ _)) ∧ fitC (dite _ _ _)
      rw [dif_pos h]
      exact this
    refine ⟨(List.range len).map f, rfl, ⟨some a, cap, by rw [List.length_map, List.length_range], by rw [List.length_map, List.length_range]; exact hlc, fun j t ht => ?_⟩, fun t ht => ?_⟩
    · rw [List.getElem?_map] at ht
      obtain ⟨i, hi', rfl⟩ := Option.map_eq_some_iff.1 ht
      obtain ⟨h1, h2⟩ := List.getElem?_eq_some_iff.1 hi'
      rw [List.length_range] at h1
      rw [List.getElem_range] at h2
      subst h2
      obtain ⟨⟨b, o, rfl, e2, e3⟩, _⟩ := hfx j h1
      exact ⟨b, o, rfl, e2, e3⟩
    · obtain ⟨i, hi', rfl⟩ := List.mem_map.1 ht
      exact (hfx i (List.mem_range.1 hi')).2
set_option maxRecDepth 100000 in
theorem open_trees {H : Type} {enc : TypeId × Value → H} {W : World} {base : Nat} {v : Value} {d : DataW H} {p : List MemPlace}
    (hv : Value.okWide Tryd.prog W .any base 32 v) (h : DataW.Trod enc Tryd.prog W 0 (fun _ => true) true 32 v d p) :
    ∃ L : List (List Cel), Cln W W.heap.size v L ∧ ∀ l ∈ L, ∀ c ∈ l, fitC c := by
  obtain ⟨a0, len0, cap0, rfl⟩ := okWide_slice Tryd.underlying32 hv
  obtain ⟨fuel, hf⟩ := h
  have hcs : (Value.slice a0 len0 cap0).cells.toList = [.slice a0 len0 cap0] := rfl
  rw [hcs] at hf
  rcases open_slice Tryd.underlying32 hf with ⟨h0, _⟩ | ⟨a, len, cap, m, n, D, Pl, hc, _, hlc, hcm, hm, _, hi⟩
  · injection h0 with h0
    rw [h0]
    exact ⟨[], ⟨none, 0, rfl, Nat.le_refl _, fun j t ht => by simp at ht⟩, fun t ht => by cases ht⟩
  · injection hc with hc
    rw [hc]
    have hm2 : m = cap := by simpa using hm
    have hC : Tryd.prog.cellsOf 24 = 1 := by kernel_rfl
    have key : ∀ i, i < len → ∃ (l : List Cel) (b o : Nat) (u : Value), a = ⟨b, o, none⟩ ∧ b < W.heap.size ∧ W.cell? ⟨b, o + i, none⟩ = some u ∧ Cls W W.heap.size u l ∧ ∀ c ∈ l, fitC c := by
      intro i hil
      have cell0 : ∀ j, j < len → ∃ u l, W.cell? ((a.add (j * 1)).add 0) = some u ∧ Cls W W.heap.size u l ∧ ∀ c ∈ l, fitC c := by
        intro j hj
        obtain ⟨cs', hce, htr⟩ := hi j (by omega)
        obtain ⟨cv, l, rfl, h1, h2⟩ := one_tree htr
        rw [hC] at hce
        obtain ⟨_, _, hat⟩ := World.cells?_some hce
        exact ⟨cv, l, hat 0 (by omega), h1, h2⟩
      obtain ⟨u0, _, g0, _, _⟩ := cell0 0 (by omega)
      rw [Nat.zero_mul] at g0
      obtain ⟨b, o, rfl, hb⟩ := plain_of (a := a) (by rw [add_zero'] at g0; exact g0)
      obtain ⟨u, l, g1, g2, g3⟩ := cell0 i hil
      simp only [addAt, Nat.mul_one, Nat.add_zero] at g1
      exact ⟨l, b, o, u, rfl, hb, g1, g2, g3⟩
    let f : Nat → List Cel := fun i => if h : i < len then Classical.choose (key i h) else []
    have hfx : ∀ i, i < len → ∃ (b o : Nat) (u : Value), a = ⟨b, o, none⟩ ∧ b < W.heap.size ∧ W.cell? ⟨b, o + i, none⟩ = some u ∧ Cls W W.heap.size u (f i) ∧ ∀ c ∈ f i, fitC c := by
      intro i h
      have := Classical.choose_spec (key i h)
      show ∃ (b o : Nat) (u : Value), _ ∧ _ ∧ _ ∧ Cls W _ _ (dite _ _ _) ∧ ∀ c ∈ (dite _ _ _), fitC c
      rw [dif_pos h]
      exact this
    refine ⟨(List.range len).map f, ⟨some a, cap, by rw [List.length_map, List.length_range], by rw [List.length_map, List.length_range]; exact hlc, fun j t ht => ?_⟩, fun t ht => ?_⟩
    · rw [List.getElem?_map] at ht
      obtain ⟨i, hi', rfl⟩ := Option.map_eq_some_iff.1 ht
      obtain ⟨h1, h2⟩ := List.getElem?_eq_some_iff.1 hi'
      rw [List.length_range] at h1
      rw [List.getElem_range] at h2
      subst h2
      obtain ⟨b, o, u, rfl, e2, e3, e4, _⟩ := hfx j h1
      exact ⟨b, o, u, rfl, e2, e3, e4⟩
    · obtain ⟨i, hi', rfl⟩ := List.mem_map.1 ht
      obtain ⟨b, o, u, _, _, _, _, e5⟩ := hfx i (List.mem_range.1 hi')
      exact e5
end Go.Proofs.YtmiicfdigkkbdaaDoor
