/-
  Layer 11, the program's side: put.
-/
import Derived.Test.YtofgniceilbpaaaDoorGt33
namespace Go.Proofs.YtofgniceilbpaaaDoor
open Go.RowKit

def PuP (R : Option Tr) (W : World) (e : Ending) (w' : World) : Prop := ∃ v, e = .returned (.tuple #[v, .bool R.isSome]) ∧ HasT w' v R ∧ Up W w'
theorem pup_none {R : Option Tr} {W w' : World} (h : R = none) (u : Up W w') : PuP R W (.returned (.tuple #[.pointer none, .bool false])) w' := ⟨_, by rw [h]; rfl, by rw [h]; rfl, u⟩
def rpT (m t : Tr) : Option Tr := match fiT t with
  | none => none
  | some p => some (withT t p m)
def PuAt (s m : Tr) (n : Nat) : Prop := ∀ (t : Tr), szT t ≤ n → ∀ (w : World) (v pv mv : Value), HasT w v (some t) → HasT w pv (some s) → HasT w mv (some m) → (∀ p, fiT t = some p → Ld w p v pv) →
  Calls Tryd.prog 36 #[v, pv, mv] w (PuP (rpT m t) w)
set_option maxHeartbeats 12800000 in
set_option maxRecDepth 100000 in
theorem pPut (s m : Tr) (hs : rdxB s.1 s.2 = true) : ∀ (n : Nat), n ≤ 1000000 → PuAt s m n
  | 0, _, t, h, _, _, _, _, _, _, _, _ => absurd h (by unfold szT; omega)
  | n + 1, hbig, (x, ks), hn, w, v, pv, mv, hin, hpv, hmv, hld => by
    have ih := pPut s m hs n (by omega)
    have HIN := Lib.hid hin
    have HPV := Lib.hid hpv
    have HMV := Lib.hid hmv
    have hpl := InT.open (x := x) (ks := ks) hin
    obtain ⟨qp, op, rfl⟩ := InT.ptr (t := s) hpv
    obtain ⟨qm, om, rfl⟩ := InT.ptr (t := m) hmv
    obtain ⟨q, p, A, cc, rfl, hqw, c0, c1, c2, c3, c4, hc, hkid⟩ := hpl
    have hsz : szT (x, ks) = 1 + ks.sz := rfl
    have hll := Fr.len_le ks
    by_cases hr : rdxB x ks = true
    · have hf : fiT (x, ks) = some [] := by unfold fiT; rw [if_pos hr]
      have hl : Value.pointer (some ⟨q, p, none⟩) = .pointer (some ⟨qp, op, none⟩) := hld _ hf
      injection hl with hl
      injection hl with hl
      injection hl with e1 e2
      subst e1 e2
      have HR : Hid (rpT m (x, ks) = some m) := Lib.hid (by unfold rpT; rw [hf]; rfl)
      have hps := ptr_same w ⟨q, p, none⟩
      clear hld ih hin hpv hmv hn c0 c1 c2 c3 c4 hc hkid
      go_enter Tryd.func36, Tryd.ntmps36
      go_wp2_with fail
      go_ret2
      exact ⟨_, by rw [HR.out]; rfl, by rw [HR.out]; exact HMV.out, Up.refl _⟩
    · have hf : fiT (x, ks) = fiF 0 ks := by unfold fiT; rw [if_neg hr]
      have hne : (⟨q, p, none⟩ : Addr) ≠ ⟨qp, op, none⟩ := fun e => by
        have e' : Value.pointer (some ⟨q, p, none⟩) = .pointer (some ⟨qp, op, none⟩) := by rw [e]
        have h1 : HasT w (.pointer (some ⟨q, p, none⟩)) (some s) := by rw [e']; exact hpv
        have h2 := InT.uniq (t := (x, ks)) (u := s) hin h1
        rw [← h2] at hs
        exact hr hs
      have hpo := ptr_other hne (InT.pln (t := (x, ks)) hin) (InT.pln (t := s) hpv)
      obtain ⟨us, hus, hA⟩ := hkid.vals2
      obtain ⟨N, hN⟩ : ∃ N, ks.len = N := ⟨_, rfl⟩
      have hul : us.length = N := by rw [hus.len, hN]
      rw [hN] at c4 hll hA
      have hN1 : N ≤ 1000000 := by omega
      have HUS := Lib.hid hus
      have HA := Lib.hid hA
      have HUL := Lib.hid hul
      have HNN := Lib.hid hN
      have HSZ := Lib.hid (by omega : ks.sz ≤ n)
      have HIH := Lib.hid ih
      have HF := Lib.hid hf
      have HLD := Lib.hid hld
      have HC0 := Lib.hid c0
      have HC1 := Lib.hid c1
      have HC2 := Lib.hid c2
      have HC3 := Lib.hid c3
      have HC4 := Lib.hid c4
      have HONE := Lib.hid hus.one
      have HKD : Hid (∀ (j : Nat) (y : Nod) (l : Fr), ks.get j = some (y, l) → ∃ kb ko q1 o1, A = some ⟨kb, ko, none⟩ ∧ us[j]? = some (.pointer (some ⟨q1, o1, none⟩)) ∧ w.cell? ⟨kb, ko + j, none⟩ = some (.pointer (some ⟨q1, o1, none⟩)) ∧ HasT w (.pointer (some ⟨q1, o1, none⟩)) (some (y, l))) := Lib.hid (by
        intro j y l hget
        obtain ⟨u, hu1, hu2⟩ := HUS.out.at hget
        obtain ⟨q1, o1, rfl⟩ := hu2.ptr
        obtain ⟨kb, ko, hAe, _, hcl⟩ := HA.out (by have h1 := Fr.get_lt hget; rw [HNN.out] at h1; omega)
        exact ⟨kb, ko, q1, o1, hAe, hu1, hcl j _ hu1, hu2⟩)
      clear ih hus hA hul hN hsz hn hin hpv hmv hkid hf hld hc
      go_enter Tryd.func36, Tryd.ntmps36
      go_wp2_with fail
      clear c0 c1 c2 c3 c4 hpo
      go_loopw [8, 9, 10, 11, 22] (fun _ _ _ _ j wr => ∃ (k : Nat) (done rest : Fr), j = .int .i64 k ∧ k = done.len ∧ ks = done.app rest ∧ fiF 0 done = none ∧ Up w wr) (fun _ _ _ _ j _ => N - (intOf j).toNat)
      case atStart => exact ⟨0, .nil, ks, rfl, rfl, rfl, rfl, Up.refl _⟩
      case round =>
        obtain ⟨k, done, rest, rfl, hk, hks, hfd, hup⟩ := hrel
        have hl : N = done.len + rest.len := by rw [← HNN.out, hks, Fr.len_app]
        have hs : ks.sz = done.sz + rest.sz := by rw [hks, Fr.sz_app]
        have hsz := HSZ.out
        have HKS := Lib.hid hks
        have HFD := Lib.hid hfd
        have HUP := Lib.hid hup
        clear hfd hup
        by_cases hlt : 0 < rest.len
        · obtain ⟨y, l, r, rfl⟩ := Fr.cut hlt
          have hyl : szT (y, l) = 1 + l.sz := rfl
          have hsr : (Fr.cons y l r).sz = 1 + l.sz + r.sz := rfl
          have hlr : (Fr.cons y l r).len = r.len + 1 := rfl
          have hget : ks.get k = some (y, l) := by rw [hks, hk, Fr.get_app]; rfl
          obtain ⟨kb, ko, q1, o1, hA, hus1, hcell, hut⟩ := HKD.out k y l hget
          have HAA := Lib.hid hA
          subst hA
          have hcr := HUP.out.cell hcell
          have HAP := Lib.hid (fiF_app done (.cons y l r) 0)
          have HAQ := Lib.hid (fiF_app done (.cons y l .nil) 0)
          have HK1 := Lib.hid hk
          have HFK : Hid (∀ pp, fiT (y, l) = some pp → fiT (x, ks) = some ((k : Int) :: pp)) := Lib.hid (fun pp hpp => by
            rw [HF.out, HKS.out, HAP.out, HFD.out]
            show fiF _ (.cons y l r) = _
            rw [fiF_cons, hpp, HK1.out, Int.zero_add])
          have cI := HIH.out (y, l) (by omega) wr _ _ _ (HasT.up hut HUP.out) (HPV.out.up HUP.out) (HMV.out.up HUP.out) (fun pp hpp => by
            obtain ⟨q', o', kb', ko', n', c', x', e1, e2, _, e4, e5⟩ := HLD.out _ (HFK.out pp hpp)
            injection e1 with e1
            injection e1 with e1
            injection e1 with e1 e3
            subst e1 e3
            rw [HC4.out] at e2
            injection e2 with e2
            injection e2 with e2 _ _
            injection e2 with e2
            injection e2 with e6 e7
            subst e6 e7
            rw [Int.toNat_natCast, hcell] at e4
            injection e4 with e4
            subst e4
            exact Ld.up HUP.out e5)
          have hkN : k < N := by omega
          have hkz : (k : Int) < (N : Int) := by omega
          have HUS1 := Lib.hid hus1
          have HGET := Lib.hid hget
          obtain ⟨Q, hQ⟩ : ∃ Q, fiT (y, l) = Q := ⟨_, rfl⟩
          have HQ := Lib.hid hQ
          have hrp : rpT m (y, l) = Q.map fun pp => withT (y, l) pp m := by unfold rpT; rw [hQ]; cases Q <;> rfl
          rw [hrp] at cI
          have HRP : Hid (∀ pp, Q = some pp → rpT m (x, ks) = some (x, ks.set k (withT (y, l) pp m))) := Lib.hid (fun pp hpp => by
            unfold rpT
            rw [HFK.out pp (HQ.out.trans hpp)]
            show some (withT (x, ks) ((k : Int) :: pp) m) = _
            rw [withT_some pp m (u := (y, l)) (by unfold getZ; rw [if_neg (by omega), Int.toNat_natCast]; exact HGET.out), Int.toNat_natCast])
          clear hks hk hl hs hlr hsr hsz hyl hcell hQ hut hrp hget hus1
          go_wp2_with fail
          refine cI.mono ?_
          rintro e w2 ⟨v2, rfl, hv2, u2⟩
          have HU2 := Lib.hid (HUP.out.trans u2)
          clear u2 cI
          cases Q with
          | none =>
            clear hv2
            go_wp2_with fail
            go_roundw
            case rel => exact ⟨k + 1, done.app (.cons y l .nil), r, by go_num, by rw [Fr.len_app, HK1.out]; rfl, by rw [HKS.out, Fr.app_cons], by rw [HAQ.out, HFD.out]; show fiF _ (.cons y l .nil) = none; rw [fiF_cons, HQ.out]; rfl, HU2.out⟩
            case measure => simp [intOf]; omega
          | some pp =>
            have hv2 : HasT w2 v2 (some (withT (y, l) pp m)) := hv2
            have HV2 := Lib.hid hv2
            have HR := Lib.hid (HRP.out pp rfl)
            obtain ⟨H, hH⟩ : ∃ H, w2.heap.size = H := ⟨_, rfl⟩
            have d0 := HU2.out.cell HC0.out
            have d1 := HU2.out.cell HC1.out
            have d2 := HU2.out.cell HC2.out
            have d3 := HU2.out.cell HC3.out
            have d4 := HU2.out.cell HC4.out
            have k4 : (w2.alloc (.cells #[.int .i64 x.k, .int .i64 x.n, .string x.a, .string x.m, .slice (some ⟨kb, ko, none⟩) N cc] 47)).cell? ⟨q, p + 4, none⟩ = some (.slice (some ⟨kb, ko, none⟩) N cc) := ((Up.refl w2).alloc _).cell d4
            have HH := Lib.hid hH
            obtain ⟨t2, ht2⟩ : ∃ t2, withT (y, l) pp m = t2 := ⟨_, rfl⟩
            rw [ht2] at HV2 HR
            clear hv2 hH hcr ht2
            go_wp2_with fail
            obtain ⟨W1, hW1⟩ : ∃ W1, W1 = w2.alloc (.cells #[.int .i64 x.k, .int .i64 x.n, .string x.a, .string x.m, .slice (some ⟨kb, ko, none⟩) N cc] 47) := ⟨_, rfl⟩
            have hu1 : Up w2 W1 := by rw [hW1]; exact (Up.refl w2).alloc _
            have hs1 : W1.heap.size = H + 1 := by rw [hW1]; simp; exact HH.out
            have hn1 : Nb W1 H x (.slice (some ⟨kb, ko, none⟩) N cc) := by rw [hW1, ← HH.out]; exact heap_alloc_new w2 _
            rw [← hW1] at k4
            rw [← hW1, HH.out]
            have cC := clone_any (some ⟨kb, ko, none⟩) N cc us W1 HUL.out hN1 (fun h0 => by
              obtain ⟨b, o, e, hb, hcl⟩ := HA.out h0
              exact ⟨b, o, e, Nat.lt_of_lt_of_le hb (HU2.out.trans hu1).size, fun j u hu => (HU2.out.trans hu1).cell (hcl j u hu)⟩) HONE.out
            have HU1 := Lib.hid (HU2.out.trans hu1)
            have HUV := Lib.hid hu1
            have HS1 := Lib.hid hs1
            have HNB1 := Lib.hid hn1
            clear hW1 hu1 hs1 hn1 d0 d1 d2 d3 d4 k4
            refine cC.mono ?_
            rintro e w3 ⟨vk, rfl, ⟨B, hB, hown⟩, hb⟩
            rw [HS1.out] at hB
            have hown : w3.ownsRow (H + 1) 25 1 vk N us := hown.mono hB
            obtain ⟨R, c2, rfl, hR1, hR2⟩ := hown.form (by omega)
            have hnb1 : Nb w3 H x (.slice (some ⟨kb, ko, none⟩) N cc) := heap_below HNB1.out hb
            have cn := hnb1.cell.1
            have cf := hnb1.cell.2
            have hHw : H < w3.heap.size := heap_lt hnb1
            have hRH : H < R := by have := (hown.lt R rfl).1; omega
            have hown2 := own_setCell hown ⟨H, 4, none⟩ (.slice (some ⟨R, 0, none⟩) N c2) (fun g hg => by have := (hown.lt g hg).1; simp only; omega)
            have cj := hown2.cellAt k (by omega)
            rw [HUS1.out] at cj
            have fj := hown2.frozenAt k
            have HOWN := Lib.hid hown2
            have HNBW := Lib.hid hnb1
            have HU3 := Lib.hid (HU1.out.trans hb)
            have HUW : Hid (Up w2 w3) := Lib.hid (HUV.out.trans hb)
            have HRH := Lib.hid hRH
            obtain ⟨q2, o2, rfl⟩ := InT.ptr (t := t2) HV2.out
            clear cC hB hown hnb1 hb hown2
            go_wp2_with fail
            go_ret2
            have hHR : H ≠ R := by have := HRH.out; omega
            obtain ⟨w5, hw5⟩ : ∃ w5, (w3.setCell ⟨H, 4, none⟩ (.slice (some ⟨R, 0, none⟩) N c2)).setCell ⟨R, k, none⟩ (.pointer (some ⟨q2, o2, none⟩)) = w5 := ⟨_, rfl⟩
            have hz5 : w5.heap.size = w3.heap.size := by rw [← hw5]; simp [World.setCell]
            have hRz : R < w3.heap.size := by have h := (HOWN.out.lt R rfl).2; simpa [World.setCell] using h
            have u25 : Up w2 w5 := by
              have h := HUW.out
              unfold Up at h ⊢
              rw [HH.out] at h ⊢
              rw [← hw5]
              exact (h.setCell (Nat.le_refl _) _).setCell (by have := HRH.out; simp only; omega) _
            have u5 : Up w w5 := HU2.out.trans u25
            have own5 := (HOWN.out.stored k (.pointer (some ⟨q2, o2, none⟩))).1
            rw [hw5] at own5
            have nb5 : Nb w5 H x (.slice (some ⟨R, 0, none⟩) N c2) := by
              have h := HNBW.out.store (.slice (some ⟨R, 0, none⟩) N c2)
              unfold Nb at h ⊢
              rw [← hw5, Below.heap_setCell _ _ _ _ (by simp only; exact hHR)]
              exact h
            have hl5 : (ks.set k t2).len = N := by rw [Fr.len_set]; exact HNN.out
            have ptf : PtF w5 (fun q => q < w5.heap.size) (us.set k (.pointer (some ⟨q2, o2, none⟩))) (ks.set k t2) := PtF.set (HasT.up (o := some t2) HV2.out u25) (HUS.out.keep (fun b hb => Nat.lt_of_lt_of_le hb u5.size) fun b hb => u5.block b hb)
            have tree : HasT w5 (.pointer (some ⟨H, 0, none⟩)) (some (x, ks.set k t2)) := OwnT.tree (x := x) (f := ks.set k t2) (v := .slice (some ⟨R, 0, none⟩) N c2) (e := 25) (base := H + 1) ⟨_, by rw [hl5]; exact own5, ptf⟩ nb5 (by rw [hz5]; exact hHw) (fun g hg => by
              injection hg with hg
              have hg : R = g := hg
              rw [← hg, hz5]
              exact hRz)
            rw [hw5]
            exact ⟨_, by rw [HR.out]; rfl, by rw [HR.out]; exact tree, u5⟩
        · have h0 : rest = .nil := by
            cases rest with
            | nil => rfl
            | cons y l r => exact absurd (Nat.succ_pos _) hlt
          subst h0
          have hl' : N = done.len := by simpa [Fr.len] using hl
          have hkz : ¬ (k : Int) < (N : Int) := by omega
          clear hk hks hl hl' hs hsz
          go_wp2_with fail
          go_ret2
          exact pup_none (by unfold rpT; rw [HF.out, HKS.out, Fr.app_nil, HFD.out]) HUP.out
end Go.Proofs.YtofgniceilbpaaaDoor
namespace Go.Proofs.YtofgniceilbpaaaDoor
open Go.RowKit

set_option maxHeartbeats 12800000 in
set_option maxRecDepth 100000 in
theorem pStepIn (t : Tr) (h0 : ckE (some t) = 0) {w : World} {v : Value} (h : HasT w v (some t)) : Calls Tryd.prog 21 #[v] w (StP3 (stR (some t)) w) := by
  have hz1 : szT t ≤ 65536 := by
    obtain ⟨_, e, h2, _⟩ := ckE_ok h0
    injection e with e
    subst e
    exact h2
  have cF := pFirst (szT t) (by omega) t (Nat.le_refl _) (co_apkT (ck_co h0)) w v h
  rcases st_cases t with ⟨h1, _⟩ | ⟨_, hf, h1⟩ | ⟨_, p, u, b, a, hf, ha, huc, hur, hb, hcb, hca, hzb, hza, h5⟩
  · exact absurd h0 h1
  · have HR := Lib.hid h1
    rw [hf] at cF
    clear h hz1 h0 hf h1
    go_enter Tryd.func21, Tryd.ntmps21
    go_wp2_with fail
    refine cF.mono ?_
    rintro e w1 ⟨v', rfl, hn, -, u1⟩
    have hn := hn rfl
    subst hn
    have U1 := Lib.hid u1
    clear u1 cF
    go_wp2_with fail
    go_ret3
    exact stp3_none HR.out U1.out
  · have hus := at_sz p t u ha
    obtain ⟨y, l, z, zk, b1, bk, a1, ak, hu2, h2, h3, rfl, hy⟩ := beta_of huc hur
    have hbb : b = (b1, bk) ∧ a = (a1, ak) := by
      unfold betaO at hb
      rw [hu2] at hb
      injection hb with hb
      injection hb with hb1 hb2
      exact ⟨hb1.symm, hb2.symm⟩
    obtain ⟨rfl, rfl⟩ := hbb
    rw [hf] at cF
    have HA := Lib.hid ha
    have HT := Lib.hid (show HasT w v (some t) from h)
    have HP : Hid (∀ (W : World) (m : Tr) (pv mv : Value), Up w W → HasT W pv (some u) → HasT W mv (some m) → Ld W p v pv → Calls Tryd.prog 36 #[v, pv, mv] W (PuP (some (withT t p m)) W)) := Lib.hid fun W m pv mv hu h1 h2 h3 => by
      have c := pPut u m hur (szT t) (by omega) t (Nat.le_refl _) W v pv mv (HasT.up (o := some t) h hu) h1 h2 (fun q h => by rw [hf] at h; injection h with h; subst h; exact h3)
      have e : rpT m t = some (withT t p m) := by unfold rpT; rw [hf]
      rw [e] at c
      exact c
    have H5 := Lib.hid h5
    have hub : szT u ≤ 65536 := by omega
    obtain ⟨x, us⟩ := u
    have hu2 : us = .cons y (.cons z zk (.cons b1 bk .nil)) (.cons a1 ak .nil) := hu2
    subst hu2
    clear h h0 hf h5 hb ha hus h2 h3 hy huc hur
    go_enter Tryd.func21, Tryd.ntmps21
    go_wp2_with fail
    refine cF.mono ?_
    rintro e w2 ⟨v2, rfl, -, hl, u2⟩
    have hl := hl p rfl
    have U2 := Lib.hid u2
    have HL := Lib.hid hl
    have hv2 : HasT w2 v2 (some (x, .cons y (.cons z zk (.cons b1 bk .nil)) (.cons a1 ak .nil))) := Ld.has (HT.out.up u2) hl HA.out
    have HV2 := Lib.hid hv2
    obtain ⟨qr, pr, A, cc, rfl, hqr, c0, c1, c2, c3, c4, hc, hkid⟩ := InT.open (x := x) (ks := .cons y (.cons z zk (.cons b1 bk .nil)) (.cons a1 ak .nil)) hv2
    obtain ⟨kb, ko, vy, va, rfl, d0, d1, hy, hva, hkb⟩ := hkid.two
    obtain ⟨qy, py, Ay, cy, rfl, hqy, e0, e1, e2, e3, e4, hcy, hky⟩ := hy.open
    obtain ⟨kb2, ko2, vz, vb, rfl, f0, f1, hz2, hvb, hkb2⟩ := hky.two
    have CS0 : ∀ W, Up w2 W → Calls Tryd.prog 19 #[vb, .int .i64 0, va] W (ErH (sbR 0 (some (b1, bk)) (some (a1, ak))) W) := fun W u => pSubst (some (b1, bk)) (some (a1, ak)) W _ _ 0 (HasT.up (o := some (b1, bk)) hvb u) (by show szT (b1, bk) ≤ _; omega) (HasT.up (o := some (a1, ak)) hva u) (by show szT (a1, ak) ≤ _; omega)
    obtain ⟨qb, pb, rfl⟩ := hvb.ptr
    obtain ⟨qa, pa, rfl⟩ := hva.ptr
    clear u2 hv2 hl hkid hy hva hvb hky hz2 cF c0 c1 c2 c3 e0 e1 e2 e3 f0 hc hcy hqr hkb hqy hkb2 hza hzb hub
    have hl1 : (Fr.cons y (.cons z zk (.cons b1 bk .nil)) (.cons a1 ak .nil)).len = 2 := rfl
    have hl2 : (Fr.cons z zk (.cons b1 bk .nil)).len = 2 := rfl
    rw [hl1] at c4
    rw [hl2] at e4
    rcases H5.out with ⟨m, hs, hR⟩ | ⟨e9, he9, hs, hR⟩
    · rw [hs] at CS0
      have CS := Lib.hid CS0
      have HR := Lib.hid hR
      clear CS0 hs hR H5
      go_wp2_with fail
      go_region_held3 (fun w' => w'.cell? ⟨qr, pr + 4, none⟩ = some (.slice (some ⟨kb, ko, none⟩) 2 cc) ∧ w'.cell? ⟨kb, ko, none⟩ = some (.pointer (some ⟨qy, py, none⟩)) ∧ w'.cell? ⟨kb, ko + 1, none⟩ = some (.pointer (some ⟨qa, pa, none⟩)) ∧ w'.cell? ⟨qy, py + 4, none⟩ = some (.slice (some ⟨kb2, ko2, none⟩) 2 cy) ∧ w'.cell? ⟨kb2, ko2 + 1, none⟩ = some (.pointer (some ⟨qb, pb, none⟩))) (first | go_keep | (refine ⟨?_, ?_, ?_, ?_, ?_⟩ <;> assumption)) (first
        | (go_at_call 19; refine Calls.mono (CS.out _ (by first | exact Up.refl _ | exact (Up.refl _).drewN 1)) ?_; rintro e3 w3 ⟨v3, he3, h3, u3⟩; dsimp only at he3; subst he3; have n1 := u3.cell c4; have n2 := u3.cell d0; have n3 := u3.cell d1; have n4 := u3.cell e4; have n5 := u3.cell f1))
      have U23 : Up w2 w3 := ((Up.refl w2).drewN 1).trans u3
      have U3 := Lib.hid (U2.out.trans U23)
      have H3 : Hid (HasT w3 v3 (some m)) := Lib.hid h3
      have cW := HP.out w3 m _ _ U3.out (HV2.out.up U23) h3 (HL.out.up U23)
      clear n1 n2 n3 n4 n5 u3 h3 c4 d0 d1 e4 f1 U23
      go_wp2_with fail
      refine cW.mono ?_
      rintro e w4 ⟨v4, rfl, h4, u4⟩
      have U4 := Lib.hid (U3.out.trans u4)
      have H4 : Hid (HasT w4 v4 (some (withT t p m))) := Lib.hid h4
      clear h4 u4 cW
      go_wp2_with fail
      go_ret3
      exact ⟨v4, by rw [HR.out]; rfl, by rw [HR.out]; exact H4.out, U4.out⟩
    · rw [hs] at CS0
      have CS := Lib.hid CS0
      have HR := Lib.hid hR
      have h9 : (e9 != 0) = true := by rw [bne_iff_ne]; exact he9
      clear CS0 hs hR H5
      go_wp2_with fail
      go_region_held3 (fun w' => w'.cell? ⟨qr, pr + 4, none⟩ = some (.slice (some ⟨kb, ko, none⟩) 2 cc) ∧ w'.cell? ⟨kb, ko, none⟩ = some (.pointer (some ⟨qy, py, none⟩)) ∧ w'.cell? ⟨kb, ko + 1, none⟩ = some (.pointer (some ⟨qa, pa, none⟩)) ∧ w'.cell? ⟨qy, py + 4, none⟩ = some (.slice (some ⟨kb2, ko2, none⟩) 2 cy) ∧ w'.cell? ⟨kb2, ko2 + 1, none⟩ = some (.pointer (some ⟨qb, pb, none⟩))) (first | go_keep | (refine ⟨?_, ?_, ?_, ?_, ?_⟩ <;> assumption)) (first
        | (go_at_call 19; refine Calls.mono (CS.out _ (by first | exact Up.refl _ | exact (Up.refl _).drewN 1)) ?_; rintro e3 w3 ⟨v3, he3, h3, u3⟩; dsimp only at he3; subst he3; have n1 := u3.cell c4; have n2 := u3.cell d0; have n3 := u3.cell d1; have n4 := u3.cell e4; have n5 := u3.cell f1))
      have U3 := Lib.hid (U2.out.trans (((Up.refl w2).drewN 1).trans u3))
      clear n1 n2 n3 n4 n5 u3 h3 c4 d0 d1 e4 f1
      go_wp2_with fail
      go_ret3
      exact stp3_none HR.out U3.out
set_option maxHeartbeats 12800000 in
set_option maxRecDepth 100000 in
theorem pStep (o : Option Tr) {w : World} {v : Value} (h : HasT w v o) (hz : szO o ≤ 65536) : Calls Tryd.prog 9 #[v] w (StP3 (stR o) w) := by
  have cC := pCheck o w v h hz
  by_cases h0 : ckE o = 0
  · obtain ⟨t, rfl, -⟩ := ckE_ok h0
    have HS := Lib.hid (fun W (u : Up w W) => pStepIn t h0 (HasT.up (o := some t) h u))
    rw [h0] at cC
    clear h hz h0
    go_enter Tryd.func9, Tryd.ntmps9
    go_wp2_with fail
    refine cC.mono ?_
    rintro e w1 ⟨rfl, u1⟩
    have U1 := Lib.hid u1
    have cS := HS.out w1 u1
    clear u1 cC
    go_wp2_with fail
    refine cS.mono ?_
    rintro e w2 ⟨v2, rfl, h2, u2⟩
    have H2 := Lib.hid h2
    have U2 := Lib.hid (U1.out.trans u2)
    clear h2 u2 cS
    go_wp2_with fail
    go_ret3
    exact ⟨v2, rfl, H2.out, U2.out⟩
  · have hR : stR o = (none, false, ckE o) := by
      cases o with
      | none => rfl
      | some t => exact stR_bad h0
    obtain ⟨E, hE⟩ : ∃ E, ckE o = E := ⟨_, rfl⟩
    rw [hE] at cC h0 hR
    have HR := Lib.hid hR
    have h1 : (E != 0) = true := by rw [bne_iff_ne]; exact h0
    clear h hz hE hR
    go_enter Tryd.func9, Tryd.ntmps9
    go_wp2_with fail
    refine cC.mono ?_
    rintro e w1 ⟨rfl, u1⟩
    have U1 := Lib.hid u1
    clear u1 cC
    go_wp2_with fail
    go_ret3
    exact stp3_none HR.out U1.out
end Go.Proofs.YtofgniceilbpaaaDoor
namespace Go.Proofs.YtofgniceilbpaaaDoor
open Go.RowKit

def SzBig : Prop := ∀ (w : World) (v : Value) (m : Tr), HasT w v (some m) → 65536 < szT m → szT m ≤ 131072 → Calls Tryd.prog 28 #[v] w (NuP (szT m) w)
def nmB : Nat → Tr → Bool
  | 0, _ => true
  | k + 1, t => match stR (some t) with
    | (some m, true, _) => decide (szT m ≤ 65536) && nmB k m
    | _ => true
theorem nmB_step {k : Nat} {t m : Tr} (h : stR (some t) = (some m, true, 0)) (hb : nmB (k + 1) t = true) : szT m ≤ 65536 ∧ nmB k m = true := by
  rw [nmB, h] at hb
  simp only [Bool.and_eq_true, decide_eq_true_eq] at hb
  exact hb
set_option maxHeartbeats 12800000 in
set_option maxRecDepth 100000 in
theorem pNormal (o : Option Tr) {w : World} {v : Value} (h : HasT w v o) (hz : szO o ≤ 65536) (hb : SzBig ∨ ∀ t, o = some t → nmB 1000 t = true) : Calls Tryd.prog 13 #[v] w (TeP (nmR o) w) := by
  have cC := pCheck o w v h hz
  by_cases h0 : ckE o = 0
  · obtain ⟨t, rfl, -⟩ := ckE_ok h0
    obtain ⟨R, hR⟩ : ∃ R, nmR (some t) = R := ⟨_, rfl⟩
    rw [hR]
    have hR : nmI 1000 t = R := hR
    have hb : SzBig ∨ nmB 1000 t = true := hb.imp id fun h => h t rfl
    have HR := Lib.hid hR
    have HT := Lib.hid h
    have HB := Lib.hid hb
    have H0 := Lib.hid h0
    rw [h0] at cC
    clear h hz h0 hR hb
    go_enter Tryd.func13, Tryd.ntmps13
    go_wp2_with fail
    refine cC.mono ?_
    rintro e w1 ⟨rfl, u1⟩
    have U1 := Lib.hid u1
    have HT1 := Lib.hid (HT.out.up u1)
    clear u1 cC HT
    go_wp2_with fail
    go_loopw [0, 5, 6, 7, 15] (fun nv _ _ _ j wr => ∃ (k : Nat) (t' : Tr), j = .int .i64 k ∧ k ≤ 1000 ∧ HasT wr nv (some t') ∧ ckE (some t') = 0 ∧ nmI (1000 - k) t' = R ∧ (SzBig ∨ nmB (1000 - k) t' = true) ∧ Up w wr) (fun _ _ _ _ j _ => 1001 - (intOf j).toNat)
    case atStart => exact ⟨0, t, rfl, by omega, HT1.out, H0.out, HR.out, HB.out, U1.out⟩
    case round =>
      obtain ⟨k, t', rfl, hk, ht, hc, hr, hbb, hup⟩ := hrel
      have hz1 : szT t' ≤ 65536 := by
        obtain ⟨_, e, h2, _⟩ := ckE_ok hc
        injection e with e
        subst e
        exact h2
      have HUP := Lib.hid hup
      have HT2 := Lib.hid ht
      have HC2 := Lib.hid hc
      by_cases hlt : k < 1000
      · have hkz : (k : Int) < 1000 := by omega
        obtain ⟨K, hK⟩ : ∃ K, 1000 - k = K + 1 := ⟨1000 - k - 1, by omega⟩
        have hK1 : 1000 - (k + 1) = K := by omega
        rw [hK] at hr hbb
        have cS := pStepIn t' hc ht
        have HR2 := Lib.hid hr
        have HBB := Lib.hid hbb
        have HK1 := Lib.hid hK1
        clear ht hc hr hbb hup hz1 hK hK1
        rcases st_three t' with ⟨e, he, h1⟩ | h1 | ⟨m, h1⟩
        · rw [h1] at cS
          have HE := Lib.hid (HR2.out.symm.trans (nm_err he h1))
          have h9 : (e != 0) = true := by rw [bne_iff_ne]; exact he
          clear h1
          go_wp2_with fail
          refine cS.mono ?_
          rintro e w2 ⟨v2, rfl, -, u2⟩
          have U2 := Lib.hid (HUP.out.trans u2)
          clear u2 cS
          go_wp2_with fail
          go_ret2
          exact tep_none HE.out U2.out
        · rw [h1] at cS
          have HE := Lib.hid (HR2.out.symm.trans (nm_done h1))
          clear h1
          go_wp2_with fail
          refine cS.mono ?_
          rintro e w2 ⟨v2, rfl, -, u2⟩
          have U2 := Lib.hid (HUP.out.trans u2)
          have T2 := Lib.hid (HT2.out.up u2)
          clear u2 cS
          go_wp2_with fail
          go_ret2
          exact ⟨_, by rw [HE.out]; rfl, by rw [HE.out]; exact T2.out, U2.out⟩
        · rw [h1] at cS
          have HN := Lib.hid (HR2.out.symm.trans (nm_step h1))
          have hm2 := (st_sz h1).2
          rcases st_ckm h1 with ⟨hz, hck⟩ | ⟨hz, hck⟩
          · have HZ := Lib.hid hz
            have HCK := Lib.hid hck
            have HB3 : Hid (SzBig ∨ nmB K m = true) := Lib.hid (HBB.out.imp id fun h => (nmB_step h1 h).2)
            have hzn : ¬ (65536 : Int) < (szT m : Int) := by omega
            obtain ⟨Z, hZ⟩ : ∃ Z, szT m = Z := ⟨_, rfl⟩
            have HZZ := Lib.hid hZ
            rw [hZ] at hzn
            clear h1 hz hck hm2 hZ
            go_wp2_with fail
            refine cS.mono ?_
            rintro e w2 ⟨v2, rfl, h2, u2⟩
            have h2 : HasT w2 v2 (some m) := h2
            have U2 := Lib.hid (HUP.out.trans u2)
            have cZ := uSize (some m) h2 HZ.out (Up.refl w2)
            rw [show szO (some m) = Z from HZZ.out] at cZ
            have T2 := Lib.hid h2
            clear u2 h2 cS
            go_wp2_with fail
            refine cZ.mono ?_
            rintro e w3 ⟨rfl, u3⟩
            have U3 := Lib.hid (U2.out.trans u3)
            have T3 := Lib.hid (T2.out.up u3)
            clear u3 cZ
            go_wp2_with fail
            go_roundw
            case rel => exact ⟨k + 1, m, by go_num, by omega, T3.out, HCK.out, by rw [HK1.out]; exact HN.out.symm, by rw [HK1.out]; exact HB3.out, U3.out⟩
            case measure => simp [intOf]; omega
          · have HE := Lib.hid (HN.out.trans (nm_ck (by decide) hck))
            have hbig : SzBig := by
              rcases HBB.out with h | h
              · exact h
              · exact absurd (nmB_step h1 h).1 (by omega)
            have HBIG := Lib.hid (fun (W : World) (v' : Value) (h : HasT W v' (some m)) => hbig W v' m h hz hm2)
            have hzn : (65536 : Int) < (szT m : Int) := by omega
            obtain ⟨Z, hZ⟩ : ∃ Z, szT m = Z := ⟨_, rfl⟩
            rw [hZ] at hzn HBIG
            clear h1 hz hck hm2 hZ hbig
            go_wp2_with fail
            refine cS.mono ?_
            rintro e w2 ⟨v2, rfl, h2, u2⟩
            have U2 := Lib.hid (HUP.out.trans u2)
            have cZ := HBIG.out w2 v2 h2
            clear u2 h2 cS
            go_wp2_with fail
            refine cZ.mono ?_
            rintro e w3 ⟨rfl, u3⟩
            have U3 := Lib.hid (U2.out.trans u3)
            clear u3 cZ
            go_wp2_with fail
            go_ret2
            exact tep_none HE.out U3.out
      · have hk1 : k = 1000 := by omega
        have h10 : 1000 - k = 0 := by omega
        rw [h10] at hr
        have hkz : ¬ (k : Int) < 1000 := by omega
        have cF := pFirst (szT t') (by omega) t' (Nat.le_refl _) (co_apkT (ck_co hc)) wr _ ht
        have HR2 := Lib.hid hr
        cases hf : fiT t' with
        | none =>
          have HE : Hid (R = (some t', 0)) := Lib.hid (HR2.out.symm.trans (nm_done (stR_no hc hf)))
          rw [hf] at cF
          clear ht hc hr hbb hup hz1 hf hlt hk1 h10 hk
          go_wp2_with fail
          refine cF.mono ?_
          rintro e w2 ⟨v2, rfl, -, -, u2⟩
          have U2 := Lib.hid (HUP.out.trans u2)
          have T2 := Lib.hid (HT2.out.up u2)
          clear u2 cF
          go_wp2_with fail
          go_ret2
          exact ⟨_, by rw [HE.out]; rfl, by rw [HE.out]; exact T2.out, U2.out⟩
        | some p =>
          have HE : Hid (R = (none, 18)) := Lib.hid (HR2.out.symm.trans (nm_red hc hf))
          rw [hf] at cF
          clear ht hc hr hbb hup hz1 hf hlt hk1 h10 hk
          go_wp2_with fail
          refine cF.mono ?_
          rintro e w2 ⟨v2, rfl, -, -, u2⟩
          have U2 := Lib.hid (HUP.out.trans u2)
          clear u2 cF
          go_wp2_with fail
          go_ret2
          exact tep_none HE.out U2.out
  · have hR : nmR o = (none, ckE o) := by
      cases o with
      | none => rfl
      | some t => exact nm_ck (k := 1000) h0 rfl
    obtain ⟨E, hE⟩ : ∃ E, ckE o = E := ⟨_, rfl⟩
    rw [hE] at cC h0 hR
    have HR := Lib.hid hR
    have h1 : (E != 0) = true := by rw [bne_iff_ne]; exact h0
    clear h hz hE hR hb
    go_enter Tryd.func13, Tryd.ntmps13
    go_wp2_with fail
    refine cC.mono ?_
    rintro e w1 ⟨rfl, u1⟩
    have U1 := Lib.hid u1
    clear u1 cC
    go_wp2_with fail
    go_ret2
    exact tep_none HR.out U1.out
end Go.Proofs.YtofgniceilbpaaaDoor
namespace Go.Proofs.YtofgniceilbpaaaDoor
open Go.RowKit

theorem ex11_nb : nmB 1000 ex11 = true := by kernel_rfl
theorem nm_all : NmAll := {
  step := fun _ o _ h hz => pStep o h hz
  ex := fun _ _ h => pNormal (some ex11) h (by decide) (.inr fun t ht => by
    injection ht with ht
    rw [← ht]
    exact ex11_nb) }
end Go.Proofs.YtofgniceilbpaaaDoor
