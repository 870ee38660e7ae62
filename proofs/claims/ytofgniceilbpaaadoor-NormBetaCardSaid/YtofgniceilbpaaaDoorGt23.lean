/-
  Layer 11: the document's First: the path of the first redex.
-/
import Derived.Test.YtofgniceilbpaaaDoorGt22
namespace Go.Proofs.YtofgniceilbpaaaDoor
open Go.RowKit

def Fr.apk : Fr → Prop
  | .nil => True
  | .cons x k r => (x.k = 120 → 0 < k.len) ∧ k.apk ∧ r.apk
def apkT (t : Tr) : Prop := (t.1.k = 120 → 0 < t.2.len) ∧ t.2.apk
theorem Fr.apk_app {f g : Fr} : (f.app g).apk ↔ f.apk ∧ g.apk := by
  induction f with
  | nil => exact ⟨fun h => ⟨trivial, h⟩, fun h => h.2⟩
  | cons x k r _ ih =>
    show (_ ∧ _ ∧ (r.app g).apk) ↔ (_ ∧ _ ∧ _) ∧ _
    rw [ih]
    exact ⟨fun h => ⟨⟨h.1, h.2.1, h.2.2.1⟩, h.2.2.2⟩, fun h => ⟨h.1.1, h.1.2.1, h.1.2.2, h.2⟩⟩
theorem kd_apk {f : Fr} (h : kdF f = true) : f.apk := by
  induction f with
  | nil => trivial
  | cons x k r ihk ihr =>
    rw [kdF_cons, Bool.and_eq_true] at h
    have hk := kdT_k h.1
    refine ⟨fun h => by omega, ihk ?_, ihr h.2⟩
    have h1 := h.1
    unfold kdT at h1
    rw [Bool.and_eq_true] at h1
    have h3 := h1.2
    split at h3
    · rw [show k = .nil from Fr.len0 (beq_iff_eq.1 h3)]; rfl
    · simp only [Bool.and_eq_true] at h3
      exact h3.2.2
theorem co_apk {f : Fr} : ∀ {m : Nat}, coF m f = true → f.apk := by
  induction f with
  | nil => intro m _; trivial
  | cons x k r ihk ihr =>
    intro m h
    by_cases hm0 : m = 0
    · subst hm0
      rw [coF_0, Bool.and_eq_true] at h
      obtain ⟨m', hk⟩ := co_kids h.1
      refine ⟨fun h120 => ?_, ihk hk, ihr h.2⟩
      have h1 := h.1
      unfold coT at h1
      simp only at h1
      rw [if_neg (by omega), if_neg (by omega), if_pos (by omega)] at h1
      simp only [Bool.and_eq_true, beq_iff_eq] at h1
      have := h1.2.1
      omega
    · by_cases hm1 : m = 1
      · subst hm1
        rw [coF_1, Bool.and_eq_true] at h
        have hk := kdT_k h.1
        refine ⟨fun h => by omega, ?_, ihr h.2⟩
        have := kd_apk (f := .cons x k .nil) (by rw [kdF_cons, h.1]; rfl)
        exact this.2.1
      · rw [coF_f hm0 hm1, Bool.and_eq_true] at h
        have hk := fdT_k h.1
        exact ⟨fun h => by omega, ihk (fd_kids h.1), ihr h.2⟩
theorem co_apkT {t : Tr} (h : coT t = true) : apkT t := by
  have := co_apk (f := .cons t.1 t.2 .nil) (m := 0) (by rw [coT_F]; exact h)
  exact ⟨this.1, this.2.1⟩
theorem fiF_app (a b : Fr) : ∀ i : Int, fiF i (a.app b) = match fiF i a with
    | some p => some p
    | none => fiF (i + (a.len : Int)) b := by
  induction a with
  | nil => intro i; show fiF i b = fiF (i + ((0 : Nat) : Int)) b; rw [show i + ((0 : Nat) : Int) = i by omega]
  | cons x k r _ ih =>
    intro i
    show fiF i (.cons x k (r.app b)) = _
    rw [fiF_cons, fiF_cons]
    cases fiT (x, k) with
    | some p => rfl
    | none =>
      show fiF (i + 1) (r.app b) = match fiF (i + 1) r with
        | some p => some p
        | none => fiF (i + ((r.len + 1 : Nat) : Int)) b
      rw [ih (i + 1), show i + 1 + (r.len : Int) = i + ((r.len + 1 : Nat) : Int) by omega]
def FiP (R : Option (List Int)) (W : World) (e : Ending) (w' : World) : Prop := ∃ v, e = .returned (.tuple #[v, .bool R.isSome]) ∧ Sl1 w' (Nw W w') v (R.getD []) ∧ Up W w'
theorem fip_none {R : Option (List Int)} {W w' : World} (h : R = none) (u : Up W w') : FiP R W (.returned (.tuple #[.slice none 0 0, .bool false])) w' := ⟨_, by rw [h]; rfl, .inl ⟨by rw [h]; rfl, rfl⟩, u⟩
theorem fip_nil {R : Option (List Int)} {W w' : World} (h : R = some []) (u : Up W w') : FiP R W (.returned (.tuple #[.slice none 0 0, .bool true])) w' := ⟨_, by rw [h]; rfl, .inl ⟨by rw [h]; rfl, rfl⟩, u⟩
def FiAt (n : Nat) : Prop := ∀ (t : Tr), szT t ≤ n → apkT t → ∀ (w : World) (Sq : Nat → Prop) (v : Value), Bel Sq w.heap.size → InT w Sq v t → Calls Tryd.prog 23 #[v] w (FiP (fiT t) w)
set_option maxHeartbeats 12800000 in
set_option maxRecDepth 100000 in
theorem refFirst : ∀ (n : Nat), n ≤ 1000000000 → FiAt n
  | 0, _, t, h, _, _, _, _, _, _ => absurd h (by unfold szT; omega)
  | n + 1, hbig, (x, ks), hn, hv, w, Sq, v, hS, hin => by
    have ih := refFirst n (by omega)
    obtain ⟨q, p, A, cc, rfl, hq1, c0, c1, c2, c3, c4, hc, hkid⟩ := hin.open
    have hqw : q < w.heap.size := hS q hq1
    have hsz : szT (x, ks) = 1 + ks.sz := rfl
    have hll := Fr.len_le ks
    have HR0 : rdxB x ks = true → Hid (fiT (x, ks) = some []) := fun h => Lib.hid (by unfold fiT; rw [if_pos h])
    have HR1 : rdxB x ks = false → Hid (fiT (x, ks) = fiF 0 ks) := fun h => Lib.hid (by unfold fiT; rw [if_neg (by rw [h]; exact Bool.false_ne_true)])
    have HRX : Hid (rdxB x ks = (x.k == 120 && hdLam ks)) := Lib.hid rfl
    obtain ⟨R, hR⟩ : ∃ R, fiT (x, ks) = R := ⟨_, rfl⟩
    rw [hR] at HR0 HR1 ⊢
    obtain ⟨B, hB⟩ : ∃ B, rdxB x ks = B := ⟨_, rfl⟩
    rw [hB] at HR0 HR1 HRX
    obtain ⟨K, hK⟩ : ∃ K, x.k = K := ⟨_, rfl⟩
    rw [hK] at c0 HRX
    have hv1 : K = 120 → 0 < ks.len := by rw [← hK]; exact hv.1
    obtain ⟨N, hN⟩ : ∃ N, ks.len = N := ⟨_, rfl⟩
    rw [hN] at c4 hll hv1
    have hN1 : N ≤ 1000000000 := by omega
    have HK := Lib.hid hkid
    have HNN := Lib.hid hN
    have HSZ := Lib.hid (by omega : ks.sz ≤ n)
    have HIH := Lib.hid ih
    have HVK := Lib.hid hv.2
    have HBEL := Lib.hid hS
    have key : (¬ K = 120 ∧ B = false) ∨ (K = 120 ∧ 0 < N ∧ ∃ kb ko q' p' K2, A = some ⟨kb, ko, none⟩ ∧ w.cell? ⟨kb, ko, none⟩ = some (.pointer (some ⟨q', p', none⟩)) ∧ w.cell? ⟨q', p', none⟩ = some (.int .i64 K2) ∧ B = (K2 == 119)) := by
      by_cases e1 : K = 120
      · right
        have h0 := hv1 e1
        refine ⟨e1, h0, ?_⟩
        obtain ⟨y, l, r, rfl⟩ := Fr.cut (by omega : 0 < ks.len)
        obtain ⟨kb, ko, u, hA, hkb, hcell, hu, -⟩ := hkid.next
        obtain ⟨q', p', A', cc', rfl, hq', d0, _⟩ := hu.open
        refine ⟨kb, ko, q', p', y.k, hA, hcell, d0, ?_⟩
        rw [HRX.out, e1]
        rfl
      · left
        refine ⟨e1, ?_⟩
        rw [HRX.out, beq_eq_false_iff_ne.2 e1]
        rfl
    clear hin hkid ih hv hR hN hc hsz hn hK hB HRX hv1 hS
    obtain ⟨AA, hAA⟩ : ∃ AA, AA = A := ⟨_, rfl⟩
    rw [← hAA] at HK
    have HAA := Lib.hid hAA
    clear hAA
    have fin : B = true ∨ (B = false ∧ (¬ K = 120 ∨ K = 120 ∧ 0 < N ∧ ∃ kb ko q' p' K2, A = some ⟨kb, ko, none⟩ ∧ w.cell? ⟨kb, ko, none⟩ = some (.pointer (some ⟨q', p', none⟩)) ∧ w.cell? ⟨q', p', none⟩ = some (.int .i64 K2) ∧ (K2 == 119) = false)) := by
      cases B with
      | true => exact .inl rfl
      | false =>
        right
        refine ⟨rfl, ?_⟩
        rcases key with ⟨e1, _⟩ | ⟨e1, h0, kb, ko, q', p', K2, h1, h2, h3, h4⟩
        · exact .inl e1
        · exact .inr ⟨e1, h0, kb, ko, q', p', K2, h1, h2, h3, h4.symm⟩
    rcases fin with rfl | ⟨rfl, fin⟩
    · rcases key with ⟨_, h⟩ | ⟨rfl, hN0, kb, ko, q', p', K2, rfl, d1, d0, hB⟩
      · cases h
      · have HR := HR0 rfl
        replace hB := beq_iff_eq.1 hB.symm
        subst hB
        clear HR0 HR1
        go_enter Tryd.func23, Tryd.ntmps23
        go_wp2_with fail
        go_ret2
        exact fip_nil HR.out (Up.refl _)
    clear key
    have HR := HR1 rfl
    have HC4 := Lib.hid c4
    clear HR0 HR1
    rcases fin with e1 | ⟨rfl, hN0, kb, ko, q', p', K2, rfl, d1, d0, hB⟩
    all_goals
      go_enter Tryd.func23, Tryd.ntmps23
      go_wp2_with fail
      try clear d1 d0 hB
      clear c4 c0 c1 c2 c3
      go_loopw [4, 5, 6] (fun j _ _ wr => ∃ (k : Nat) (done rest : Fr), j = .int .i64 k ∧ k = done.len ∧ ks = done.app rest ∧ Kid w Sq AA rest k ∧ fiF 0 done = none ∧ Up w wr) (fun j _ _ _ => N - (intOf j).toNat)
      case atStart => exact ⟨0, .nil, ks, rfl, rfl, rfl, HK.out, rfl, Up.refl _⟩
      case round =>
        obtain ⟨k, done, rest, rfl, hk, hks, hkid, hfd, hup⟩ := hrel
        have hl : N = done.len + rest.len := by rw [← HNN.out, hks, Fr.len_app]
        have hs : ks.sz = done.sz + rest.sz := by rw [hks, Fr.sz_app]
        have hsz := HSZ.out
        have HKS := Lib.hid hks
        have HFD := Lib.hid hfd
        have HUP := Lib.hid hup
        have hus := hup.size
        clear hfd hup
        by_cases hlt : 0 < rest.len
        · obtain ⟨y, l, r, rfl⟩ := Fr.cut hlt
          obtain ⟨kb2, ko2, u, hA2, hkb, hcell, hu, hnext⟩ := hkid.next
          have c4r := (Below.cell HUP.out hqw).trans HC4.out
          rw [← HAA.out, hA2] at c4r
          have hcr := (Below.cell HUP.out (HBEL.out _ hkb)).trans hcell
          have hyl : szT (y, l) = 1 + l.sz := rfl
          have hsr : (Fr.cons y l r).sz = 1 + l.sz + r.sz := rfl
          have hlr : (Fr.cons y l r).len = r.len + 1 := rfl
          have hvy : apkT (y, l) := by
            have h := HVK.out
            rw [HKS.out, Fr.apk_app] at h
            exact ⟨h.2.1, h.2.2.1⟩
          have hbel : Bel Sq wr.heap.size := fun q' h => by have := HBEL.out q' h; omega
          have cI := HIH.out (y, l) (by omega) hvy wr Sq u hbel (hu.keep (fun _ h => h) fun pp hp => Below.block HUP.out _ (HBEL.out _ hp))
          have hkN : k < N := by omega
          have hkz : (k : Int) < (N : Int) := by omega
          have HK1 := Lib.hid hk
          have HN := Lib.hid hnext
          have HAP := Lib.hid (fiF_app done (.cons y l r) 0)
          have HAQ := Lib.hid (fiF_app done (.cons y l .nil) 0)
          have hpl := fun (p : List Int) (h : fiT (y, l) = some p) => fiT_len h
          obtain ⟨Q, hQ⟩ : ∃ Q, fiT (y, l) = Q := ⟨_, rfl⟩
          have HQ := Lib.hid hQ
          rw [hQ] at cI hpl
          have HPL := Lib.hid (show ∀ p, Q = some p → p.length ≤ 1000000000 from fun p h => by have := hpl p h; omega)
          have hqr : q < wr.heap.size := by omega
          clear hkid hnext hu hks hk hl hs hlr hsr hsz hyl hvy hcell hbel hQ hpl
          go_wp2_with fail
          refine cI.mono ?_
          rintro e w2 ⟨v2, rfl, hv2, u2⟩
          have HV2 := Lib.hid hv2
          have HU2 := Lib.hid u2
          clear hv2 u2 cI
          cases Q with
          | none =>
            go_wp2_with fail
            go_roundw
            case rel => exact ⟨k + 1, done.app (.cons y l .nil), r, by go_num, by rw [Fr.len_app, HK1.out]; rfl, by rw [HKS.out, Fr.app_cons], HN.out, by rw [HAQ.out, HFD.out]; show fiF _ (.cons y l .nil) = none; rw [fiF_cons, HQ.out]; rfl, HUP.out.trans HU2.out⟩
            case measure => simp [intOf]; omega
          | some pp =>
            have hppl := HPL.out pp rfl
            obtain ⟨UA, UL, uc, rfl⟩ : ∃ UA UL uc, v2 = .slice UA UL uc := by
              rcases HV2.out with ⟨_, rfl⟩ | ⟨b, c', rfl, _⟩
              · exact ⟨_, _, _, rfl⟩
              · exact ⟨_, _, _, rfl⟩
            have HUS : Hid (∀ ob, Sl1 (w2.alloc ob) (fun q' => q' < w2.heap.size) (.slice UA UL uc) pp) := Lib.hid fun ob => HV2.out.keep (fun q' h => h.2) fun pp' hp => ((Below.refl w2.heap.size w2).alloc (Nat.le_refl _) ob).cell hp.2
            have hs2 := HU2.out.size
            go_wp2_with (at_builtin; refine wpList_tail rfl _ _ rfl w2.heap.size (by simp) (k : Int) rfl (own_one w2 k) (fun q' => q' < w2.heap.size) _ pp rfl (HUS.out _) (by omega) ?_; intro v5 w5 hown5 hgrow5 hat5; obtain ⟨g5, cap5, hv5, _, _⟩ := hown5.form (by simp); subst hv5; have HOWN5 := Lib.hid hown5; have HB5 : Hid (Below w2.heap.size w2 w5) := Lib.hid (((Below.refl w2.heap.size w2).alloc (Nat.le_refl _) _).grown hgrow5 (by simp) (fun k' hk' => by injection hk' with hk'; omega)); clear hown5 hgrow5 hat5)
            go_ret2
            have HF : fiF 0 ks = some ((k : Int) :: pp) := by
              rw [HKS.out, HAP.out, HFD.out]
              show fiF _ (.cons y l r) = _
              rw [fiF_cons, HQ.out, HK1.out, Int.zero_add]
            have hRv : R = some ((k : Int) :: pp) := HR.out.trans HF
            have hu5 : Up w w5 := (HUP.out.trans HU2.out).trans HB5.out
            refine ⟨_, by rw [hRv]; rfl, ?_, hu5⟩
            rw [hRv]
            exact Sl1.made HOWN5.out (by simp) fun g hg => by
              have := HOWN5.out.lt g hg
              exact ⟨by omega, this.2⟩
        · have h0 : rest = .nil := by
            cases rest with
            | nil => rfl
            | cons y l r => exact absurd (Nat.succ_pos _) hlt
          subst h0
          have c4r := (Below.cell HUP.out hqw).trans HC4.out
          have hl' : N = done.len := by simpa [Fr.len] using hl
          have hkz : ¬ (k : Int) < (N : Int) := by omega
          have hqr : q < wr.heap.size := by omega
          clear hkid hks hk hl hl' hs hsz
          go_wp2_with fail
          go_ret2
          exact fip_none (by rw [HR.out, HKS.out, Fr.app_nil]; exact HFD.out) HUP.out
end Go.Proofs.YtofgniceilbpaaaDoor
namespace Go.Proofs.YtofgniceilbpaaaDoor
open Go.RowKit

theorem rSameL (o o' : Option Tr) {W w : World} {v v' : Value} (h : HasT W v o) (h' : HasT W v' o') (hz : szO o ≤ 1000000) (b : Bool) (hb : b = true ↔ o = o') (u : Up W w) :
    Calls Tryd.prog 11 #[v, v'] w (BoP b W) :=
  (refSameO o o' w _ _ v v' (h.up u) (h'.up u) (by omega) b hb).mono fun _ _ k => by obtain ⟨k1, q, rfl⟩ := k; exact ⟨k1, u.drewN q⟩
def StP3 (R : Option Tr × Bool × Int) (W : World) (e : Ending) (w' : World) : Prop := ∃ v, e = .returned (.tuple #[v, .bool R.2.1, .int .i64 R.2.2]) ∧ HasT w' v R.1 ∧ Up W w'
theorem stp3_none {R : Option Tr × Bool × Int} {z : Int} {W w' : World} (h : R = (none, false, z)) (u : Up W w') : StP3 R W (.returned (.tuple #[.pointer none, .bool false, .int .i64 z])) w' := ⟨_, by rw [h], by rw [h]; rfl, u⟩
set_option maxHeartbeats 12800000 in
set_option maxRecDepth 100000 in
theorem refStep (o : Option Tr) {w : World} {v : Value} (h : HasT w v o) (hz : szO o ≤ 1000000) : Calls Tryd.prog 10 #[v] w (StP3 (stR o) w) := by
  have cC := refCheck o h (by omega)
  have bad : ∀ E, ckE o = E → E ≠ 0 → stR o = (none, false, E) → Calls Tryd.prog 10 #[v] w (StP3 (stR o) w) := by
    intro E hE h0 hR
    have HR := Lib.hid hR
    rw [hE] at cC
    have h1 : (E != 0) = true := by rw [bne_iff_ne]; exact h0
    clear h hz hE hR
    go_enter Tryd.func10, Tryd.ntmps10
    go_wp2_with fail
    refine cC.mono ?_
    rintro e w' ⟨rfl, q1, rfl⟩
    go_wp2_with fail
    go_ret3
    exact stp3_none HR.out ((Up.refl _).drewN _)
  cases o with
  | none => exact bad 1 rfl (by decide) rfl
  | some t =>
    rcases st_cases t with ⟨h0, h1⟩ | ⟨h0, hf, h1⟩ | ⟨h0, p, u, b, a, hf, ha, huc, hur, hb, hcb, hca, hzb, hza, h5⟩
    · exact bad _ rfl h0 h1
    · have HR := Lib.hid h1
      have hz : szT t ≤ 1000000 := hz
      have cF := fun m => refFirst (szT t) (by omega) t (Nat.le_refl _) (co_apkT (ck_co h0)) (w.drewN m) _ v (HasT.bel (w := w)) (InT.drew (t := t) h m)
      rw [hf] at cF
      rw [h0] at cC
      clear bad h hz h0 hf h1
      go_enter Tryd.func10, Tryd.ntmps10
      go_wp2_with fail
      refine cC.mono ?_
      rintro e w' ⟨rfl, q1, rfl⟩
      go_wp2_with fail
      refine (cF _).mono ?_
      rintro e w' ⟨v', rfl, -, u'⟩
      have U' := Lib.hid (((Up.refl w).drewN q1).trans u')
      clear u' cC cF
      go_wp2_with fail
      go_ret3
      exact stp3_none HR.out U'.out
    · have hz : szT t ≤ 1000000 := hz
      have hz1 : szT t ≤ 65536 := by
        obtain ⟨_, e, h2, _⟩ := ckE_ok h0
        injection e with e
        subst e
        exact h2
      have cF := fun m => refFirst (szT t) (by omega) t (Nat.le_refl _) (co_apkT (ck_co h0)) (w.drewN m) _ v (HasT.bel (w := w)) (InT.drew (t := t) h m)
      rw [hf] at cF
      rw [h0] at cC
      have hpl := fiT_len hf
      have hus := at_sz p t u ha
      obtain ⟨y, l, z, zk, b1, bk, a1, ak, hu2, h2, h3, rfl, hy⟩ := beta_of huc hur
      have hbb : b = (b1, bk) ∧ a = (a1, ak) := by
        unfold betaO at hb
        rw [hu2] at hb
        injection hb with hb
        injection hb with hb1 hb2
        exact ⟨hb1.symm, hb2.symm⟩
      obtain ⟨rfl, rfl⟩ := hbb
      have HA := Lib.hid ha
      have HAO := Lib.hid (at_yes ha)
      have HT := Lib.hid (show HasT w v (some t) from h)
      have HU2 := Lib.hid hu2
      have HW : Hid (∀ (W : World) (S : Nat → Prop) (sv pv : Value) (m : Tr), Up w W → InT W S sv m → Bel S W.heap.size → Sp W W.heap.size pv p → Calls Tryd.prog 26 #[v, pv, sv] W (WiPost (withT t p m) (fun q => q < W.heap.size) W)) := Lib.hid fun W S sv pv m hu hs hb hp => refWith p t m u ha (by omega) (by omega) W _ W.heap.size v pv sv HasT.bel (HasT.up (o := some t) h hu) (HasT.of (o := some m) hs hb) hp (Nat.le_refl _)
      have H5 := Lib.hid h5
      have hl9 : p.length ≤ 1000000 := by omega
      have hub : szT u ≤ 65536 := by omega
      obtain ⟨x, us⟩ := u
      have hu2 : us = .cons y (.cons z zk (.cons b1 bk .nil)) (.cons a1 ak .nil) := hu2
      subst hu2
      clear bad h hz h0 hf h5 hb ha hpl hus h2 h3 hy huc hur
      go_enter Tryd.func10, Tryd.ntmps10
      go_wp2_with fail
      refine cC.mono ?_
      rintro e w' ⟨rfl, q1, rfl⟩
      go_wp2_with fail
      refine (cF _).mono ?_
      rintro e w1 ⟨v1, rfl, hv1, u1⟩
      have hsp : Sp w1 w1.heap.size v1 p := hv1.sp fun q hq => hq.2
      have U1 := Lib.hid (((Up.refl w).drewN q1).trans u1)
      clear u1 cC cF hv1
      have SP1 := Lib.hid hsp
      have cA := rAt (some t) p (HT.out.up U1.out) hsp hl9 (by show szT t ≤ 65536; omega) (Up.refl w1)
      rw [HAO.out.1, HAO.out.2] at cA
      clear hsp
      go_wp2_with fail
      refine cA.mono ?_
      rintro e w2 ⟨v2, rfl, hv2, u2⟩
      have U2 := Lib.hid (U1.out.trans u2)
      have SP2 := Lib.hid (SP1.out.up u2)
      have hv2 : InT w2 (fun q => q < w2.heap.size) v2 (x, .cons y (.cons z zk (.cons b1 bk .nil)) (.cons a1 ak .nil)) := hv2
      obtain ⟨qr, pr, A, cc, rfl, hqr, c0, c1, c2, c3, c4, hc, hkid⟩ := hv2.open
      obtain ⟨kb, ko, vy, va, rfl, d0, d1, hy, hva, hkb⟩ := hkid.two
      obtain ⟨qy, py, Ay, cy, rfl, hqy, e0, e1, e2, e3, e4, hcy, hky⟩ := hy.open
      obtain ⟨kb2, ko2, vz, vb, rfl, f0, f1, hz2, hvb, hkb2⟩ := hky.two
      have CS0 : ∀ W, Up w2 W → Calls Tryd.prog 25 #[vb, .int .i64 0, va] W (ErP (sbR 0 (some (b1, bk)) (some (a1, ak))) W) := fun W u => refSubst (some (b1, bk)) (some (a1, ak)) 0 HasT.bel (HasT.up (o := some (b1, bk)) hvb u) (by show szT (b1, bk) ≤ _; omega) (HasT.up (o := some (a1, ak)) hva u) (by show szT (a1, ak) ≤ _; omega)
      obtain ⟨qb, pb, rfl⟩ := hvb.ptr
      obtain ⟨qa, pa, rfl⟩ := hva.ptr
      clear u2 hv2 hkid hy hva hvb hky hz2 cA c0 c1 c2 c3 e0 e1 e2 e3 f0 hc hcy hqr hkb hqy hkb2 hza hzb hub hl9
      have hl1 : (Fr.cons y (.cons z zk (.cons b1 bk .nil)) (.cons a1 ak .nil)).len = 2 := rfl
      have hl2 : (Fr.cons z zk (.cons b1 bk .nil)).len = 2 := rfl
      rw [hl1] at c4
      rw [hl2] at e4
      rcases H5.out with ⟨m, hs, hR⟩ | ⟨e9, he9, hs, hR⟩
      · rw [hs] at CS0
        have CS := Lib.hid CS0
        have HR := Lib.hid hR
        clear CS0 hs hR H5
        go_wp2_with fail
        go_region_held3 (fun w' => w'.cell? ⟨qr, pr + 4, none⟩ = some (.slice (some ⟨kb, ko, none⟩) 2 cc) ∧ w'.cell? ⟨kb, ko, none⟩ = some (.pointer (some ⟨qy, py, none⟩)) ∧ w'.cell? ⟨kb, ko + 1, none⟩ = some (.pointer (some ⟨qa, pa, none⟩)) ∧ w'.cell? ⟨qy, py + 4, none⟩ = some (.slice (some ⟨kb2, ko2, none⟩) 2 cy) ∧ w'.cell? ⟨kb2, ko2 + 1, none⟩ = some (.pointer (some ⟨qb, pb, none⟩))) (first | go_keep | (refine ⟨?_, ?_, ?_, ?_, ?_⟩ <;> assumption)) (first
          | (go_at_call 25; refine Calls.mono (CS.out _ (by first | exact Below.refl _ _ | exact below_drewN' (Below.refl _ _) 1)) ?_; rintro e3 w3 ⟨v3, he3, u3, h3⟩; dsimp only at he3; subst he3; have n1 := u3.cell c4; have n2 := u3.cell d0; have n3 := u3.cell d1; have n4 := u3.cell e4; have n5 := u3.cell f1))
        have U3 := Lib.hid (U2.out.trans (((Up.refl w2).drewN 1).trans u3))
        have SP3 := Lib.hid (SP2.out.up (((Up.refl w2).drewN 1).trans u3))
        have H3 : Hid (HasT w3 v3 (some m)) := Lib.hid (NwO.has h3)
        have cW := HW.out w3 _ v3 v1 m U3.out H3.out HasT.bel SP3.out
        clear n1 n2 n3 n4 n5 u3 h3 c4 d0 d1 e4 f1
        go_wp2_with fail
        refine cW.mono ?_
        rintro e w4 ⟨v4, rfl, h4, u4⟩
        have U4 := Lib.hid (U3.out.of u4)
        have H4 : Hid (HasT w4 v4 (some (withT t p m))) := Lib.hid (HasT.of (o := some (withT t p m)) h4 (sin_bel' HasT.bel u4.size))
        clear h4 u4 cW
        go_wp2_with fail
        go_ret3
        exact ⟨v4, by rw [HR.out]; rfl, by rw [HR.out]; exact H4.out, U4.out⟩
      · rw [hs] at CS0
        have CS := Lib.hid CS0
        have HR := Lib.hid hR
        have h9 : (e9 != 0) = true := by rw [bne_iff_ne]; exact he9
        clear CS0 hs hR H5
        go_wp2_with fail
        go_region_held3 (fun w' => w'.cell? ⟨qr, pr + 4, none⟩ = some (.slice (some ⟨kb, ko, none⟩) 2 cc) ∧ w'.cell? ⟨kb, ko, none⟩ = some (.pointer (some ⟨qy, py, none⟩)) ∧ w'.cell? ⟨kb, ko + 1, none⟩ = some (.pointer (some ⟨qa, pa, none⟩)) ∧ w'.cell? ⟨qy, py + 4, none⟩ = some (.slice (some ⟨kb2, ko2, none⟩) 2 cy) ∧ w'.cell? ⟨kb2, ko2 + 1, none⟩ = some (.pointer (some ⟨qb, pb, none⟩))) (first | go_keep | (refine ⟨?_, ?_, ?_, ?_, ?_⟩ <;> assumption)) (first
          | (go_at_call 25; refine Calls.mono (CS.out _ (by first | exact Below.refl _ _ | exact below_drewN' (Below.refl _ _) 1)) ?_; rintro e3 w3 ⟨v3, he3, u3, h3⟩; dsimp only at he3; subst he3; have n1 := u3.cell c4; have n2 := u3.cell d0; have n3 := u3.cell d1; have n4 := u3.cell e4; have n5 := u3.cell f1))
        have U3 := Lib.hid (U2.out.trans (((Up.refl w2).drewN 1).trans u3))
        clear n1 n2 n3 n4 n5 u3 h3 c4 d0 d1 e4 f1
        go_wp2_with fail
        go_ret3
        exact stp3_none HR.out U3.out
def TeP (R : Option Tr × Int) (W : World) (e : Ending) (w' : World) : Prop := ∃ v, e = .returned (.tuple #[v, .int .i64 R.2]) ∧ HasT w' v R.1 ∧ Up W w'
theorem tep_none {R : Option Tr × Int} {z : Int} {W w' : World} (h : R = (none, z)) (u : Up W w') : TeP R W (.returned (.tuple #[.pointer none, .int .i64 z])) w' := ⟨_, by rw [h], by rw [h]; rfl, u⟩
theorem st_sz {t m : Tr} (h : stR (some t) = (some m, true, 0)) : szT t ≤ 65536 ∧ szT m ≤ 131072 := by
  rcases st_cases t with ⟨_, h1⟩ | ⟨_, _, h1⟩ | ⟨h0, p, u, b, a, hf, ha, _, _, _, _, _, _, _, ⟨s, h5, h1⟩ | ⟨e, _, _, h1⟩⟩
  · rw [h1] at h; cases h
  · rw [h1] at h; cases h
  · rw [h1] at h
    injection h with h _
    injection h with h
    have h2 := with_sz p t s u ha
    have h3 := (sb_szm h5)
    obtain ⟨_, e, h4, _⟩ := ckE_ok h0
    injection e with e
    subst e
    rw [← h]
    omega
  · rw [h1] at h; cases h
def EqP (o p : Option Tr) (W : World) (e : Ending) (w' : World) : Prop := ∃ b z, e = .returned (.tuple #[.bool b, .int .i64 z]) ∧ EqR o p b z ∧ Up W w'
theorem nf_sz {m : Tr} (h : stR (some m) = (none, false, 0)) : szT m ≤ 65536 := by
  obtain ⟨_, e, h4, _⟩ := ckE_ok (st_ck h)
  injection e with e
  subst e
  exact h4
end Go.Proofs.YtofgniceilbpaaaDoor
namespace Go.Proofs.YtofgniceilbpaaaDoor
open Go.RowKit

def ErU (R : Option Tr × Int) (W : World) (e : Ending) (w' : World) : Prop := ∃ v, e = .returned (.tuple #[v, .int .i64 R.2]) ∧ Up W w' ∧ HasT w' v R.1
theorem ErH.u {R : Option Tr × Int} {W w' : World} {e : Ending} (h : ErH R W e w') : ErU R W e w' := by
  obtain ⟨v, h1, h2, h3⟩ := h
  exact ⟨v, h1, h3, h2⟩
structure CtS (W : World) : Prop where
  check : ∀ (w : World) (o : Option Tr) (v : Value), HasT w v o → szO o ≤ 65536 → Calls Tryd.prog 18 #[v] w (InP (ckE o) w)
  text : ∀ (w : World) (o : Option Tr) (v : Value), Up W w → HasT w v o → szO o ≤ 65536 → Calls Tryd.prog 27 #[v] w (StP (swR o) w)
  subst : ∀ (w : World) (o p : Option Tr) (v u : Value) (i : Int), HasT w v o → szO o ≤ 65536 → HasT w u p → szO p ≤ 65536 → Calls Tryd.prog 19 #[v, .int .i64 i, u] w (ErU (sbR i o p) w)
theorem hasT_nw {w : World} {v : Value} {t : Tr} : HasT w v (some t) ↔ NwT (default : World) w v t :=
  ⟨fun h => InT.keep (t := t) h (fun _ hq => ⟨Nat.zero_le _, hq⟩) fun _ _ => rfl, fun h => NwT.has h⟩
theorem two_has {w : World} {va vb : Value} {a b : Tr} (k : Int) (ha : HasT w va (some a)) (hb : HasT w vb (some b)) :
    HasT ((w.alloc (.cells #[va, vb] 25)).alloc (.cells #[.int .i64 k, .int .i64 0, .string ⟨#[]⟩, .string ⟨#[]⟩, .slice (some ⟨w.heap.size, 0, none⟩) 2 2] 47)) (.pointer (some ⟨w.heap.size + 1, 0, none⟩)) (some (⟨k, 0, ⟨#[]⟩, ⟨#[]⟩⟩, .cons a.1 a.2 (.cons b.1 b.2 .nil))) :=
  hasT_nw.2 (two_hasN (Nat.zero_le _) (hasT_nw.1 ha) (hasT_nw.1 hb))
theorem leaf_has {w : World} (k : Int) : HasT (w.alloc (.cells #[.int .i64 k, .int .i64 0, .string ⟨#[]⟩, .string ⟨#[]⟩, .slice none 0 0] 47)) (.pointer (some ⟨w.heap.size, 0, none⟩)) (some (⟨k, 0, ⟨#[]⟩, ⟨#[]⟩⟩, .nil)) :=
  hasT_nw.2 (leaf_hasN (W := default) (x := ⟨k, 0, ⟨#[]⟩, ⟨#[]⟩⟩) (Nat.zero_le _))
def lfT (k : Int) : Tr := (⟨k, 0, ⟨#[]⟩, ⟨#[]⟩⟩, .nil)
def twT (k : Int) (a b : Tr) : Tr := (⟨k, 0, ⟨#[]⟩, ⟨#[]⟩⟩, .cons a.1 a.2 (.cons b.1 b.2 .nil))
def ex11 : Tr := twT 120 (twT 119 (lfT 100) (twT 114 (lfT 110) (lfT 110))) (lfT 111)
structure NmAll : Prop where
  step : ∀ (w : World) (o : Option Tr) (v : Value), HasT w v o → szO o ≤ 65536 → Calls Tryd.prog 9 #[v] w (StP3 (stR o) w)
  ex : ∀ (w : World) (v : Value), HasT w v (some ex11) → Calls Tryd.prog 13 #[v] w (TeP (nmR (some ex11)) w)
structure NmTwo : Prop where
  normal : ∀ (w : World) (o : Option Tr) (v : Value), HasT w v o → szO o ≤ 65536 → Calls Tryd.prog 13 #[v] w (TeP (nmR o) w)
  equal : ∀ (w : World) (o p : Option Tr) (v u : Value), HasT w v o → szO o ≤ 65536 → HasT w u p → szO p ≤ 65536 → Calls Tryd.prog 15 #[v, u] w (EqP o p w)
theorem ex11_nm : nmR (some ex11) = (some (twT 114 (lfT 111) (lfT 111)), 0) := by kernel_rfl
theorem ex11_sw : swR (some (twT 114 (lfT 111) (lfT 111))) = ⟨#[40, 32, 105, 110, 116, 32, 45, 62, 32, 105, 110, 116, 32, 41]⟩ := by kernel_rfl
theorem HasT.next {w : World} {v : Value} {o : Option Tr} (h : HasT w v o) (b : Obj) : HasT (w.alloc b) v o := h.up ((Up.refl _).alloc _)
set_option maxHeartbeats 3200000 in
set_option maxRecDepth 100000 in
theorem works11 {W : World} (ct : CtS W) (nm : NmAll) {w : World} (hu : Up W w) : Calls Tryd.prog 12 #[] w (BoP true W) := by
  have HU := Lib.hid hu
  have CT := Lib.hid ct
  have NM := Lib.hid nm
  clear hu ct nm
  go_enter Tryd.func12, Tryd.ntmps12
  go_wp2_with fail
  have h1 := leaf_has (w := w) 110
  have h2 := leaf_has (w := w.alloc (.cells #[.int .i64 110, .int .i64 0, .string ⟨#[]⟩, .string ⟨#[]⟩, .slice none 0 0] 47)) 100
  have h3 := two_has 114 (w := World.alloc _ (.cells #[.int .i64 100, .int .i64 0, .string ⟨#[]⟩, .string ⟨#[]⟩, .slice none 0 0] 47)) (h1.next _) (h1.next _)
  have h4 := two_has 119 ((h2.next _).next _) h3
  have h6 := two_has 120 (h4.next _) (leaf_has 111)
  simp only [World.size_alloc] at h6
  have c1 := NM.out.ex _ _ h6
  rw [ex11_nm] at c1
  refine c1.mono ?_
  rintro e w1 ⟨v1, rfl, t1, u1⟩
  have U1 := Lib.hid (HU.out.trans (Up.trans (by repeat (first | exact Up.refl _ | refine Up.alloc ?_ _)) u1))
  have c2 := Lib.hid (CT.out.text w1 _ v1 U1.out t1 (by decide))
  clear u1 c1 h1 h2 h3 h4 h6
  go_wp2_with fail
  refine c2.out.mono ?_
  rintro e w2 ⟨rfl, u2⟩
  rw [ex11_sw]
  go_wp2_with fail
  go_ret
  exact bopU rfl (U1.out.trans u2)
end Go.Proofs.YtofgniceilbpaaaDoor
