/-
  Layer 11, the program's side: plain: a step makes a constructor; where a path leads.
-/
import Derived.Test.YtmiicfdigkkbdaaDoorGt21
import Derived.Test.YtmiicfdigkkbdaaDoorGt29
namespace Go.Proofs.YtmiicfdigkkbdaaDoor
open Go.RowKit

theorem kd_fiT {t : Tr} (h : kdT t = true) : fiT t = none := by
  have h1 := kd_fi (f := .cons t.1 t.2 .nil) (i := 0) (by rw [kdF_cons, show kdT (t.1, t.2) = true from h]; rfl)
  rw [fiF_cons, show ((t.1, t.2) : Tr) = t from rfl] at h1
  cases hq : fiT t with
  | none => rfl
  | some p => rw [hq] at h1; cases h1
theorem coT_kids {x : Nod} {k k' : Fr} (hl : k'.len = k.len) (h0 : ∀ m, coF m k = true → coF m k' = true) (h1 : ∀ m rise pre, m ≠ 0 → m ≠ 1 → coF m k = true → lbF rise pre k' = lbF rise pre k) (hc : coT (x, k) = true) : coT (x, k') = true := by
  unfold coT at hc ⊢
  simp only at hc ⊢
  rw [hl]
  by_cases h110 : x.k = 110
  · rw [if_pos h110] at hc ⊢
    exact hc
  rw [if_neg h110, Bool.and_eq_true] at hc ⊢
  refine ⟨hc.1, ?_⟩
  replace hc := hc.2
  by_cases c1 : 111 ≤ x.k ∧ x.k ≤ 113
  · rw [if_pos c1] at hc ⊢; exact hc
  rw [if_neg c1] at hc ⊢
  by_cases c2 : x.k = 114 ∨ x.k = 120
  · rw [if_pos c2, Bool.and_eq_true] at hc ⊢; exact ⟨hc.1, h0 _ hc.2⟩
  rw [if_neg c2] at hc ⊢
  by_cases c3 : x.k = 115
  · rw [if_pos c3, Bool.and_eq_true] at hc ⊢
    exact ⟨by rw [h1 2 _ _ (by decide) (by decide) hc.2]; exact hc.1, h0 _ hc.2⟩
  rw [if_neg c3] at hc ⊢
  by_cases c4 : 117 ≤ x.k ∧ x.k ≤ 119
  · rw [if_pos c4, Bool.and_eq_true] at hc ⊢; exact ⟨hc.1, h0 _ hc.2⟩
  rw [if_neg c4] at hc ⊢
  by_cases c5 : x.k = 121
  · rw [if_pos c5] at hc ⊢
    simp only [Bool.and_eq_true] at hc ⊢
    exact ⟨hc.1, by rw [h1 3 _ _ (by decide) (by decide) hc.2.2]; exact hc.2.1, h0 _ hc.2.2⟩
  rw [if_neg c5] at hc
  cases hc
theorem coF_tail {m : Nat} {x : Nod} {k r : Fr} (h : coF m (.cons x k r) = true) : coF (if m = 1 then 0 else m) r = true := by
  unfold coF at h
  rw [Bool.and_eq_true] at h
  exact h.2
theorem coF_with {m : Nat} {x : Nod} {k r r' : Fr} (h : coF m (.cons x k r) = true) (hr : coF (if m = 1 then 0 else m) r' = true) : coF m (.cons x k r') = true := by
  unfold coF at h ⊢
  rw [Bool.and_eq_true] at h ⊢
  exact ⟨h.1, hr⟩
theorem getZ_j {f : Fr} {j : Nat} {t : Tr} (h : f.get j = some t) : getZ f (0 + (j : Int)) = some t := by
  unfold getZ
  rw [if_neg (by omega), show (0 + (j : Int)).toNat = j by omega]
  exact h
theorem fi_co {s : Tr} (hs : coT s = true) {f : Fr} : ∀ {i : Int} {p : List Int}, fiF i f = some p → ∃ (j : Nat) (q : List Int) (t : Tr), p = (i + j) :: q ∧ f.get j = some t ∧ fiT t = some q ∧ (f.set j (withT t q s)).len = f.len ∧
    (∀ m, coF m f = true → coF m (f.set j (withT t q s)) = true) ∧ (∀ m rise pre, m ≠ 0 → m ≠ 1 → coF m f = true → lbF rise pre (f.set j (withT t q s)) = lbF rise pre f) := by
  induction f with
  | nil => intro i p h; cases h
  | cons x k r ihk ihr =>
    intro i p h
    rw [fiF_cons] at h
    cases hq : fiT (x, k) with
    | none =>
      rw [hq] at h
      obtain ⟨j, q, t, h1, h2, h3, h4, h5, h6⟩ := ihr h
      refine ⟨j + 1, q, t, by rw [h1]; congr 1; omega, h2, h3, by show (r.set j _).len + 1 = r.len + 1; rw [h4], fun m hc => ?_, fun m rise pre n0 n1 hc => ?_⟩
      · exact coF_with hc (h5 _ (coF_tail hc))
      · show (_ && lbF rise (pre ++ [x.a]) (r.set j _)) = (_ && lbF rise (pre ++ [x.a]) r)
        have ht := coF_tail hc
        rw [if_neg n1] at ht
        rw [h6 m _ _ n0 n1 ht]
    | some q =>
      rw [hq] at h
      injection h with h
      have hlen : ((Fr.cons x k r).set 0 (withT (x, k) q s)).len = (Fr.cons x k r).len := rfl
      refine ⟨0, q, (x, k), by rw [← h]; congr 1; omega, rfl, hq, hlen, ?_⟩
      unfold fiT at hq
      by_cases hb : rdxB x k = true
      · rw [if_pos hb] at hq
        injection hq with hq
        subst hq
        have hk : x.k = 120 := by
          unfold rdxB at hb
          rw [Bool.and_eq_true, beq_iff_eq] at hb
          exact hb.1
        refine ⟨fun m hc => ?_, fun m rise pre n0 n1 hc => ?_⟩
        · by_cases hm0 : m = 0
          · subst hm0
            rw [coF_0, Bool.and_eq_true] at hc
            show coF 0 (.cons s.1 s.2 r) = true
            rw [coF_0, Bool.and_eq_true]
            exact ⟨hs, hc.2⟩
          · exfalso
            by_cases hm1 : m = 1
            · subst hm1
              rw [coF_1, Bool.and_eq_true] at hc
              have := kdT_k hc.1
              omega
            · rw [coF_f hm0 hm1, Bool.and_eq_true] at hc
              have := fdT_k hc.1
              omega
        · exfalso
          rw [coF_f n0 n1, Bool.and_eq_true] at hc
          have := fdT_k hc.1
          omega
      · rw [if_neg hb] at hq
        obtain ⟨j, q', t, h1, h2, h3, h4, h5, h6⟩ := ihk hq
        have hw : withT (x, k) q s = (x, k.set j (withT t q' s)) := by
          rw [h1, withT_some q' s (u := t) (getZ_j h2), show (0 + (j : Int)).toNat = j by omega]
        rw [hw]
        refine ⟨fun m hc => ?_, fun m rise pre n0 n1 hc => rfl⟩
        show coF m (.cons x (k.set j (withT t q' s)) r) = true
        by_cases hm0 : m = 0
        · subst hm0
          rw [coF_0, Bool.and_eq_true] at hc ⊢
          exact ⟨coT_kids h4 h5 h6 hc.1, hc.2⟩
        · by_cases hm1 : m = 1
          · exfalso
            subst hm1
            rw [coF_1, Bool.and_eq_true] at hc
            have h7 := kd_fiT hc.1
            unfold fiT at h7
            rw [if_neg hb, hq] at h7
            cases h7
          · rw [coF_f hm0 hm1, Bool.and_eq_true] at hc ⊢
            refine ⟨?_, hc.2⟩
            have h7 := hc.1
            unfold fdT at h7 ⊢
            simp only [Bool.and_eq_true] at h7 ⊢
            exact ⟨h7.1, h7.2.1, h7.2.2.1, by rw [h4]; exact h7.2.2.2.1, h5 _ h7.2.2.2.2⟩
theorem fiT_co {t s : Tr} {p : List Int} (hc : coT t = true) (hs : coT s = true) (h : fiT t = some p) : coT (withT t p s) = true := by
  obtain ⟨x, k⟩ := t
  unfold fiT at h
  split at h
  · injection h with h
    subst h
    exact hs
  · obtain ⟨j, q, t, h1, h2, _, h4, h5, h6⟩ := fi_co hs h
    rw [h1, withT_some q s (u := t) (getZ_j h2), show (0 + (j : Int)).toNat = j by omega]
    exact coT_kids h4 h5 h6 hc
theorem st_co {t m : Tr} (h : stR (some t) = (some m, true, 0)) : coT m = true := by
  rcases st_cases t with ⟨_, h1⟩ | ⟨_, _, h1⟩ | ⟨h0, p, u, b, a, hf, ha, _, _, _, hb1, ha1, _, _, ⟨s, h5, h1⟩ | ⟨e, _, _, h1⟩⟩
  · rw [h1] at h; cases h
  · rw [h1] at h; cases h
  · rw [h1] at h
    injection h with h _
    injection h with h
    subst h
    obtain ⟨k1, _, k3⟩ := sb_pt h5
    exact fiT_co (ck_co h0) (ptT_co k3 ha1 k1 hb1) hf
  · rw [h1] at h; cases h
theorem st_ckm {t m : Tr} (h : stR (some t) = (some m, true, 0)) : (szT m ≤ 65536 ∧ ckE (some m) = 0) ∨ (65536 < szT m ∧ ckE (some m) = 3) := by
  have hc := st_co h
  by_cases hz : szT m ≤ 65536
  · exact .inl ⟨hz, ckE_of hz hc⟩
  · refine .inr ⟨by omega, ?_⟩
    unfold ckE
    simp only
    rw [if_neg hz]

/-! ### where a path leads -/
def Ld (w : World) : List Int → Value → Value → Prop
  | [], v, u => v = u
  | i :: p, v, u => ∃ q o kb ko n c x, v = .pointer (some ⟨q, o, none⟩) ∧ w.cell? ⟨q, o + 4, none⟩ = some (.slice (some ⟨kb, ko, none⟩) n c) ∧ 0 ≤ i ∧ w.cell? ⟨kb, ko + i.toNat, none⟩ = some x ∧ Ld w p x u
theorem Ld.up {W w : World} (hu : Up W w) : ∀ {p : List Int} {v u : Value}, Ld W p v u → Ld w p v u
  | [], _, _, h => h
  | _ :: _, _, _, ⟨q, o, kb, ko, n, c, x, h1, h2, h3, h4, h5⟩ => ⟨q, o, kb, ko, n, c, x, h1, hu.cell h2, h3, hu.cell h4, Ld.up hu h5⟩
theorem Kid.at0 {w : World} {S : Nat → Prop} {A : Option Addr} {f : Fr} {j : Nat} {t : Tr} (h : Kid w S A f 0) (hg : f.get j = some t) : ∃ kb ko v, A = some ⟨kb, ko, none⟩ ∧ S kb ∧ w.cell? ⟨kb, ko + j, none⟩ = some v ∧ InT w S v t := by
  obtain ⟨us, h1, h2⟩ := h.vals2
  obtain ⟨v, hv, ht⟩ := h1.at hg
  obtain ⟨kb, ko, hA, hk, hc⟩ := h2 (by have := Fr.get_lt hg; omega)
  exact ⟨kb, ko, v, hA, hk, hc j v hv, ht⟩
theorem Ld.has {w : World} : ∀ {p : List Int} {v u : Value} {t s : Tr}, HasT w v (some t) → Ld w p v u → atT t p = some s → HasT w u (some s)
  | [], v, u, t, s, h, hl, ha => by
    have hl : v = u := hl
    subst hl
    have ha : some t = some s := ha
    injection ha with ha
    subst ha
    exact h
  | i :: p, v, u, (x, ks), s, h, ⟨q, o, kb, ko, n, c, y, h1, h2, h3, h4, h5⟩, ha => by
    obtain ⟨q', o', A, c', e1, _, _, _, _, _, d4, _, hkid⟩ := InT.open (x := x) (ks := ks) h
    rw [h1] at e1
    injection e1 with e1
    injection e1 with e1
    injection e1 with e1 e2
    subst e1 e2
    rw [h2] at d4
    injection d4 with d4
    injection d4 with d4 _ _
    cases hg : getZ ks i with
    | none => rw [atT_none p hg] at ha; cases ha
    | some t1 =>
      rw [atT_some p hg] at ha
      obtain ⟨_, hget⟩ := getZ_some hg
      obtain ⟨kb', ko', v', hA, _, hc', ht⟩ := hkid.at0 hget
      rw [← d4] at hA
      injection hA with hA
      injection hA with e3 e4
      subst e3 e4
      rw [h4] at hc'
      injection hc' with hc'
      subst hc'
      exact Ld.has (p := p) (t := t1) ht h5 ha
end Go.Proofs.YtmiicfdigkkbdaaDoor
namespace Go.Proofs.YtmiicfdigkkbdaaDoor
open Go.RowKit

def FsP (R : Option (List Int)) (v : Value) (W : World) (e : Ending) (w' : World) : Prop := ∃ u, e = .returned (.tuple #[u, .bool R.isSome]) ∧ (R = none → u = .pointer none) ∧ (∀ p, R = some p → Ld w' p v u) ∧ Up W w'
theorem fsp_none {R : Option (List Int)} {v : Value} {W w' : World} (h : R = none) (u : Up W w') : FsP R v W (.returned (.tuple #[.pointer none, .bool false])) w' := by
  refine ⟨_, by rw [h]; rfl, fun _ => rfl, ?_, u⟩
  intro p h'
  rw [h] at h'
  cases h'
theorem fsp_some {R : Option (List Int)} {p : List Int} {v x : Value} {W w' : World} (h : R = some p) (l : Ld w' p v x) (u : Up W w') : FsP R v W (.returned (.tuple #[x, .bool true])) w' := by
  refine ⟨_, by rw [h]; rfl, ?_, ?_, u⟩
  · intro h'
    rw [h] at h'
    cases h'
  · intro q h'
    rw [h] at h'
    injection h' with h'
    subst h'
    exact l
def FsAt (n : Nat) : Prop := ∀ (t : Tr), szT t ≤ n → apkT t → ∀ (w : World) (v : Value), HasT w v (some t) → Calls Tryd.prog 36 #[v] w (FsP (fiT t) v w)
set_option maxHeartbeats 12800000 in
set_option maxRecDepth 100000 in
theorem pFirst : ∀ (n : Nat), n ≤ 1000000000 → FsAt n
  | 0, _, t, h, _, _, _, _ => absurd h (by unfold szT; omega)
  | n + 1, hbig, (x, ks), hn, hv, w, v, hin => by
    have ih := pFirst n (by omega)
    have HIN := Lib.hid hin
    obtain ⟨q, p, A, cc, rfl, hqw, c0, c1, c2, c3, c4, hc, hkid⟩ := InT.open (x := x) (ks := ks) hin
    have hsz : szT (x, ks) = 1 + ks.sz := rfl
    have hll := Fr.len_le ks
    have HR0 : rdxB x ks = true → Hid (fiT (x, ks) = some []) := fun h => Lib.hid (by unfold fiT; rw [if_pos h])
    have HR1 : rdxB x ks = false → Hid (fiT (x, ks) = fiF 0 ks) := fun h => Lib.hid (by unfold fiT; rw [if_neg (by rw [h]; exact Bool.false_ne_true)])
    have HRX : Hid (rdxB x ks = (x.k == 120 && hdLam ks)) := Lib.hid rfl
    obtain ⟨R, hR⟩ : ∃ R, fiT (x, ks) = R := ⟨_, rfl⟩
    rw [hR] at HR0 HR1 ⊢
    obtain ⟨B, hB⟩ : ∃ B, rdxB x ks = B := ⟨_, rfl⟩
    rw [hB] at HR0 HR1 HRX
    obtain ⟨K, hK⟩ : ∃ K, x.k = K := ⟨_, rfl⟩
    rw [hK] at c0 HRX
    have hv1 : K = 120 → 0 < ks.len := by rw [← hK]; exact hv.1
    obtain ⟨N, hN⟩ : ∃ N, ks.len = N := ⟨_, rfl⟩
    rw [hN] at c4 hll hv1
    have hN1 : N ≤ 1000000000 := by omega
    have HK := Lib.hid hkid
    have HNN := Lib.hid hN
    have HSZ := Lib.hid (by omega : ks.sz ≤ n)
    have HIH := Lib.hid ih
    have HVK := Lib.hid hv.2
    have key : (¬ K = 120 ∧ B = false) ∨ (K = 120 ∧ 0 < N ∧ ∃ kb ko q' p' K2, A = some ⟨kb, ko, none⟩ ∧ w.cell? ⟨kb, ko, none⟩ = some (.pointer (some ⟨q', p', none⟩)) ∧ w.cell? ⟨q', p', none⟩ = some (.int .i64 K2) ∧ B = (K2 == 119)) := by
      by_cases e1 : K = 120
      · right
        have h0 := hv1 e1
        refine ⟨e1, h0, ?_⟩
        obtain ⟨y, l, r, rfl⟩ := Fr.cut (by omega : 0 < ks.len)
        obtain ⟨kb, ko, u, hA, hkb, hcell, hu, -⟩ := hkid.next
        obtain ⟨q', p', A', cc', rfl, hq', d0, _⟩ := hu.open
        refine ⟨kb, ko, q', p', y.k, hA, hcell, d0, ?_⟩
        rw [HRX.out, e1]
        rfl
      · left
        refine ⟨e1, ?_⟩
        rw [HRX.out, beq_eq_false_iff_ne.2 e1]
        rfl
    clear hin hkid ih hv hR hN hc hsz hn hK hB HRX hv1
    obtain ⟨AA, hAA⟩ : ∃ AA, AA = A := ⟨_, rfl⟩
    rw [← hAA] at HK
    have HAA := Lib.hid hAA
    clear hAA
    have fin : B = true ∨ (B = false ∧ (¬ K = 120 ∨ K = 120 ∧ 0 < N ∧ ∃ kb ko q' p' K2, A = some ⟨kb, ko, none⟩ ∧ w.cell? ⟨kb, ko, none⟩ = some (.pointer (some ⟨q', p', none⟩)) ∧ w.cell? ⟨q', p', none⟩ = some (.int .i64 K2) ∧ (K2 == 119) = false)) := by
      cases B with
      | true => exact .inl rfl
      | false =>
        right
        refine ⟨rfl, ?_⟩
        rcases key with ⟨e1, _⟩ | ⟨e1, h0, kb, ko, q', p', K2, h1, h2, h3, h4⟩
        · exact .inl e1
        · exact .inr ⟨e1, h0, kb, ko, q', p', K2, h1, h2, h3, h4.symm⟩
    rcases fin with rfl | ⟨rfl, fin⟩
    · rcases key with ⟨_, h⟩ | ⟨rfl, hN0, kb, ko, q', p', K2, rfl, d1, d0, hB⟩
      · cases h
      · have HR := HR0 rfl
        replace hB := beq_iff_eq.1 hB.symm
        subst hB
        clear HR0 HR1
        go_enter Tryd.func36, Tryd.ntmps36
        go_wp2_with fail
        go_ret2
        exact fsp_some HR.out rfl (Up.refl _)
    clear key
    have HR := HR1 rfl
    have HC4 := Lib.hid c4
    clear HR0 HR1
    rcases fin with e1 | ⟨rfl, hN0, kb, ko, q', p', K2, rfl, d1, d0, hB⟩
    all_goals
      go_enter Tryd.func36, Tryd.ntmps36
      go_wp2_with fail
      try clear d1 d0 hB
      clear c4 c0 c1 c2 c3
      go_loopw [5, 6, 7, 31] (fun _ _ _ j wr => ∃ (k : Nat) (done rest : Fr), j = .int .i64 k ∧ k = done.len ∧ ks = done.app rest ∧ Kid w (fun q => q < w.heap.size) AA rest k ∧ fiF 0 done = none ∧ Up w wr) (fun _ _ _ j _ => N - (intOf j).toNat)
      case atStart => exact ⟨0, .nil, ks, rfl, rfl, rfl, HK.out, rfl, Up.refl _⟩
      case round =>
        obtain ⟨k, done, rest, rfl, hk, hks, hkid, hfd, hup⟩ := hrel
        have hl : N = done.len + rest.len := by rw [← HNN.out, hks, Fr.len_app]
        have hs : ks.sz = done.sz + rest.sz := by rw [hks, Fr.sz_app]
        have hsz := HSZ.out
        have HKS := Lib.hid hks
        have HFD := Lib.hid hfd
        have HUP := Lib.hid hup
        clear hfd hup
        by_cases hlt : 0 < rest.len
        · obtain ⟨y, l, r, rfl⟩ := Fr.cut hlt
          obtain ⟨kb2, ko2, u, hA2, hkb, hcell, hu, hnext⟩ := hkid.next
          have c4r := HUP.out.cell HC4.out
          have HA2 := Lib.hid hA2
          have hA3 := HAA.out.symm.trans hA2
          first | subst hA3 | (injection hA3 with hA3; injection hA3 with e1 e2; have e1 := e1.symm; have e2 := e2.symm; subst e1 e2)
          have hcr := HUP.out.cell hcell
          have HCR := Lib.hid hcell
          have hyl : szT (y, l) = 1 + l.sz := rfl
          have hsr : (Fr.cons y l r).sz = 1 + l.sz + r.sz := rfl
          have hlr : (Fr.cons y l r).len = r.len + 1 := rfl
          have hvy : apkT (y, l) := by
            have h := HVK.out
            rw [HKS.out, Fr.apk_app] at h
            exact ⟨h.2.1, h.2.2.1⟩
          have cI := HIH.out (y, l) (by omega) hvy wr u (HasT.up (o := some (y, l)) hu HUP.out)
          have hkN : k < N := by omega
          have hkz : (k : Int) < (N : Int) := by omega
          have HK1 := Lib.hid hk
          have HN := Lib.hid hnext
          have HAP := Lib.hid (fiF_app done (.cons y l r) 0)
          have HAQ := Lib.hid (fiF_app done (.cons y l .nil) 0)
          obtain ⟨Q, hQ⟩ : ∃ Q, fiT (y, l) = Q := ⟨_, rfl⟩
          have HQ := Lib.hid hQ
          rw [hQ] at cI
          clear hkid hnext hu hks hk hl hs hlr hsr hsz hyl hvy hcell hQ hA2
          go_wp2_with fail
          refine cI.mono ?_
          rintro e w2 ⟨v2, rfl, hv2, hl2, u2⟩
          have HU2 := Lib.hid (HUP.out.trans u2)
          clear u2 cI
          cases Q with
          | none =>
            clear hl2 hv2
            go_wp2_with fail
            go_roundw
            case rel => exact ⟨k + 1, done.app (.cons y l .nil), r, by go_num, by rw [Fr.len_app, HK1.out]; rfl, by rw [HKS.out, Fr.app_cons], HN.out, by rw [HAQ.out, HFD.out]; show fiF _ (.cons y l .nil) = none; rw [fiF_cons, HQ.out]; rfl, HU2.out⟩
            case measure => simp [intOf]; omega
          | some pp =>
            have HL2 := Lib.hid (hl2 pp rfl)
            clear hl2 hv2
            go_wp2_with fail
            go_ret2
            have HF : fiF 0 ks = some ((k : Int) :: pp) := by
              rw [HKS.out, HAP.out, HFD.out]
              show fiF _ (.cons y l r) = _
              rw [fiF_cons, HQ.out, HK1.out, Int.zero_add]
            refine fsp_some (HR.out.trans HF) ⟨q, p, kb2, ko2, N, cc, u, rfl, ?_, by omega, ?_, HL2.out⟩ HU2.out
            · have h := HU2.out.cell HC4.out
              rw [← HAA.out, HA2.out] at h
              exact h
            · rw [Int.toNat_natCast]
              exact HU2.out.cell HCR.out
        · have h0 : rest = .nil := by
            cases rest with
            | nil => rfl
            | cons y l r => exact absurd (Nat.succ_pos _) hlt
          subst h0
          have c4r := HUP.out.cell HC4.out
          have hl' : N = done.len := by simpa [Fr.len] using hl
          have hkz : ¬ (k : Int) < (N : Int) := by omega
          clear hkid hks hk hl hl' hs hsz
          go_wp2_with fail
          go_ret2
          exact fsp_none (by rw [HR.out, HKS.out, Fr.app_nil]; exact HFD.out) HUP.out
end Go.Proofs.YtmiicfdigkkbdaaDoor
namespace Go.Proofs.YtmiicfdigkkbdaaDoor
open Go.RowKit

def PuP (R : Option Tr) (W : World) (e : Ending) (w' : World) : Prop := ∃ v, e = .returned (.tuple #[v, .bool R.isSome]) ∧ HasT w' v R ∧ Up W w'
theorem pup_none {R : Option Tr} {W w' : World} (h : R = none) (u : Up W w') : PuP R W (.returned (.tuple #[.pointer none, .bool false])) w' := ⟨_, by rw [h]; rfl, by rw [h]; rfl, u⟩
def rpT (m t : Tr) : Option Tr := match fiT t with
  | none => none
  | some p => some (withT t p m)
def PuAt (s m : Tr) (n : Nat) : Prop := ∀ (t : Tr), szT t ≤ n → ∀ (w : World) (v pv mv : Value), HasT w v (some t) → HasT w pv (some s) → HasT w mv (some m) → (∀ p, fiT t = some p → Ld w p v pv) →
  Calls Tryd.prog 65 #[v, pv, mv] w (PuP (rpT m t) w)
set_option maxHeartbeats 12800000 in
set_option maxRecDepth 100000 in
theorem pPut (s m : Tr) (hs : rdxB s.1 s.2 = true) : ∀ (n : Nat), n ≤ 1000000 → PuAt s m n
  | 0, _, t, h, _, _, _, _, _, _, _, _ => absurd h (by unfold szT; omega)
  | n + 1, hbig, (x, ks), hn, w, v, pv, mv, hin, hpv, hmv, hld => by
    have ih := pPut s m hs n (by omega)
    have HIN := Lib.hid hin
    have HPV := Lib.hid hpv
    have HMV := Lib.hid hmv
    have hpl := InT.open (x := x) (ks := ks) hin
    obtain ⟨qp, op, rfl⟩ := InT.ptr (t := s) hpv
    obtain ⟨qm, om, rfl⟩ := InT.ptr (t := m) hmv
    obtain ⟨q, p, A, cc, rfl, hqw, c0, c1, c2, c3, c4, hc, hkid⟩ := hpl
    have hsz : szT (x, ks) = 1 + ks.sz := rfl
    have hll := Fr.len_le ks
    by_cases hr : rdxB x ks = true
    · have hf : fiT (x, ks) = some [] := by unfold fiT; rw [if_pos hr]
      have hl : Value.pointer (some ⟨q, p, none⟩) = .pointer (some ⟨qp, op, none⟩) := hld _ hf
      injection hl with hl
      injection hl with hl
      injection hl with e1 e2
      subst e1 e2
      have HR : Hid (rpT m (x, ks) = some m) := Lib.hid (by unfold rpT; rw [hf]; rfl)
      have hps := ptr_same w ⟨q, p, none⟩
      clear hld ih hin hpv hmv hn c0 c1 c2 c3 c4 hc hkid
      go_enter Tryd.func65, Tryd.ntmps65
      go_wp2_with fail
      go_ret2
      exact ⟨_, by rw [HR.out]; rfl, by rw [HR.out]; exact HMV.out, Up.refl _⟩
    · have hf : fiT (x, ks) = fiF 0 ks := by unfold fiT; rw [if_neg hr]
      have hne : (⟨q, p, none⟩ : Addr) ≠ ⟨qp, op, none⟩ := fun e => by
        have e' : Value.pointer (some ⟨q, p, none⟩) = .pointer (some ⟨qp, op, none⟩) := by rw [e]
        have h1 : HasT w (.pointer (some ⟨q, p, none⟩)) (some s) := by rw [e']; exact hpv
        have h2 := InT.uniq (t := (x, ks)) (u := s) hin h1
        rw [← h2] at hs
        exact hr hs
      have hpo := ptr_other hne (InT.pln (t := (x, ks)) hin) (InT.pln (t := s) hpv)
      obtain ⟨us, hus, hA⟩ := hkid.vals2
      obtain ⟨N, hN⟩ : ∃ N, ks.len = N := ⟨_, rfl⟩
      have hul : us.length = N := by rw [hus.len, hN]
      rw [hN] at c4 hll hA
      have hN1 : N ≤ 1000000 := by omega
      have HUS := Lib.hid hus
      have HA := Lib.hid hA
      have HUL := Lib.hid hul
      have HNN := Lib.hid hN
      have HSZ := Lib.hid (by omega : ks.sz ≤ n)
      have HIH := Lib.hid ih
      have HF := Lib.hid hf
      have HLD := Lib.hid hld
      have HC0 := Lib.hid c0
      have HC1 := Lib.hid c1
      have HC2 := Lib.hid c2
      have HC3 := Lib.hid c3
      have HC4 := Lib.hid c4
      have HONE := Lib.hid hus.one
      have HKD : Hid (∀ (j : Nat) (y : Nod) (l : Fr), ks.get j = some (y, l) → ∃ kb ko q1 o1, A = some ⟨kb, ko, none⟩ ∧ us[j]? = some (.pointer (some ⟨q1, o1, none⟩)) ∧ w.cell? ⟨kb, ko + j, none⟩ = some (.pointer (some ⟨q1, o1, none⟩)) ∧ HasT w (.pointer (some ⟨q1, o1, none⟩)) (some (y, l))) := Lib.hid (by
        intro j y l hget
        obtain ⟨u, hu1, hu2⟩ := HUS.out.at hget
        obtain ⟨q1, o1, rfl⟩ := hu2.ptr
        obtain ⟨kb, ko, hAe, _, hcl⟩ := HA.out (by have h1 := Fr.get_lt hget; rw [HNN.out] at h1; omega)
        exact ⟨kb, ko, q1, o1, hAe, hu1, hcl j _ hu1, hu2⟩)
      clear ih hus hA hul hN hsz hn hin hpv hmv hkid hf hld hc
      go_enter Tryd.func65, Tryd.ntmps65
      go_wp2_with fail
      clear c0 c1 c2 c3 c4 hpo
      go_loopw [8, 9, 10, 11, 22] (fun _ _ _ _ j wr => ∃ (k : Nat) (done rest : Fr), j = .int .i64 k ∧ k = done.len ∧ ks = done.app rest ∧ fiF 0 done = none ∧ Up w wr) (fun _ _ _ _ j _ => N - (intOf j).toNat)
      case atStart => exact ⟨0, .nil, ks, rfl, rfl, rfl, rfl, Up.refl _⟩
      case round =>
        obtain ⟨k, done, rest, rfl, hk, hks, hfd, hup⟩ := hrel
        have hl : N = done.len + rest.len := by rw [← HNN.out, hks, Fr.len_app]
        have hs : ks.sz = done.sz + rest.sz := by rw [hks, Fr.sz_app]
        have hsz := HSZ.out
        have HKS := Lib.hid hks
        have HFD := Lib.hid hfd
        have HUP := Lib.hid hup
        clear hfd hup
        by_cases hlt : 0 < rest.len
        · obtain ⟨y, l, r, rfl⟩ := Fr.cut hlt
          have hyl : szT (y, l) = 1 + l.sz := rfl
          have hsr : (Fr.cons y l r).sz = 1 + l.sz + r.sz := rfl
          have hlr : (Fr.cons y l r).len = r.len + 1 := rfl
          have hget : ks.get k = some (y, l) := by rw [hks, hk, Fr.get_app]; rfl
          obtain ⟨kb, ko, q1, o1, hA, hus1, hcell, hut⟩ := HKD.out k y l hget
          have HAA := Lib.hid hA
          subst hA
          have hcr := HUP.out.cell hcell
          have HAP := Lib.hid (fiF_app done (.cons y l r) 0)
          have HAQ := Lib.hid (fiF_app done (.cons y l .nil) 0)
          have HK1 := Lib.hid hk
          have HFK : Hid (∀ pp, fiT (y, l) = some pp → fiT (x, ks) = some ((k : Int) :: pp)) := Lib.hid (fun pp hpp => by
            rw [HF.out, HKS.out, HAP.out, HFD.out]
            show fiF _ (.cons y l r) = _
            rw [fiF_cons, hpp, HK1.out, Int.zero_add])
          have cI := HIH.out (y, l) (by omega) wr _ _ _ (HasT.up hut HUP.out) (HPV.out.up HUP.out) (HMV.out.up HUP.out) (fun pp hpp => by
            obtain ⟨q', o', kb', ko', n', c', x', e1, e2, _, e4, e5⟩ := HLD.out _ (HFK.out pp hpp)
            injection e1 with e1
            injection e1 with e1
            injection e1 with e1 e3
            subst e1 e3
            rw [HC4.out] at e2
            injection e2 with e2
            injection e2 with e2 _ _
            injection e2 with e2
            injection e2 with e6 e7
            subst e6 e7
            rw [Int.toNat_natCast, hcell] at e4
            injection e4 with e4
            subst e4
            exact Ld.up HUP.out e5)
          have hkN : k < N := by omega
          have hkz : (k : Int) < (N : Int) := by omega
          have HUS1 := Lib.hid hus1
          have HGET := Lib.hid hget
          obtain ⟨Q, hQ⟩ : ∃ Q, fiT (y, l) = Q := ⟨_, rfl⟩
          have HQ := Lib.hid hQ
          have hrp : rpT m (y, l) = Q.map fun pp => withT (y, l) pp m := by unfold rpT; rw [hQ]; cases Q <;> rfl
          rw [hrp] at cI
          have HRP : Hid (∀ pp, Q = some pp → rpT m (x, ks) = some (x, ks.set k (withT (y, l) pp m))) := Lib.hid (fun pp hpp => by
            unfold rpT
            rw [HFK.out pp (HQ.out.trans hpp)]
            show some (withT (x, ks) ((k : Int) :: pp) m) = _
            rw [withT_some pp m (u := (y, l)) (by unfold getZ; rw [if_neg (by omega), Int.toNat_natCast]; exact HGET.out), Int.toNat_natCast])
          clear hks hk hl hs hlr hsr hsz hyl hcell hQ hut hrp hget hus1
          go_wp2_with fail
          refine cI.mono ?_
          rintro e w2 ⟨v2, rfl, hv2, u2⟩
          have HU2 := Lib.hid (HUP.out.trans u2)
          clear u2 cI
          cases Q with
          | none =>
            clear hv2
            go_wp2_with fail
            go_roundw
            case rel => exact ⟨k + 1, done.app (.cons y l .nil), r, by go_num, by rw [Fr.len_app, HK1.out]; rfl, by rw [HKS.out, Fr.app_cons], by rw [HAQ.out, HFD.out]; show fiF _ (.cons y l .nil) = none; rw [fiF_cons, HQ.out]; rfl, HU2.out⟩
            case measure => simp [intOf]; omega
          | some pp =>
            have hv2 : HasT w2 v2 (some (withT (y, l) pp m)) := hv2
            have HV2 := Lib.hid hv2
            have HR := Lib.hid (HRP.out pp rfl)
            obtain ⟨H, hH⟩ : ∃ H, w2.heap.size = H := ⟨_, rfl⟩
            have d0 := HU2.out.cell HC0.out
            have d1 := HU2.out.cell HC1.out
            have d2 := HU2.out.cell HC2.out
            have d3 := HU2.out.cell HC3.out
            have d4 := HU2.out.cell HC4.out
            have k4 : (w2.alloc (.cells #[.int .i64 x.k, .int .i64 x.n, .string x.a, .string x.m, .slice (some ⟨kb, ko, none⟩) N cc] 40)).cell? ⟨q, p + 4, none⟩ = some (.slice (some ⟨kb, ko, none⟩) N cc) := ((Up.refl w2).alloc _).cell d4
            have HH := Lib.hid hH
            obtain ⟨t2, ht2⟩ : ∃ t2, withT (y, l) pp m = t2 := ⟨_, rfl⟩
            rw [ht2] at HV2 HR
            clear hv2 hH hcr ht2
            go_wp2_with fail
            obtain ⟨W1, hW1⟩ : ∃ W1, W1 = w2.alloc (.cells #[.int .i64 x.k, .int .i64 x.n, .string x.a, .string x.m, .slice (some ⟨kb, ko, none⟩) N cc] 40) := ⟨_, rfl⟩
            have hu1 : Up w2 W1 := by rw [hW1]; exact (Up.refl w2).alloc _
            have hs1 : W1.heap.size = H + 1 := by rw [hW1]; simp; exact HH.out
            have hn1 : Nb W1 H x (.slice (some ⟨kb, ko, none⟩) N cc) := by rw [hW1, ← HH.out]; exact heap_alloc_new w2 _
            rw [← hW1] at k4
            rw [← hW1, HH.out]
            have cC := clone_any (some ⟨kb, ko, none⟩) N cc us W1 HUL.out hN1 (fun h0 => by
              obtain ⟨b, o, e, hb, hcl⟩ := HA.out h0
              exact ⟨b, o, e, Nat.lt_of_lt_of_le hb (HU2.out.trans hu1).size, fun j u hu => (HU2.out.trans hu1).cell (hcl j u hu)⟩) HONE.out
            have HU1 := Lib.hid (HU2.out.trans hu1)
            have HUV := Lib.hid hu1
            have HS1 := Lib.hid hs1
            have HNB1 := Lib.hid hn1
            clear hW1 hu1 hs1 hn1 d0 d1 d2 d3 d4 k4
            refine cC.mono ?_
            rintro e w3 ⟨vk, rfl, ⟨B, hB, hown⟩, hb⟩
            rw [HS1.out] at hB
            have hown : w3.ownsRow (H + 1) 25 1 vk N us := hown.mono hB
            obtain ⟨R, c2, rfl, hR1, hR2⟩ := hown.form (by omega)
            have hnb1 : Nb w3 H x (.slice (some ⟨kb, ko, none⟩) N cc) := heap_below HNB1.out hb
            have cn := hnb1.cell.1
            have cf := hnb1.cell.2
            have hHw : H < w3.heap.size := heap_lt hnb1
            have hRH : H < R := by have := (hown.lt R rfl).1; omega
            have hown2 := own_setCell hown ⟨H, 4, none⟩ (.slice (some ⟨R, 0, none⟩) N c2) (fun g hg => by have := (hown.lt g hg).1; simp only; omega)
            have cj := hown2.cellAt k (by omega)
            rw [HUS1.out] at cj
            have fj := hown2.frozenAt k
            have HOWN := Lib.hid hown2
            have HNBW := Lib.hid hnb1
            have HU3 := Lib.hid (HU1.out.trans hb)
            have HUW : Hid (Up w2 w3) := Lib.hid (HUV.out.trans hb)
            have HRH := Lib.hid hRH
            obtain ⟨q2, o2, rfl⟩ := InT.ptr (t := t2) HV2.out
            clear cC hB hown hnb1 hb hown2
            go_wp2_with fail
            go_ret2
            have hHR : H ≠ R := by have := HRH.out; omega
            obtain ⟨w5, hw5⟩ : ∃ w5, (w3.setCell ⟨H, 4, none⟩ (.slice (some ⟨R, 0, none⟩) N c2)).setCell ⟨R, k, none⟩ (.pointer (some ⟨q2, o2, none⟩)) = w5 := ⟨_, rfl⟩
            have hz5 : w5.heap.size = w3.heap.size := by rw [← hw5]; simp [World.setCell]
            have hRz : R < w3.heap.size := by have h := (HOWN.out.lt R rfl).2; simpa [World.setCell] using h
            have u25 : Up w2 w5 := by
              have h := HUW.out
              unfold Up at h ⊢
              rw [HH.out] at h ⊢
              rw [← hw5]
              exact (h.setCell (Nat.le_refl _) _).setCell (by have := HRH.out; simp only; omega) _
            have u5 : Up w w5 := HU2.out.trans u25
            have own5 := (HOWN.out.stored k (.pointer (some ⟨q2, o2, none⟩))).1
            rw [hw5] at own5
            have nb5 : Nb w5 H x (.slice (some ⟨R, 0, none⟩) N c2) := by
              have h := HNBW.out.store (.slice (some ⟨R, 0, none⟩) N c2)
              unfold Nb at h ⊢
              rw [← hw5, Below.heap_setCell _ _ _ _ (by simp only; exact hHR)]
              exact h
            have hl5 : (ks.set k t2).len = N := by rw [Fr.len_set]; exact HNN.out
            have ptf : PtF w5 (fun q => q < w5.heap.size) (us.set k (.pointer (some ⟨q2, o2, none⟩))) (ks.set k t2) := PtF.set (HasT.up (o := some t2) HV2.out u25) (HUS.out.keep (fun b hb => Nat.lt_of_lt_of_le hb u5.size) fun b hb => u5.block b hb)
            have tree : HasT w5 (.pointer (some ⟨H, 0, none⟩)) (some (x, ks.set k t2)) := OwnT.tree (x := x) (f := ks.set k t2) (v := .slice (some ⟨R, 0, none⟩) N c2) (e := 25) (base := H + 1) ⟨_, by rw [hl5]; exact own5, ptf⟩ nb5 (by rw [hz5]; exact hHw) (fun g hg => by
              injection hg with hg
              have hg : R = g := hg
              rw [← hg, hz5]
              exact hRz)
            rw [hw5]
            exact ⟨_, by rw [HR.out]; rfl, by rw [HR.out]; exact tree, u5⟩
        · have h0 : rest = .nil := by
            cases rest with
            | nil => rfl
            | cons y l r => exact absurd (Nat.succ_pos _) hlt
          subst h0
          have hl' : N = done.len := by simpa [Fr.len] using hl
          have hkz : ¬ (k : Int) < (N : Int) := by omega
          clear hk hks hl hl' hs hsz
          go_wp2_with fail
          go_ret2
          exact pup_none (by unfold rpT; rw [HF.out, HKS.out, Fr.app_nil, HFD.out]) HUP.out
end Go.Proofs.YtmiicfdigkkbdaaDoor
