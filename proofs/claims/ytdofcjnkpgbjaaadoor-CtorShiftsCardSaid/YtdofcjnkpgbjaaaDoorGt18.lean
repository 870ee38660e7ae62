/-
  Layer 10, the document's side: Count, free: they only read.
-/
import Derived.Test.YtdofcjnkpgbjaaaDoorGt17
namespace Go.Proofs.YtdofcjnkpgbjaaaDoor
open Go.RowKit

def ctT (i : Int) (d : Nat) (t : Tr) : Nat := (if atV i d t.1 then 1 else 0) + Fr.ct i (d + innK t.1.k) t.2
def fvT (d : Nat) (t : Tr) : Int := max (fvN d t.1) (Fr.fv (d + innK t.1.k) t.2)
theorem Fr.ct_c (i : Int) (d : Nat) (x : Nod) (k r : Fr) : Fr.ct i d (.cons x k r) = ctT i d (x, k) + Fr.ct i d r := rfl
theorem Fr.fv_c (d : Nat) (x : Nod) (k r : Fr) : Fr.fv d (.cons x k r) = max (fvT d (x, k)) (Fr.fv d r) := rfl
theorem Fr.ct_app (i : Int) (d : Nat) (a b : Fr) : Fr.ct i d (a.app b) = Fr.ct i d a + Fr.ct i d b := by
  induction a with
  | nil => show _ = 0 + _; rw [Nat.zero_add]; rfl
  | cons x k r _ ih =>
    show Fr.ct i d (.cons x k (r.app b)) = _
    rw [Fr.ct_c, Fr.ct_c, ih, Nat.add_assoc]
theorem Fr.fv_app (d : Nat) (a b : Fr) : Fr.fv d (a.app b) = max (Fr.fv d a) (Fr.fv d b) := by
  induction a with
  | nil => have := Fr.fv_pos b d; show _ = max 0 _; rw [show max 0 (Fr.fv d b) = Fr.fv d b by omega]; rfl
  | cons x k r _ ih =>
    show Fr.fv d (.cons x k (r.app b)) = _
    rw [Fr.fv_c, Fr.fv_c, ih]
    omega
theorem Fr.ct_le (i : Int) (f : Fr) : ∀ d, Fr.ct i d f ≤ f.sz := by
  induction f with
  | nil => intro d; exact Nat.le_refl _
  | cons x k r ihk ihr =>
    intro d
    have h1 := ihk (d + innK x.k)
    have h2 := ihr d
    unfold Fr.ct Fr.sz
    split <;> omega
theorem ctT_le (i : Int) (d : Nat) (t : Tr) : ctT i d t ≤ szT t := by
  have := Fr.ct_le i t.2 (d + innK t.1.k)
  unfold ctT szT
  split <;> omega
theorem Fr.fv_le {f : Fr} : ∀ {d : Nat}, f.vok → Fr.fv d f ≤ 65537 := by
  induction f with
  | nil => intro d _; show (0 : Int) ≤ _; omega
  | cons x k r ihk ihr =>
    intro d h
    have h1 := ihk (d := d + innK x.k) h.2.1
    have h2 := ihr (d := d) h.2.2
    have h3 : fvN d x ≤ 65537 := by
      unfold fvN
      split
      · rename_i hc
        have := h.1.2 hc.1
        omega
      · omega
    unfold Fr.fv
    omega
theorem fvT_pos (d : Nat) (t : Tr) : 0 ≤ fvT d t := by have := Fr.fv_pos t.2 (d + innK t.1.k); unfold fvT; omega
theorem fvT_le {d : Nat} {t : Tr} (h : tvok t) : fvT d t ≤ 65537 := by
  have := Fr.fv_le (f := .cons t.1 t.2 .nil) (d := d) ⟨h.1, h.2, trivial⟩
  rw [Fr.fv_c] at this
  show fvT d (t.1, t.2) ≤ _
  omega
def CtAt (n : Nat) (i : Int) : Prop := ∀ (t : Tr), szT t ≤ n → tvok t → ∀ (d : Nat), d + n ≤ 1000000000 → ∀ (w : World) (Sq : Nat → Prop) (v : Value), InT w Sq v t →
  Calls Tryd.prog 43 #[v, .int .i64 i, .int .i64 (d : Int)] w (DrI ((ctT i d t : Nat) : Int) w)
set_option maxHeartbeats 12800000 in
set_option maxRecDepth 100000 in
theorem refCount (i : Int) : ∀ (n : Nat), CtAt n i
  | 0, t, h, _, _, _, _, _, _, _ => absurd h (by unfold szT; omega)
  | n + 1, (x, ks), hn, hv, d, hd, w, Sq, v, hin => by
    have ih := refCount i n
    obtain ⟨q, p, A, cc, rfl, hq1, c0, c1, c2, c3, c4, hc, hkid⟩ := hin.open
    have hsz : szT (x, ks) = 1 + ks.sz := rfl
    have hll := Fr.len_le ks
    have hi1 := innK_le x.k
    obtain ⟨B, hB⟩ : ∃ B : Nat, (if atV i d x then 1 else 0) = B := ⟨_, rfl⟩
    have hB1 : B ≤ 1 := by rw [← hB]; split <;> omega
    have hR : ctT i d (x, ks) = B + Fr.ct i (d + innK x.k) ks := by rw [← hB]; rfl
    obtain ⟨R, hRR⟩ : ∃ R, ctT i d (x, ks) = R := ⟨_, rfl⟩
    rw [hRR] at hR ⊢
    have hvx : x.k = 110 → 0 ≤ x.n ∧ x.n ≤ 65536 := fun h => ⟨(hv.1.2 h).1, (hv.1.2 h).2.1⟩
    obtain ⟨K, hK⟩ : ∃ K, x.k = K := ⟨_, rfl⟩
    obtain ⟨Z, hZ⟩ : ∃ K, x.n = K := ⟨_, rfl⟩
    have hBB : (if K = 110 ∧ (d : Int) ≤ Z ∧ Z - d = i then 1 else 0) = B := by
      rw [← hB, ← hK, ← hZ]
      by_cases h : atV i d x
      · rw [if_pos h]; exact if_pos h
      · rw [if_neg h]; exact if_neg h
    rw [hK] at c0 hR hvx hi1
    rw [hZ] at c1 hvx
    obtain ⟨N, hN⟩ : ∃ N, ks.len = N := ⟨_, rfl⟩
    rw [hN] at c4 hll
    have hN1 : N ≤ 1000000000 := by omega
    obtain ⟨I, hI⟩ : ∃ I, innK K = I := ⟨_, rfl⟩
    have HI := Lib.hid hI
    rw [hI] at hR hi1
    have HK := Lib.hid hkid
    have HNN := Lib.hid hN
    have HSZ := Lib.hid (by omega : ks.sz ≤ n)
    have HIH := Lib.hid ih
    have HVK := Lib.hid hv.2
    have HR := Lib.hid hR
    have HB1 := Lib.hid hB1
    have HC0 := Lib.hid c0
    have HDI := Lib.hid (by omega : d + I + n ≤ 1000000000)
    have HWI := Lib.hid (wrap_ni d I (by omega) (by omega))
    have key : (B = 0 ∧ ¬ K = 110) ∨ (B = 0 ∧ K = 110 ∧ decide ((d : Int) ≤ Z) = false) ∨ (B = 0 ∧ K = 110 ∧ decide ((d : Int) ≤ Z) = true ∧ (Z - (d : Int) == i) = false) ∨ (B = 1 ∧ K = 110 ∧ decide ((d : Int) ≤ Z) = true ∧ (Z - (d : Int) == i) = true) := by
      by_cases e1 : K = 110
      · by_cases e2 : (d : Int) ≤ Z
        · by_cases e3 : Z - (d : Int) = i
          · rw [if_pos ⟨e1, e2, e3⟩] at hBB
            exact .inr (.inr (.inr ⟨hBB.symm, e1, decide_eq_true e2, beq_iff_eq.2 e3⟩))
          · rw [if_neg (fun h => e3 h.2.2)] at hBB
            exact .inr (.inr (.inl ⟨hBB.symm, e1, decide_eq_true e2, beq_eq_false_iff_ne.2 e3⟩))
        · rw [if_neg (fun h => e2 h.2.1)] at hBB
          exact .inr (.inl ⟨hBB.symm, e1, decide_eq_false e2⟩)
      · rw [if_neg (fun h => e1 h.1)] at hBB
        exact .inl ⟨hBB.symm, e1⟩
    have w1 : K = 110 → wrap64 (Z - (d : Int)) = Z - (d : Int) := fun h => by have := hvx h; exact wrap_in _ (by omega) (by omega)
    have W1 := Lib.hid w1
    clear hin hkid ih hv hR hN hc hsz hn hd hK hZ hI hRR hB hB1 hBB hvx w1 hi1
    rcases key with ⟨rfl, e1⟩ | ⟨rfl, e1, e2⟩ | ⟨rfl, e1, e2, e3⟩ | ⟨rfl, e1, e2, e3⟩
    all_goals
      try (have w2 := W1.out e1; subst e1)
      go_enter Tryd.func43, Tryd.ntmps43
      go_wp2_with fail
      try clear w2
      go_loopw [7, 8] (fun s j wr => ∃ (k : Nat) (done rest : Fr) (B : Nat), B + Fr.ct i (d + I) ks = R ∧ B ≤ 1 ∧ j = .int .i64 k ∧ k = done.len ∧ ks = done.app rest ∧ s = .int .i64 ((B + Fr.ct i (d + I) done : Nat) : Int) ∧ Kid w Sq A rest k ∧ ∃ q, wr = w.drewN q) (fun _ j _ => N - (intOf j).toNat)
      case atStart => exact ⟨0, .nil, ks, _, HR.out.symm, HB1.out, rfl, rfl, rfl, rfl, HK.out, 0, rfl⟩
      case round =>
        obtain ⟨k, done, rest, B, hBR, hB1, rfl, hk, hks, rfl, hkid, qq, rfl⟩ := hrel
        have hl : N = done.len + rest.len := by rw [← HNN.out, hks, Fr.len_app]
        have hs : ks.sz = done.sz + rest.sz := by rw [hks, Fr.sz_app]
        have hsz := HSZ.out
        have HKS := Lib.hid hks
        have HBR := Lib.hid hBR
        have HB2 := Lib.hid hB1
        have hcl := Fr.ct_le i done (d + I)
        clear hBR
        by_cases hlt : 0 < rest.len
        · obtain ⟨y, l, r, rfl⟩ := Fr.cut hlt
          obtain ⟨kb, ko, u, rfl, hkb, hcell, hu, hnext⟩ := hkid.next
          have hyl : szT (y, l) = 1 + l.sz := rfl
          have hsr : (Fr.cons y l r).sz = 1 + l.sz + r.sz := rfl
          have hlr : (Fr.cons y l r).len = r.len + 1 := rfl
          have hvy : tvok (y, l) := by
            have h := HVK.out
            rw [HKS.out, Fr.vok_app] at h
            exact ⟨h.2.1, h.2.2.1⟩
          have cI := fun m => HIH.out (y, l) (by omega) hvy (d + I) (by have := HDI.out; omega) (w.drewN m) Sq u (hu.drew m)
          have hcy := ctT_le i (d + I) (y, l)
          have HN := Lib.hid hnext
          have hkN : k < N := by omega
          have hkz : (k : Int) < (N : Int) := by omega
          have HK1 := Lib.hid hk
          obtain ⟨C, hC⟩ : ∃ C, B + Fr.ct i (d + I) done = C := ⟨_, rfl⟩
          obtain ⟨D, hD⟩ : ∃ C, ctT i (d + I) (y, l) = C := ⟨_, rfl⟩
          rw [hC]
          rw [hD] at cI hcy
          have hE : B + Fr.ct i (d + I) (done.app (.cons y l .nil)) = C + D := by rw [Fr.ct_app, Fr.ct_c, hD, ← hC]; show B + (Fr.ct i (d + I) done + (D + 0)) = _; omega
          have HE := Lib.hid hE
          have HCI := Lib.hid cI
          have hdi := HDI.out
          have HW2 := Lib.hid (wrap_ni C D (by omega) (by omega))
          have HW3 := Lib.hid (wrap_nn C D (by omega) (by omega))
          have cN := fun m => refInner (w := w.drewN m) HC0.out
          rw [HI.out] at cN
          have CN := Lib.hid cN
          clear hkid hnext hu hks hk hl hs hlr hsr hsz hyl hcl hcy hC hD hE cI cN hvy hB1 hdi
          have hwi := HWI.out
          have hw2 := HW2.out
          have hw3 := HW3.out
          go_wp2_with fail
          go_big_quiet ((first
            | (go_at_call 70; exact Calls.mono (CN.out _) fun _ _ ⟨he, hm⟩ => ⟨he, _, hm⟩)
            | (go_at_call 43; exact quiet_off (HCI.out _))))
          go_wp2_with fail
          clear hwi hw2 hw3
          go_roundw
          case rel => exact ⟨k + 1, done.app (.cons y l .nil), r, B, HBR.out, HB2.out, by go_num, by rw [Fr.len_app, HK1.out]; rfl, by rw [HKS.out, Fr.app_cons], i64_eq (by rw [HE.out]; omega), HN.out, _, rfl⟩
          case measure => simp [intOf]; omega
        · have h0 : rest = .nil := by
            cases rest with
            | nil => rfl
            | cons y l r => exact absurd (Nat.succ_pos _) hlt
          subst h0
          have hl' : N = done.len := by simpa [Fr.len] using hl
          have hkz : ¬ (k : Int) < (N : Int) := by omega
          have HE : Hid (B + Fr.ct i (d + I) done = R) := Lib.hid (by rw [← HBR.out, HKS.out, Fr.app_nil])
          clear hkid hks hk hl hl' hs hsz hcl hB1
          go_wp2_with fail
          go_ret
          exact dri _ (by have := HE.out; omega)
def FvAt (n : Nat) : Prop := ∀ (t : Tr), szT t ≤ n → tvok t → ∀ (d : Nat), d + n ≤ 1000000000 → ∀ (w : World) (Sq : Nat → Prop) (v : Value), InT w Sq v t →
  Calls Tryd.prog 41 #[v, .int .i64 (d : Int)] w (DrI (fvT d t) w)
set_option maxHeartbeats 12800000 in
set_option maxRecDepth 100000 in
theorem refFree0 : ∀ (n : Nat), FvAt n
  | 0, t, h, _, _, _, _, _, _, _ => absurd h (by unfold szT; omega)
  | n + 1, (x, ks), hn, hv, d, hd, w, Sq, v, hin => by
    have ih := refFree0 n
    obtain ⟨q, p, A, cc, rfl, hq1, c0, c1, c2, c3, c4, hc, hkid⟩ := hin.open
    have hsz : szT (x, ks) = 1 + ks.sz := rfl
    have hll := Fr.len_le ks
    have hi1 := innK_le x.k
    obtain ⟨B, hB⟩ : ∃ B : Int, fvN d x = B := ⟨_, rfl⟩
    have hR : fvT d (x, ks) = max B (Fr.fv (d + innK x.k) ks) := by rw [← hB]; rfl
    obtain ⟨R, hRR⟩ : ∃ R, fvT d (x, ks) = R := ⟨_, rfl⟩
    rw [hRR] at hR ⊢
    have hvx : x.k = 110 → 0 ≤ x.n ∧ x.n ≤ 65536 := fun h => ⟨(hv.1.2 h).1, (hv.1.2 h).2.1⟩
    obtain ⟨K, hK⟩ : ∃ K, x.k = K := ⟨_, rfl⟩
    obtain ⟨Z, hZ⟩ : ∃ K, x.n = K := ⟨_, rfl⟩
    have hBB : (if K = 110 ∧ (d : Int) ≤ Z then Z - d + 1 else 0) = B := by rw [← hB, ← hK, ← hZ]; rfl
    rw [hK] at c0 hR hvx hi1
    rw [hZ] at c1 hvx
    obtain ⟨N, hN⟩ : ∃ N, ks.len = N := ⟨_, rfl⟩
    rw [hN] at c4 hll
    have hN1 : N ≤ 1000000000 := by omega
    obtain ⟨I, hI⟩ : ∃ I, innK K = I := ⟨_, rfl⟩
    have HI := Lib.hid hI
    rw [hI] at hR hi1
    have HK := Lib.hid hkid
    have HNN := Lib.hid hN
    have HSZ := Lib.hid (by omega : ks.sz ≤ n)
    have HIH := Lib.hid ih
    have HVK := Lib.hid hv.2
    have HR := Lib.hid hR
    have HC0 := Lib.hid c0
    have HDI := Lib.hid (by omega : d + I + n ≤ 1000000000)
    have HWI := Lib.hid (wrap_ni d I (by omega) (by omega))
    have key : (B = 0 ∧ ¬ K = 110) ∨ (B = 0 ∧ K = 110 ∧ decide ((d : Int) ≤ Z) = false) ∨ (B = Z - d + 1 ∧ K = 110 ∧ decide ((d : Int) ≤ Z) = true) := by
      by_cases e1 : K = 110
      · by_cases e2 : (d : Int) ≤ Z
        · rw [if_pos ⟨e1, e2⟩] at hBB
          exact .inr (.inr ⟨hBB.symm, e1, decide_eq_true e2⟩)
        · rw [if_neg (fun h => e2 h.2)] at hBB
          exact .inr (.inl ⟨hBB.symm, e1, decide_eq_false e2⟩)
      · rw [if_neg (fun h => e1 h.1)] at hBB
        exact .inl ⟨hBB.symm, e1⟩
    have w1 : K = 110 → wrap64 (wrap64 (Z - (d : Int)) + 1) = Z - (d : Int) + 1 := fun h => by
      have := hvx h
      rw [wrap_in (Z - (d : Int)) (by omega) (by omega), wrap_in _ (by omega) (by omega)]
    have W1 := Lib.hid w1
    clear hin hkid ih hv hR hN hc hsz hn hd hK hZ hI hRR hB hBB hvx w1 hi1
    rcases key with ⟨rfl, e1⟩ | ⟨rfl, e1, e2⟩ | ⟨hb, e1, e2⟩
    all_goals
      try (have w2 := W1.out e1; subst e1)
      try (have HB9 := Lib.hid hb; clear hb)
      go_enter Tryd.func41, Tryd.ntmps41
      go_wp2_with fail
      try clear w2
      go_loopw [5, 6, 7] (fun s j _ wr => ∃ (k : Nat) (done rest : Fr) (B : Int), max B (Fr.fv (d + I) ks) = R ∧ j = .int .i64 k ∧ k = done.len ∧ ks = done.app rest ∧ s = .int .i64 (max B (Fr.fv (d + I) done)) ∧ Kid w Sq A rest k ∧ ∃ q, wr = w.drewN q) (fun _ j _ _ => N - (intOf j).toNat)
      case atStart => first
        | exact ⟨0, .nil, ks, 0, HR.out.symm, rfl, rfl, rfl, rfl, HK.out, 0, rfl⟩
        | exact ⟨0, .nil, ks, B, HR.out.symm, rfl, rfl, rfl, i64_eq (by
            have h := HB9.out
            have e3 := of_decide_eq_true e2
            have e4 : max B (Fr.fv (d + I) .nil) = B := by show max B 0 = B; omega
            rw [e4, h]), HK.out, 0, rfl⟩
      case round =>
        obtain ⟨k, done, rest, B2, hBR, rfl, hk, hks, rfl, hkid, qq, rfl⟩ := hrel
        have hl : N = done.len + rest.len := by rw [← HNN.out, hks, Fr.len_app]
        have hs : ks.sz = done.sz + rest.sz := by rw [hks, Fr.sz_app]
        have hsz := HSZ.out
        have HKS := Lib.hid hks
        have HBR := Lib.hid hBR
        clear hBR
        by_cases hlt : 0 < rest.len
        · obtain ⟨y, l, r, rfl⟩ := Fr.cut hlt
          obtain ⟨kb, ko, u, rfl, hkb, hcell, hu, hnext⟩ := hkid.next
          have hyl : szT (y, l) = 1 + l.sz := rfl
          have hsr : (Fr.cons y l r).sz = 1 + l.sz + r.sz := rfl
          have hlr : (Fr.cons y l r).len = r.len + 1 := rfl
          have hvy : tvok (y, l) := by
            have h := HVK.out
            rw [HKS.out, Fr.vok_app] at h
            exact ⟨h.2.1, h.2.2.1⟩
          have cI := fun m => HIH.out (y, l) (by omega) hvy (d + I) (by have := HDI.out; omega) (w.drewN m) Sq u (hu.drew m)
          have HN := Lib.hid hnext
          have hkN : k < N := by omega
          have hkz : (k : Int) < (N : Int) := by omega
          have HK1 := Lib.hid hk
          have hpy := fvT_pos (d + I) (y, l)
          obtain ⟨C, hC⟩ : ∃ C, max B2 (Fr.fv (d + I) done) = C := ⟨_, rfl⟩
          obtain ⟨D, hD⟩ : ∃ C, fvT (d + I) (y, l) = C := ⟨_, rfl⟩
          rw [hC]
          rw [hD] at cI hpy
          have hE : max B2 (Fr.fv (d + I) (done.app (.cons y l .nil))) = max C D := by rw [Fr.fv_app, Fr.fv_c, hD, ← hC]; show max B2 (max _ (max D 0)) = _; omega
          have HE := Lib.hid hE
          have HCI := Lib.hid cI
          have cN := fun m => refInner (w := w.drewN m) HC0.out
          rw [HI.out] at cN
          have CN := Lib.hid cN
          clear hkid hnext hu hks hk hl hs hlr hsr hsz hyl hC hD hE cI cN hvy hpy
          by_cases hg : C < D
          all_goals
            have HG := Lib.hid hg
            have hwi := HWI.out
            go_wp2_with fail
            go_big_quiet ((first
              | (go_at_call 70; exact Calls.mono (CN.out _) fun _ _ ⟨he, hm⟩ => ⟨he, _, hm⟩)
              | (go_at_call 41; exact quiet_off (HCI.out _))))
            go_wp2_with fail
            clear hwi
            go_roundw
            case rel => exact ⟨k + 1, done.app (.cons y l .nil), r, B2, HBR.out, by go_num, by rw [Fr.len_app, HK1.out]; rfl, by rw [HKS.out, Fr.app_cons], i64_eq (by rw [HE.out]; have := HG.out; omega), HN.out, _, rfl⟩
            case measure => simp [intOf]; omega
        · have h0 : rest = .nil := by
            cases rest with
            | nil => rfl
            | cons y l r => exact absurd (Nat.succ_pos _) hlt
          subst h0
          have hl' : N = done.len := by simpa [Fr.len] using hl
          have hkz : ¬ (k : Int) < (N : Int) := by omega
          have HE : Hid (max B2 (Fr.fv (d + I) done) = R) := Lib.hid (by rw [← HBR.out, HKS.out, Fr.app_nil])
          obtain ⟨C, hC⟩ : ∃ C, max B2 (Fr.fv (d + I) done) = C := ⟨_, rfl⟩
          rw [hC] at HE ⊢
          clear hkid hks hk hl hl' hs hsz hC
          go_wp2_with fail
          go_ret
          exact dri _ HE.out
end Go.Proofs.YtdofcjnkpgbjaaaDoor
