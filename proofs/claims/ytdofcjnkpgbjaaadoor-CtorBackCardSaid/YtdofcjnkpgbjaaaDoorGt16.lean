/-
  Layer 10, the document's side: Text of records and sums (written by gctm.py).
-/
import Derived.Test.YtdofcjnkpgbjaaaDoorGt15
namespace Go.Proofs.YtdofcjnkpgbjaaaDoor
open Go.RowKit

theorem rcR_snoc (k : Int) (n t : ByteArray) (l : List (ByteArray × ByteArray)) : ∀ f s, rcR k f s (l ++ [(n, t)]) = itS k (f && l.isEmpty) (rcR k f s l) n t := by
  induction l with
  | nil => intro f s; rw [show (f && List.isEmpty ([] : List (ByteArray × ByteArray))) = f from Bool.and_true f]; rfl
  | cons a r ih =>
    intro f s
    obtain ⟨n', t'⟩ := a
    show rcR k false (itS k f s n' t') (r ++ [(n, t)]) = itS k (f && false) (rcR k false (itS k f s n' t') r) n t
    rw [ih, Bool.false_and, Bool.and_false]
theorem Fr.tx_app (a b : Fr) : (a.app b).tx = a.tx ++ b.tx := by
  induction a with
  | nil => rfl
  | cons x k r _ ih => show (x.a, ndX x k.tx) :: (r.app b).tx = _; rw [ih]; rfl
theorem Fr.tx_empty (a : Fr) : a.tx.isEmpty = decide (a.len = 0) := by
  cases a with
  | nil => rfl
  | cons x k r => rfl
theorem wtX_app (a b : List (ByteArray × ByteArray)) : wtX (a ++ b) = wtX a + wtX b := by
  induction a with
  | nil => show _ = 0 + _; rw [Nat.zero_add]; rfl
  | cons x r ih =>
    obtain ⟨n, t⟩ := x
    show n.size + t.size + 10 + wtX (r ++ b) = n.size + t.size + 10 + wtX r + wtX b
    rw [ih]; omega
set_option maxHeartbeats 12800000 in
set_option maxRecDepth 100000 in
theorem refTx115 {n : Nat} (hco : TxAt n) {w : World} {Sq : Nat → Prop} {q p c : Nat} {A : Option Addr} {ks : Fr} (c0 : w.cell? ⟨q, p, none⟩ = some (.int .i64 115)) (c4 : w.cell? ⟨q, p + 4, none⟩ = some (.slice A ks.len c)) (hkid : Kid w Sq A ks 0) (hn : ks.sz ≤ n) (hbig : n ≤ 1000000000) (hfd : FdR ks) (hnm : ks.nmo) :
    Calls Tryd.prog 36 #[.pointer (some ⟨q, p, none⟩)] w (B.StrDrew (rcR 115 true ⟨#[123]⟩ ks.tx ++ ⟨#[32, 125]⟩) w) := by
  have HK := Lib.hid hkid
  have hll := Fr.len_le ks
  obtain ⟨N, hN⟩ : ∃ N, ks.len = N := ⟨_, rfl⟩
  rw [hN] at c4 hll
  have hN1 : N ≤ 1000000000 := by omega
  have HNN := Lib.hid hN
  have HSZ := Lib.hid hn
  have HCO := Lib.hid hco
  have HFD := Lib.hid hfd
  have HNM := Lib.hid hnm
  have HBIG := Lib.hid hbig
  obtain ⟨R, hR⟩ : ∃ R, rcR 115 true ⟨#[123]⟩ ks.tx ++ ⟨#[32, 125]⟩ = R := ⟨_, rfl⟩
  have HR := Lib.hid hR
  have HC0 := Lib.hid c0
  rw [hR]
  clear hkid hN hn hco hfd hnm hbig hR hll
  go_enter Tryd.func36, Tryd.ntmps36
  go_wp2_with fail
  go_loopw [4, 5] (fun s j wr => ∃ (k : Nat) (done rest : Fr), j = .int .i64 k ∧ k = done.len ∧ ks = done.app rest ∧ s = .string (rcR 115 true ⟨#[123]⟩ done.tx) ∧ Kid w Sq A rest k ∧ ∃ m, wr = w.drewN m) (fun _ j _ => N - (intOf j).toNat)
  case atStart => exact ⟨0, .nil, ks, rfl, rfl, rfl, rfl, HK.out, 0, rfl⟩
  case round =>
    obtain ⟨k, done, rest, rfl, hk, hks, rfl, hkid, m0, rfl⟩ := hrel
    have hl : N = done.len + rest.len := by rw [← HNN.out, hks, Fr.len_app]
    have hs : ks.sz = done.sz + rest.sz := by rw [hks, Fr.sz_app]
    have hsz := HSZ.out
    have hbig := HBIG.out
    have hW : wtX ks.tx ≤ 210000000000 := by have := Fr.tx_sz HNM.out; omega
    have hrs := rcR_sz 115 done.tx true ⟨#[123]⟩
    have h123 : (⟨#[123]⟩ : ByteArray).size = 1 := rfl
    have hwd : wtX ks.tx = wtX done.tx + wtX rest.tx := by rw [hks, Fr.tx_app, wtX_app]
    have HKS := Lib.hid hks
    by_cases hlt : 0 < rest.len
    · obtain ⟨y, l, r, rfl⟩ := Fr.cut hlt
      obtain ⟨kb, ko, u, rfl, hkb, hcell, hu, hnext⟩ := hkid.next
      have hsr : (Fr.cons y l r).sz = 1 + l.sz + r.sz := rfl
      have hlr : (Fr.cons y l r).len = r.len + 1 := rfl
      have hfd := HFD.out
      rw [HKS.out] at hfd
      obtain ⟨⟨y1, l1, rfl, hok, htx⟩, hya, _⟩ := hfd.app.2
      obtain ⟨q1, p1, A1, c1, rfl, _, d0, d1, d2, d3, d4, _, hk1⟩ := hu.open
      obtain ⟨kb1, ko1, u1, rfl, _, hu1, ht1, _⟩ := hk1.next
      rw [Nat.add_zero] at hu1
      replace d4 : w.cell? ⟨q1, p1 + 4, none⟩ = some (.slice (some ⟨kb1, ko1, none⟩) 1 c1) := d4
      have hz1 : (Fr.cons y1 l1 .nil).sz = 1 + l1.sz + 0 := rfl
      have cI := fun m => HCO.out (y1, l1) (by unfold szT; simp only; omega) hok (w.drewN m) Sq u1 (ht1.drew m)
      have hwr : wtX (Fr.cons y (.cons y1 l1 .nil) r).tx = y.a.size + (txT (y1, l1)).size + 10 + wtX r.tx := by rw [Fr.tx_c, htx]; rfl
      have HN := Lib.hid hnext
      have hkN : k < N := by omega
      have hkz : (k : Int) < (N : Int) := by omega
      have HK1 := Lib.hid hk
      obtain ⟨S, hS⟩ : ∃ S, rcR 115 true ⟨#[123]⟩ done.tx = S := ⟨_, rfl⟩
      obtain ⟨X, hX⟩ : ∃ S, txT (y1, l1) = S := ⟨_, rfl⟩
      obtain ⟨Y, hY⟩ : ∃ S, y.a = S := ⟨_, rfl⟩
      have hnew : rcR 115 true ⟨#[123]⟩ (done.app (.cons y (.cons y1 l1 .nil) .nil)).tx = itS 115 (decide (k = 0)) S Y X := by
        rw [Fr.tx_app, Fr.tx_c, htx, hX, hY]
        show rcR 115 true ⟨#[123]⟩ (done.tx ++ [(Y, X)]) = _
        rw [rcR_snoc, Bool.true_and, Fr.tx_empty, ← hk, hS]
      rw [hS] at hrs ⊢
      rw [hX] at cI hwr
      rw [hY] at d2 hwr
      have hSs : S.size ≤ 1000000000000 := by omega
      have hXs : X.size ≤ 1000000000000 := by omega
      have hYs : Y.size ≤ 1000000000000 := by omega
      have HNEW := Lib.hid hnew
      have CI := Lib.hid cI
      clear hkid hu hnext hks hk hl hs hsr hlr hsz hbig hW hrs h123 hwd hwr cI hS hX hY hnew hz1 hya htx hok ht1 hk1 hfd d0 d1 d3
      by_cases hk0 : k = 0
      · have e0 : itS 115 (decide (k = 0)) S Y X = S ++ ⟨#[32]⟩ ++ Y ++ ⟨#[32, 61, 32]⟩ ++ X := by rw [decide_eq_true hk0]; rfl
        rw [e0] at HNEW
        have r1 : ¬ 9223372036854775807 < S.size + 1 := by omega
        have r2 : ¬ 9223372036854775807 < S.size + 1 + Y.size := by omega
        have r3 : ¬ 9223372036854775807 < S.size + 1 + Y.size + 3 := by omega
        have r4 : ¬ 9223372036854775807 < S.size + 1 + Y.size + 3 + X.size := by omega
        have hkp : ¬ (0 : Int) < (k : Int) := by omega
        have HK0 := Lib.hid hk0
        clear e0 hSs hXs hYs hk0
        go_wp2_with fail
        go_big_quiet ((go_at_call 36; with_reducible exact quiet_off (CI.out _)))
        go_wp2_with fail
        go_roundw
        case rel => exact ⟨k + 1, done.app (.cons y (.cons y1 l1 .nil) .nil), r, by go_num, by rw [Fr.len_app, HK1.out]; rfl, by rw [HKS.out, Fr.app_cons], by rw [HNEW.out], HN.out, _, rfl⟩
        case measure => simp [intOf]; omega
      · have e0 : itS 115 (decide (k = 0)) S Y X = S ++ ⟨#[32, 44]⟩ ++ ⟨#[32]⟩ ++ Y ++ ⟨#[32, 61, 32]⟩ ++ X := by rw [decide_eq_false hk0]; rfl
        rw [e0] at HNEW
        have r0 : ¬ 9223372036854775807 < S.size + 2 := by omega
        have hkp : (0 : Int) < (k : Int) := by omega
        clear e0
        go_wp2_with fail
        obtain ⟨S2, hS2⟩ : ∃ S2, S ++ ⟨#[32, 44]⟩ = S2 := ⟨_, rfl⟩
        have hz2 : S2.size = S.size + 2 := by rw [← hS2, ByteArray.size_append]; rfl
        rw [hS2] at HNEW ⊢
        have r1 : ¬ 9223372036854775807 < S2.size + 1 := by omega
        have r2 : ¬ 9223372036854775807 < S2.size + 1 + Y.size := by omega
        have r3 : ¬ 9223372036854775807 < S2.size + 1 + Y.size + 3 := by omega
        have r4 : ¬ 9223372036854775807 < S2.size + 1 + Y.size + 3 + X.size := by omega
        clear hSs hXs hYs hS2 hz2 r0 hk0
        go_big_quiet ((go_at_call 36; with_reducible exact quiet_off (CI.out _)))
        go_wp2_with fail
        go_roundw
        case rel => exact ⟨k + 1, done.app (.cons y (.cons y1 l1 .nil) .nil), r, by go_num, by rw [Fr.len_app, HK1.out]; rfl, by rw [HKS.out, Fr.app_cons], by rw [HNEW.out], HN.out, _, rfl⟩
        case measure => simp [intOf]; omega
    · have h0 : rest = .nil := by
        cases rest with
        | nil => rfl
        | cons y l r => exact absurd (Nat.succ_pos _) hlt
      subst h0
      have hl' : N = done.len := by simpa [Fr.len] using hl
      have hkz : ¬ (k : Int) < (N : Int) := by omega
      obtain ⟨S, hS⟩ : ∃ S, rcR 115 true ⟨#[123]⟩ done.tx = S := ⟨_, rfl⟩
      have HE : Hid (R = S ++ ⟨#[32, 125]⟩) := Lib.hid (by rw [← HR.out, HKS.out, Fr.app_nil, hS])
      rw [hS] at hrs ⊢
      have r0 : ¬ 9223372036854775807 < S.size := by omega
      have r1 : ¬ 9223372036854775807 < S.size + 2 := by omega
      clear hkid hks hk hl hl' hs hsz hbig hW hrs h123 hwd hS
      go_wp2_with fail
      go_ret
      exact B.str_drew _ HE.out.symm
set_option maxHeartbeats 12800000 in
set_option maxRecDepth 100000 in
theorem refTx121 {n : Nat} (hco : TxAt n) {w : World} {Sq : Nat → Prop} {q p c : Nat} {A : Option Addr} {ks : Fr} (c0 : w.cell? ⟨q, p, none⟩ = some (.int .i64 121)) (c4 : w.cell? ⟨q, p + 4, none⟩ = some (.slice A ks.len c)) (hkid : Kid w Sq A ks 0) (hn : ks.sz ≤ n) (hbig : n ≤ 1000000000) (hfd : FdR ks) (hnm : ks.nmo) :
    Calls Tryd.prog 36 #[.pointer (some ⟨q, p, none⟩)] w (B.StrDrew (⟨#[109, 117, 32]⟩ ++ rcR 121 true ⟨#[123]⟩ ks.tx ++ ⟨#[32, 125]⟩) w) := by
  have HK := Lib.hid hkid
  have hll := Fr.len_le ks
  obtain ⟨N, hN⟩ : ∃ N, ks.len = N := ⟨_, rfl⟩
  rw [hN] at c4 hll
  have hN1 : N ≤ 1000000000 := by omega
  have HNN := Lib.hid hN
  have HSZ := Lib.hid hn
  have HCO := Lib.hid hco
  have HFD := Lib.hid hfd
  have HNM := Lib.hid hnm
  have HBIG := Lib.hid hbig
  obtain ⟨R, hR⟩ : ∃ R, ⟨#[109, 117, 32]⟩ ++ rcR 121 true ⟨#[123]⟩ ks.tx ++ ⟨#[32, 125]⟩ = R := ⟨_, rfl⟩
  have HR := Lib.hid hR
  have HC0 := Lib.hid c0
  rw [hR]
  clear hkid hN hn hco hfd hnm hbig hR hll
  go_enter Tryd.func36, Tryd.ntmps36
  go_wp2_with fail
  go_loopw [4, 5] (fun s j wr => ∃ (k : Nat) (done rest : Fr), j = .int .i64 k ∧ k = done.len ∧ ks = done.app rest ∧ s = .string (rcR 121 true ⟨#[123]⟩ done.tx) ∧ Kid w Sq A rest k ∧ ∃ m, wr = w.drewN m) (fun _ j _ => N - (intOf j).toNat)
  case atStart => exact ⟨0, .nil, ks, rfl, rfl, rfl, rfl, HK.out, 0, rfl⟩
  case round =>
    obtain ⟨k, done, rest, rfl, hk, hks, rfl, hkid, m0, rfl⟩ := hrel
    have hl : N = done.len + rest.len := by rw [← HNN.out, hks, Fr.len_app]
    have hs : ks.sz = done.sz + rest.sz := by rw [hks, Fr.sz_app]
    have hsz := HSZ.out
    have hbig := HBIG.out
    have hW : wtX ks.tx ≤ 210000000000 := by have := Fr.tx_sz HNM.out; omega
    have hrs := rcR_sz 121 done.tx true ⟨#[123]⟩
    have h123 : (⟨#[123]⟩ : ByteArray).size = 1 := rfl
    have hwd : wtX ks.tx = wtX done.tx + wtX rest.tx := by rw [hks, Fr.tx_app, wtX_app]
    have HKS := Lib.hid hks
    by_cases hlt : 0 < rest.len
    · obtain ⟨y, l, r, rfl⟩ := Fr.cut hlt
      obtain ⟨kb, ko, u, rfl, hkb, hcell, hu, hnext⟩ := hkid.next
      have hsr : (Fr.cons y l r).sz = 1 + l.sz + r.sz := rfl
      have hlr : (Fr.cons y l r).len = r.len + 1 := rfl
      have hfd := HFD.out
      rw [HKS.out] at hfd
      obtain ⟨⟨y1, l1, rfl, hok, htx⟩, hya, _⟩ := hfd.app.2
      obtain ⟨q1, p1, A1, c1, rfl, _, d0, d1, d2, d3, d4, _, hk1⟩ := hu.open
      obtain ⟨kb1, ko1, u1, rfl, _, hu1, ht1, _⟩ := hk1.next
      rw [Nat.add_zero] at hu1
      replace d4 : w.cell? ⟨q1, p1 + 4, none⟩ = some (.slice (some ⟨kb1, ko1, none⟩) 1 c1) := d4
      have hz1 : (Fr.cons y1 l1 .nil).sz = 1 + l1.sz + 0 := rfl
      have cI := fun m => HCO.out (y1, l1) (by unfold szT; simp only; omega) hok (w.drewN m) Sq u1 (ht1.drew m)
      have hwr : wtX (Fr.cons y (.cons y1 l1 .nil) r).tx = y.a.size + (txT (y1, l1)).size + 10 + wtX r.tx := by rw [Fr.tx_c, htx]; rfl
      have HN := Lib.hid hnext
      have hkN : k < N := by omega
      have hkz : (k : Int) < (N : Int) := by omega
      have HK1 := Lib.hid hk
      obtain ⟨S, hS⟩ : ∃ S, rcR 121 true ⟨#[123]⟩ done.tx = S := ⟨_, rfl⟩
      obtain ⟨X, hX⟩ : ∃ S, txT (y1, l1) = S := ⟨_, rfl⟩
      obtain ⟨Y, hY⟩ : ∃ S, y.a = S := ⟨_, rfl⟩
      have hnew : rcR 121 true ⟨#[123]⟩ (done.app (.cons y (.cons y1 l1 .nil) .nil)).tx = itS 121 (decide (k = 0)) S Y X := by
        rw [Fr.tx_app, Fr.tx_c, htx, hX, hY]
        show rcR 121 true ⟨#[123]⟩ (done.tx ++ [(Y, X)]) = _
        rw [rcR_snoc, Bool.true_and, Fr.tx_empty, ← hk, hS]
      rw [hS] at hrs ⊢
      rw [hX] at cI hwr
      rw [hY] at d2 hwr
      have hSs : S.size ≤ 1000000000000 := by omega
      have hXs : X.size ≤ 1000000000000 := by omega
      have hYs : Y.size ≤ 1000000000000 := by omega
      have HNEW := Lib.hid hnew
      have CI := Lib.hid cI
      clear hkid hu hnext hks hk hl hs hsr hlr hsz hbig hW hrs h123 hwd hwr cI hS hX hY hnew hz1 hya htx hok ht1 hk1 hfd d0 d1 d3
      by_cases hk0 : k = 0
      · have e0 : itS 121 (decide (k = 0)) S Y X = S ++ ⟨#[32]⟩ ++ Y ++ ⟨#[32, 111, 102, 32]⟩ ++ X := by rw [decide_eq_true hk0]; rfl
        rw [e0] at HNEW
        have r1 : ¬ 9223372036854775807 < S.size + 1 := by omega
        have r2 : ¬ 9223372036854775807 < S.size + 1 + Y.size := by omega
        have r3 : ¬ 9223372036854775807 < S.size + 1 + Y.size + 4 := by omega
        have r4 : ¬ 9223372036854775807 < S.size + 1 + Y.size + 4 + X.size := by omega
        have hkp : ¬ (0 : Int) < (k : Int) := by omega
        have HK0 := Lib.hid hk0
        clear e0 hSs hXs hYs hk0
        go_wp2_with fail
        go_big_quiet ((go_at_call 36; with_reducible exact quiet_off (CI.out _)))
        go_wp2_with fail
        go_roundw
        case rel => exact ⟨k + 1, done.app (.cons y (.cons y1 l1 .nil) .nil), r, by go_num, by rw [Fr.len_app, HK1.out]; rfl, by rw [HKS.out, Fr.app_cons], by rw [HNEW.out], HN.out, _, rfl⟩
        case measure => simp [intOf]; omega
      · have e0 : itS 121 (decide (k = 0)) S Y X = S ++ ⟨#[32, 124]⟩ ++ ⟨#[32]⟩ ++ Y ++ ⟨#[32, 111, 102, 32]⟩ ++ X := by rw [decide_eq_false hk0]; rfl
        rw [e0] at HNEW
        have r0 : ¬ 9223372036854775807 < S.size + 2 := by omega
        have hkp : (0 : Int) < (k : Int) := by omega
        clear e0
        go_wp2_with fail
        obtain ⟨S2, hS2⟩ : ∃ S2, S ++ ⟨#[32, 124]⟩ = S2 := ⟨_, rfl⟩
        have hz2 : S2.size = S.size + 2 := by rw [← hS2, ByteArray.size_append]; rfl
        rw [hS2] at HNEW ⊢
        have r1 : ¬ 9223372036854775807 < S2.size + 1 := by omega
        have r2 : ¬ 9223372036854775807 < S2.size + 1 + Y.size := by omega
        have r3 : ¬ 9223372036854775807 < S2.size + 1 + Y.size + 4 := by omega
        have r4 : ¬ 9223372036854775807 < S2.size + 1 + Y.size + 4 + X.size := by omega
        clear hSs hXs hYs hS2 hz2 r0 hk0
        go_big_quiet ((go_at_call 36; with_reducible exact quiet_off (CI.out _)))
        go_wp2_with fail
        go_roundw
        case rel => exact ⟨k + 1, done.app (.cons y (.cons y1 l1 .nil) .nil), r, by go_num, by rw [Fr.len_app, HK1.out]; rfl, by rw [HKS.out, Fr.app_cons], by rw [HNEW.out], HN.out, _, rfl⟩
        case measure => simp [intOf]; omega
    · have h0 : rest = .nil := by
        cases rest with
        | nil => rfl
        | cons y l r => exact absurd (Nat.succ_pos _) hlt
      subst h0
      have hl' : N = done.len := by simpa [Fr.len] using hl
      have hkz : ¬ (k : Int) < (N : Int) := by omega
      obtain ⟨S, hS⟩ : ∃ S, rcR 121 true ⟨#[123]⟩ done.tx = S := ⟨_, rfl⟩
      have HE : Hid (R = ⟨#[109, 117, 32]⟩ ++ S ++ ⟨#[32, 125]⟩) := Lib.hid (by rw [← HR.out, HKS.out, Fr.app_nil, hS])
      rw [hS] at hrs ⊢
      have r0 : ¬ 9223372036854775807 < 3 + S.size := by omega
      have r1 : ¬ 9223372036854775807 < 3 + S.size + 2 := by omega
      clear hkid hks hk hl hl' hs hsz hbig hW hrs h123 hwd hS
      go_wp2_with fail
      go_ret
      exact B.str_drew _ HE.out.symm
end Go.Proofs.YtdofcjnkpgbjaaaDoor
namespace Go.Proofs.YtdofcjnkpgbjaaaDoor
open Go.RowKit

theorem okX_nmo {x : Nod} {ks : Fr} (h : okX (x, ks)) : (x.k = 110 → 0 ≤ x.n ∧ x.n ≤ 65536) ∧ ks.nmo := by
  rcases h with h | h
  · have := co_nmo (f := .cons x ks .nil) (m := 0) (by rw [coF_0, h]; rfl)
    exact ⟨this.2.1, this.2.2.1⟩
  · have := kd_nmo (f := .cons x ks .nil) (by rw [kdF_cons, h]; rfl)
    exact ⟨this.2.1, this.2.2.1⟩
theorem txT_k {x : Nod} {ks : Fr} {R : ByteArray} (h : ndX x ks.tx = R) : txT (x, ks) = R := h
theorem refText : ∀ (n : Nat), n ≤ 1000000000 → TxAt n
  | 0, _, t, h, _, _, _, _, _ => absurd h (by unfold szT; omega)
  | n + 1, hbig, (x, ks), hn, hok, w, Sq, v, hin => by
    have ih := refText n (by omega)
    have hsz : szT (x, ks) = 1 + ks.sz := rfl
    have hk := okX_k hok
    have hnm := okX_nmo hok
    obtain ⟨q, p, A, c, rfl, hq1, c0, c1, c2, c3, c4, hc, hkid⟩ := hin.open
    have two : x.k = 101 ∨ x.k = 114 ∨ x.k = 120 ∨ x.k = 117 ∨ x.k = 118 ∨ x.k = 119 → ∃ (X Y : ByteArray) (kb ko : Nat) (u1 u2 : Value), w.cell? ⟨q, p + 4, none⟩ = some (.slice (some ⟨kb, ko, none⟩) 2 c) ∧ w.cell? ⟨kb, ko, none⟩ = some u1 ∧ w.cell? ⟨kb, ko + 1, none⟩ = some u2 ∧ X.size ≤ 1000000000000 ∧ Y.size ≤ 1000000000000 ∧
        Hid (∀ m, Calls Tryd.prog 36 #[u1] (w.drewN m) (B.StrDrew X (w.drewN m))) ∧ Hid (∀ m, Calls Tryd.prog 36 #[u2] (w.drewN m) (B.StrDrew Y (w.drewN m))) ∧ ∀ a b c', twX a b c' ks.tx = a ++ X ++ b ++ Y ++ c' := fun h => by
      obtain ⟨a, ka, d, kd, rfl, h1, h2⟩ := okX_two hok h
      obtain ⟨kb, ko, u1, u2, rfl, hu1, hu2, ht1, ht2, _⟩ := Kid.two hkid
      have hs : (Fr.cons a ka (.cons d kd .nil)).sz = 1 + ka.sz + (1 + kd.sz + 0) := rfl
      have e1 : szT (a, ka) ≤ n := by unfold szT; simp only; omega
      have e2 : szT (d, kd) ≤ n := by unfold szT; simp only; omega
      have z1 := okX_sz h1
      have z2 := okX_sz h2
      exact ⟨txT (a, ka), txT (d, kd), kb, ko, u1, u2, c4, hu1, hu2, by omega, by omega, Lib.hid fun m => ih (a, ka) e1 h1 _ Sq u1 (ht1.drew m), Lib.hid fun m => ih (d, kd) e2 h2 _ Sq u2 (ht2.drew m), fun _ _ _ => rfl⟩
    rcases hk with k | k | k | k | k | k | k | k | k | k | k | k | k
    · rw [txT_k (R := ⟨#[42]⟩) (by unfold ndX; rw [if_pos k])]
      exact refTx100 (by rw [← k]; exact c0) c4
    · obtain ⟨X, Y, kb, ko, u1, u2, d4, h1, h2, hX, hY, CA, CB, hT⟩ := two (by omega)
      rw [txT_k (by unfold ndX; rw [if_neg (by omega), if_pos (by omega), hT])]
      exact refTx101 (by rw [← k]; exact c0) d4 h1 h2 hX hY CA CB
    · rw [txT_k (by unfold ndX; rw [if_neg (by omega), if_neg (by omega), if_pos k])]
      exact refTx110 (by rw [← k]; exact c0) c1 c4 (hnm.1 k).1 (hnm.1 k).2
    · rw [txT_k (by unfold ndX; rw [if_neg (by omega), if_neg (by omega), if_neg (by omega), if_pos k])]
      exact refTx111 (by rw [← k]; exact c0) c4
    · rw [txT_k (by unfold ndX; rw [if_neg (by omega), if_neg (by omega), if_neg (by omega), if_neg (by omega), if_pos k])]
      exact refTx112 (by rw [← k]; exact c0) c4
    · rw [txT_k (by unfold ndX; rw [if_neg (by omega), if_neg (by omega), if_neg (by omega), if_neg (by omega), if_neg (by omega), if_pos k])]
      exact refTx113 (by rw [← k]; exact c0) c4
    · obtain ⟨X, Y, kb, ko, u1, u2, d4, h1, h2, hX, hY, CA, CB, hT⟩ := two (by omega)
      rw [txT_k (by unfold ndX; rw [if_neg (by omega), if_pos (by omega), hT])]
      exact refTx114 (by rw [← k]; exact c0) d4 h1 h2 hX hY CA CB
    · rw [txT_k (by unfold ndX; rw [if_neg (by omega), if_neg (by omega), if_neg (by omega), if_neg (by omega), if_neg (by omega), if_neg (by omega), if_neg (by omega), if_neg (by omega), if_neg (by omega), if_neg (by omega), if_neg (by omega), if_pos k, k])]
      exact refTx115 ih (by rw [← k]; exact c0) c4 hkid (by omega) (by omega) (okX_rec hok (.inl k)) hnm.2
    · obtain ⟨X, Y, kb, ko, u1, u2, d4, h1, h2, hX, hY, CA, CB, hT⟩ := two (by omega)
      rw [txT_k (by unfold ndX; rw [if_neg (by omega), if_neg (by omega), if_neg (by omega), if_neg (by omega), if_neg (by omega), if_neg (by omega), if_pos k, hT])]
      exact refTx117 (by rw [← k]; exact c0) d4 h1 h2 hX hY CA CB
    · obtain ⟨X, Y, kb, ko, u1, u2, d4, h1, h2, hX, hY, CA, CB, hT⟩ := two (by omega)
      rw [txT_k (by unfold ndX; rw [if_neg (by omega), if_neg (by omega), if_neg (by omega), if_neg (by omega), if_neg (by omega), if_neg (by omega), if_neg (by omega), if_pos k, hT])]
      exact refTx118 (by rw [← k]; exact c0) d4 h1 h2 hX hY CA CB
    · obtain ⟨X, Y, kb, ko, u1, u2, d4, h1, h2, hX, hY, CA, CB, hT⟩ := two (by omega)
      rw [txT_k (by unfold ndX; rw [if_neg (by omega), if_neg (by omega), if_neg (by omega), if_neg (by omega), if_neg (by omega), if_neg (by omega), if_neg (by omega), if_neg (by omega), if_pos k, hT])]
      exact refTx119 (by rw [← k]; exact c0) d4 h1 h2 hX hY CA CB
    · obtain ⟨X, Y, kb, ko, u1, u2, d4, h1, h2, hX, hY, CA, CB, hT⟩ := two (by omega)
      rw [txT_k (by unfold ndX; rw [if_neg (by omega), if_neg (by omega), if_neg (by omega), if_neg (by omega), if_neg (by omega), if_neg (by omega), if_neg (by omega), if_neg (by omega), if_neg (by omega), if_pos k, hT])]
      exact refTx120 (by rw [← k]; exact c0) d4 h1 h2 hX hY CA CB
    · rw [txT_k (by unfold ndX; rw [if_neg (by omega), if_neg (by omega), if_neg (by omega), if_neg (by omega), if_neg (by omega), if_neg (by omega), if_neg (by omega), if_neg (by omega), if_neg (by omega), if_neg (by omega), if_pos k, k])]
      exact refTx121 ih (by rw [← k]; exact c0) c4 hkid (by omega) (by omega) (okX_rec hok (.inr k)) hnm.2
def swR (o : Option Tr) : ByteArray := match o with
  | none => ⟨#[]⟩
  | some t => if ckE (some t) = 0 ∨ kkE (some t) = 0 then txT t else ⟨#[]⟩
theorem kkE_ok {o : Option Tr} (h : kkE o = 0) : ∃ t, o = some t ∧ szT t ≤ 65536 ∧ kdT t = true := by
  cases o with
  | none => exact absurd h (by decide)
  | some t =>
    unfold kkE at h
    simp only at h
    split at h
    · rename_i h1
      split at h
      · rename_i h2; exact ⟨t, rfl, h1, h2⟩
      · exact absurd h (by decide)
    · exact absurd h (by decide)
theorem swR_one {o : Option Tr} (h : ckE o = 0 ∨ kkE o = 0) : ∃ t, o = some t ∧ szT t ≤ 65536 ∧ okX t ∧ swR o = txT t := by
  have hs : ∀ t, o = some t → swR o = txT t := fun t ht => by subst ht; unfold swR; simp only; rw [if_pos h]
  rcases h with h | h
  · obtain ⟨t, h1, h2, h3⟩ := ckE_ok h
    exact ⟨t, h1, h2, .inl h3, hs t h1⟩
  · obtain ⟨t, h1, h2, h3⟩ := kkE_ok h
    exact ⟨t, h1, h2, .inr h3, hs t h1⟩
theorem swR_no {o : Option Tr} (h1 : ¬ ckE o = 0) (h2 : ¬ kkE o = 0) : swR o = ⟨#[]⟩ := by
  cases o with
  | none => rfl
  | some t => unfold swR; simp only; rw [if_neg (fun h => h.elim h1 h2)]
set_option maxHeartbeats 3200000 in
set_option maxRecDepth 100000 in
theorem refShow {w : World} {Sq : Nat → Prop} {v : Value} (o : Option Tr) (hin : InO w Sq v o) (hz : szO o ≤ 1000000000) : Calls Tryd.prog 15 #[v] w (B.StrDrew (swR o) w) := by
  have cC := refCheck o hin hz
  have cK := fun m => refKind (w := w.drewN m) o (hin.drew m) hz
  by_cases h0 : ckE o = 0
  · obtain ⟨t, rfl, hz1, hok, hs⟩ := swR_one (.inl h0)
    have cT := fun m => refText (szT t) (by omega) t (Nat.le_refl _) hok (w.drewN m) Sq v (InT.drew hin m)
    have HS := Lib.hid hs
    rw [HS.out]
    rw [h0] at cC
    obtain ⟨X, hX⟩ : ∃ X, txT t = X := ⟨_, rfl⟩
    rw [hX] at cT ⊢
    clear hs h0 hX cK hin
    go_enter Tryd.func15, Tryd.ntmps15
    go_wp2_with fail
    refine cC.mono ?_
    rintro e w' ⟨rfl, q1, rfl⟩
    go_wp2_with fail
    refine (cT _).mono ?_
    rintro e w' ⟨rfl, q2, rfl⟩
    go_wp2_with fail
    go_ret
    exact B.str_drew _ rfl
  · by_cases h1 : kkE o = 0
    · obtain ⟨t, rfl, hz1, hok, hs⟩ := swR_one (.inr h1)
      have cT := fun m => refText (szT t) (by omega) t (Nat.le_refl _) hok (w.drewN m) Sq v (InT.drew hin m)
      have HS := Lib.hid hs
      rw [HS.out]
      rw [h1] at cK
      obtain ⟨X, hX⟩ : ∃ X, txT t = X := ⟨_, rfl⟩
      rw [hX] at cT ⊢
      obtain ⟨E, hE⟩ : ∃ E, ckE (some t) = E := ⟨_, rfl⟩
      rw [hE] at cC h0
      have h2 : (E != 0) = true := by rw [bne_iff_ne]; exact h0
      clear hs h1 hX hin hE h0
      go_enter Tryd.func15, Tryd.ntmps15
      go_wp2_with fail
      refine cC.mono ?_
      rintro e w' ⟨rfl, q1, rfl⟩
      go_wp2_with fail
      refine (cK _).mono ?_
      rintro e w' ⟨rfl, q2, rfl⟩
      go_wp2_with fail
      refine (cT _).mono ?_
      rintro e w' ⟨rfl, q3, rfl⟩
      go_wp2_with fail
      go_ret
      exact B.str_drew _ rfl
    · have HS := Lib.hid (swR_no h0 h1)
      rw [HS.out]
      obtain ⟨E, hE⟩ : ∃ E, ckE o = E := ⟨_, rfl⟩
      obtain ⟨F, hF⟩ : ∃ E, kkE o = E := ⟨_, rfl⟩
      rw [hE] at cC h0
      rw [hF] at cK h1
      have h2 : (E != 0) = true := by rw [bne_iff_ne]; exact h0
      have h3 : (F != 0) = true := by rw [bne_iff_ne]; exact h1
      clear hin hE hF h0 h1
      go_enter Tryd.func15, Tryd.ntmps15
      go_wp2_with fail
      refine cC.mono ?_
      rintro e w' ⟨rfl, q1, rfl⟩
      go_wp2_with fail
      refine (cK _).mono ?_
      rintro e w' ⟨rfl, q2, rfl⟩
      go_wp2_with fail
      go_ret
      exact B.str_drew _ rfl
end Go.Proofs.YtdofcjnkpgbjaaaDoor
