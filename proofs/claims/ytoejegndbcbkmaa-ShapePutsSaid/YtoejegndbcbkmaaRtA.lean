/-
  The document's Size and Deep: what they tell of trees.
-/
import Derived.Test.YtoejegndbcbkmaaHp
namespace Go.Proofs.Ytoejegndbcbkmaa
open Go.RowKit

def NumPost (n : Nat) (w : World) (e : Ending) (w' : World) : Prop := e = .returned (.int .i64 (n : Int)) ∧ w = w'
theorem num_ret {n : Nat} {z : Int} {w : World} (h : z = (n : Int)) : NumPost n w (.returned (.int .i64 z)) w := ⟨by rw [h], rfl⟩
set_option maxHeartbeats 1600000 in
set_option maxRecDepth 100000 in
theorem refSize : ∀ (n : Nat) (t : Tr), szT t ≤ n → n ≤ 1000000000 → ∀ (w : World) (Sq : Nat → Prop) (v : Value), InT w Sq v t →
    Calls Try.prog 43 #[v] w (NumPost (szT t) w)
  | 0, t, h, _, _, _, _, _ => absurd h (by unfold szT; omega)
  | n + 1, (x, ks), hn, hbig, w, Sq, v, hin => by
    have ih := refSize n
    obtain ⟨q, p, A, c, rfl, hq1, c0, c1, c2, c3, c4, hc, hkid⟩ := hin.open
    have HK := Lib.hid hkid
    have hsz : szT (x, ks) = 1 + ks.sz := rfl
    have hll := Fr.len_le ks
    obtain ⟨S, hS⟩ : ∃ S, szT (x, ks) = S := ⟨_, rfl⟩
    rw [hS] at hn hsz ⊢
    obtain ⟨N, hN⟩ : ∃ N, ks.len = N := ⟨_, rfl⟩
    rw [hN] at c4 hll
    have hN1 : N ≤ 1000000000 := by omega
    have HNN := Lib.hid hN
    have HSZ := Lib.hid hsz
    clear hin hkid hS hc hN hsz
    go_enter Try.func43, Try.ntmps43
    go_wp2_with fail
    go_loop [3, 4] (fun s i => ∃ (k : Nat) (done rest : Fr), i = .int .i64 k ∧ k = done.len ∧ ks = done.app rest ∧ s = .int .i64 ((1 + done.sz : Nat) : Int) ∧ Kid w Sq A rest k) (fun _ i => N - (intOf i).toNat)
    case atStart => exact ⟨0, .nil, ks, rfl, rfl, rfl, rfl, HK.out⟩
    case round =>
      obtain ⟨k, done, rest, rfl, hk, hks, rfl, hkid⟩ := hrel
      have hl : N = done.len + rest.len := by rw [← HNN.out, hks, Fr.len_app]
      have hs : ks.sz = done.sz + rest.sz := by rw [hks, Fr.sz_app]
      have hsz := HSZ.out
      have HKS := Lib.hid hks
      by_cases hlt : 0 < rest.len
      · obtain ⟨y, l, r, rfl⟩ := Fr.cut hlt
        obtain ⟨kb, ko, u, rfl, hkb, hcell, hu, hnext⟩ := hkid.next
        have hyl : szT (y, l) = 1 + l.sz := rfl
        have hsr : (Fr.cons y l r).sz = 1 + l.sz + r.sz := rfl
        have hlr : (Fr.cons y l r).len = r.len + 1 := rfl
        have cI := ih (y, l) (by omega) (by omega) w Sq u hu
        have HN := Lib.hid hnext
        have hkN : k < N := by omega
        have hkz : (k : Int) < (N : Int) := by omega
        have hb1 : done.sz + szT (y, l) ≤ 1000000000 := by omega
        have HK1 := Lib.hid hk
        obtain ⟨Z, hZ⟩ : ∃ Z, szT (y, l) = Z := ⟨_, rfl⟩
        rw [hZ] at cI hb1 hyl
        have HZ := Lib.hid hyl
        clear hkid hnext hu hks ih hk hl hs hlr hsr hsz hyl hZ
        go_wp2_with (go_at_call 43; refine cI.mono ?_; rintro e w' ⟨rfl, rfl⟩)
        go_round
        case rel => exact ⟨k + 1, done.app (.cons y l .nil), r, by go_num, by rw [Fr.len_app, HK1.out]; rfl, by rw [HKS.out, Fr.app_cons], i64_eq (by rw [Fr.sz_app, HZ.out]; simp only [Fr.sz]; omega), HN.out⟩
        case measure => simp [intOf]; omega
      · have h0 : rest = .nil := by
          cases rest with
          | nil => rfl
          | cons y l r => exact absurd (Nat.succ_pos _) hlt
        subst h0
        have hl' : N = done.len := by simpa [Fr.len] using hl
        have hs' : ks.sz = done.sz := by simpa [Fr.sz] using hs
        have hkz : ¬ (k : Int) < (N : Int) := by omega
        have HE : Hid (S = 1 + done.sz) := Lib.hid (by omega)
        clear hkid hks ih hk hl hl' hs hs' hsz
        go_wp2_with fail
        go_ret
        exact num_ret (by rw [HE.out]; omega)
set_option maxHeartbeats 1600000 in
set_option maxRecDepth 100000 in
theorem refDeep : ∀ (n : Nat) (t : Tr), szT t ≤ n → n ≤ 1000000000 → ∀ (w : World) (Sq : Nat → Prop) (v : Value), InT w Sq v t →
    Calls Try.prog 27 #[v] w (NumPost (dpT t) w)
  | 0, t, h, _, _, _, _, _ => absurd h (by unfold szT; omega)
  | n + 1, (x, ks), hn, hbig, w, Sq, v, hin => by
    have ih := refDeep n
    obtain ⟨q, p, A, c, rfl, hq1, c0, c1, c2, c3, c4, hc, hkid⟩ := hin.open
    have HK := Lib.hid hkid
    have hsz : szT (x, ks) = 1 + ks.sz := rfl
    have hdp : dpT (x, ks) = 1 + ks.dp := rfl
    have hll := Fr.len_le ks
    have hdl := Fr.dp_le ks
    obtain ⟨S, hS⟩ : ∃ S, szT (x, ks) = S := ⟨_, rfl⟩
    obtain ⟨D, hD⟩ : ∃ D, dpT (x, ks) = D := ⟨_, rfl⟩
    rw [hS] at hn hsz
    rw [hD] at hdp ⊢
    obtain ⟨N, hN⟩ : ∃ N, ks.len = N := ⟨_, rfl⟩
    rw [hN] at c4 hll
    have hN1 : N ≤ 1000000000 := by omega
    have HNN := Lib.hid hN
    have HSZ := Lib.hid hsz
    have HDP := Lib.hid hdp
    have HDL := Lib.hid hdl
    clear hin hkid hS hc hN hsz hD hdp hdl
    go_enter Try.func27, Try.ntmps27
    go_wp2_with fail
    go_loop [3, 4, 5] (fun s i _ => ∃ (k : Nat) (done rest : Fr), i = .int .i64 k ∧ k = done.len ∧ ks = done.app rest ∧ s = .int .i64 ((done.dp : Nat) : Int) ∧ Kid w Sq A rest k) (fun _ i _ => N - (intOf i).toNat)
    case atStart => exact ⟨0, .nil, ks, rfl, rfl, rfl, rfl, HK.out⟩
    case round =>
      obtain ⟨k, done, rest, rfl, hk, hks, rfl, hkid⟩ := hrel
      have hl : N = done.len + rest.len := by rw [← HNN.out, hks, Fr.len_app]
      have hs : ks.sz = done.sz + rest.sz := by rw [hks, Fr.sz_app]
      have hd : ks.dp = max done.dp rest.dp := by rw [hks, Fr.dp_app]
      have hsz := HSZ.out
      have hdd := Fr.dp_le done
      have HKS := Lib.hid hks
      by_cases hlt : 0 < rest.len
      · obtain ⟨y, l, r, rfl⟩ := Fr.cut hlt
        obtain ⟨kb, ko, u, rfl, hkb, hcell, hu, hnext⟩ := hkid.next
        have hyl : szT (y, l) = 1 + l.sz := rfl
        have hyd : dpT (y, l) = 1 + l.dp := rfl
        have hll2 := Fr.dp_le l
        have hsr : (Fr.cons y l r).sz = 1 + l.sz + r.sz := rfl
        have hlr : (Fr.cons y l r).len = r.len + 1 := rfl
        have cI := ih (y, l) (by omega) (by omega) w Sq u hu
        have HN := Lib.hid hnext
        have hkN : k < N := by omega
        have hkz : (k : Int) < (N : Int) := by omega
        have hb1 : done.dp ≤ 1000000000 ∧ dpT (y, l) ≤ 1000000000 := by omega
        have HK1 := Lib.hid hk
        obtain ⟨Z, hZ⟩ : ∃ Z, dpT (y, l) = Z := ⟨_, rfl⟩
        rw [hZ] at cI hb1 hyd
        have HZ := Lib.hid hyd
        obtain ⟨E, hE⟩ : ∃ E, done.dp = E := ⟨_, rfl⟩
        rw [hE] at hb1 ⊢
        have HE := Lib.hid hE
        clear hkid hnext hu hks ih hk hl hs hlr hsr hsz hyl hZ hd hdd hyd hll2 hE
        have hnew : (done.app (.cons y l .nil)).dp = max E Z := by rw [Fr.dp_app, HE.out, HZ.out]; simp only [Fr.dp]; omega
        have HNEW := Lib.hid hnew
        clear hnew
        by_cases hgt : E < Z
        · have hgz : (E : Int) < (Z : Int) := by omega
          go_wp2_with (go_at_call 27; refine cI.mono ?_; rintro e w' ⟨rfl, rfl⟩)
          go_round
          case rel => exact ⟨k + 1, done.app (.cons y l .nil), r, by go_num, by rw [Fr.len_app, HK1.out]; rfl, by rw [HKS.out, Fr.app_cons], i64_eq (by rw [HNEW.out]; omega), HN.out⟩
          case measure => simp [intOf]; omega
        · have hgz : ¬ (E : Int) < (Z : Int) := by omega
          go_wp2_with (go_at_call 27; refine cI.mono ?_; rintro e w' ⟨rfl, rfl⟩)
          go_round
          case rel => exact ⟨k + 1, done.app (.cons y l .nil), r, by go_num, by rw [Fr.len_app, HK1.out]; rfl, by rw [HKS.out, Fr.app_cons], i64_eq (by rw [HNEW.out]; omega), HN.out⟩
          case measure => simp [intOf]; omega
      · have h0 : rest = .nil := by
          cases rest with
          | nil => rfl
          | cons y l r => exact absurd (Nat.succ_pos _) hlt
        subst h0
        have hl' : N = done.len := by simpa [Fr.len] using hl
        have hd' : ks.dp = done.dp := by simpa [Fr.dp] using hd
        have hdz : done.dp ≤ 1000000000 := by have := HDL.out; have := HSZ.out; omega
        have hkz : ¬ (k : Int) < (N : Int) := by omega
        have HE : Hid (D = 1 + done.dp) := Lib.hid (by have := HDP.out; omega)
        clear hkid hks ih hk hl hl' hs hsz hd hd' hdd
        go_wp2_with fail
        go_ret
        exact num_ret (by rw [HE.out]; omega)
end Go.Proofs.Ytoejegndbcbkmaa
