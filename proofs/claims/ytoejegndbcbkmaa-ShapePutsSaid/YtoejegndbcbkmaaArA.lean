/-
  The program's At: what it tells.
-/
import Derived.Test.YtoejegndbcbkmaaRtE
import Derived.Test.YtoejegndbcbkmaaArM
namespace Go.Proofs.Ytoejegndbcbkmaa
open Go.RowKit

theorem ptr_nil (w : World) (a : Addr) : (binOp .eql 25 (.pointer (some a)) (.pointer none)).run Try.prog w = .ok (.bool false) w := by
  have h : ∀ d : Nat, (Op.equalIn (d + 1) 25 (.pointer (some a)) (.pointer none)).run Try.prog w = .ok false w := fun d => by simp [Op.equalIn, run_underlying Try.underlying25]
  simp only [binOp]
  simp [Op.equal, Op.maxDepth, h 9999]
set_option maxHeartbeats 3200000 in
set_option maxRecDepth 100000 in
theorem arAt (t : Option Tr) (l : List Int) (w : World) (Sq : Nat → Prop) (C : Nat) (v pv : Value) (h : InO w Sq v t) (hp : Sp w C pv l) (hl : l.length ≤ 1000000000) :
    Calls Try.prog 17 #[v, pv] w (AtPost Sq (atO t l) (atE t l) w) := by
  obtain ⟨PA, pc, rfl, hplc, hpcl⟩ := hp
  have HP := Lib.hid hpcl
  clear hpcl
  cases t with
  | none =>
    have hv : v = .pointer none := h
    subst hv
    clear h
    go_enter Try.func17, Try.ntmps17
    go_wp2_with fail
    go_ret2
    exact at_ret rfl rfl ⟨0, rfl⟩
  | some t =>
    have hin : InT w Sq v t := h
    obtain ⟨q, p, hv⟩ := hin.ptr
    subst hv
    have HIN := Lib.hid hin
    have hnil := ptr_nil w ⟨q, p, none⟩
    obtain ⟨M, hM⟩ : ∃ M, l.length = M := ⟨_, rfl⟩
    rw [hM] at hplc hl ⊢
    have HM := Lib.hid hM
    clear h hin hM
    go_enter Try.func17, Try.ntmps17
    go_wp2_with fail
    go_loopw [0, 7, 12] (fun v _ i wr => AtRel t l w Sq v i wr) (fun _ _ i _ => M - (intOf i).toNat)
    case atStart => exact ⟨0, t, rfl, Nat.zero_le _, HIN.out, rfl, 0, rfl⟩
    case round =>
      obtain ⟨k, T, rfl, hk, hin, hat, qq, rfl⟩ := hrel
      rw [HM.out] at hk
      have HAT := Lib.hid hat
      clear hat hnil
      by_cases hlt : k < M
      · obtain ⟨x, hx⟩ : ∃ x, l[k]? = some x := ⟨_, List.getElem?_eq_getElem (by rw [HM.out]; exact hlt)⟩
        obtain ⟨pb, po, rfl, _, hpcell⟩ := HP.out k x hx
        have HD := Lib.hid (drop_at hx)
        have hkz : (k : Int) < (M : Int) := by omega
        obtain ⟨y, ks⟩ := T
        obtain ⟨q1, p1, A, c, rfl, hq1, c0, c1, c2, c3, c4, hc, hkid⟩ := hin.open
        obtain ⟨N, hN⟩ : ∃ N, ks.len = N := ⟨_, rfl⟩
        rw [hN] at c4
        have HK := Lib.hid hkid
        have HNN := Lib.hid hN
        clear hx hin hkid hc hN
        by_cases hneg : x < 0
        · have e1 : decide (x < 0) = true := by simpa using hneg
          have HE : Hid (atT t l = none) := Lib.hid (by rw [HAT.out, HD.out]; exact atT_none _ (getZ_neg hneg))
          go_wp2_with fail
          go_ret2
          exact at_ret (at_no HE.out).2 (by rw [(at_no HE.out).1]; rfl) ⟨_, rfl⟩
        · obtain ⟨m, rfl⟩ : ∃ m : Nat, x = (m : Int) := ⟨x.toNat, by omega⟩
          have e1 : decide ((m : Int) < 0) = false := by simp
          by_cases hge : N ≤ m
          · have e2 : decide ((N : Int) ≤ (m : Int)) = true := by simpa using hge
            have hgez : (N : Int) ≤ (m : Int) := by omega
            have HE : Hid (atT t l = none) := Lib.hid (by rw [HAT.out, HD.out]; exact atT_none _ (by rw [getZ_nat]; exact Fr.get_none (by rw [HNN.out]; exact hge)))
            go_wp2_with fail
            go_ret2
            exact at_ret (at_no HE.out).2 (by rw [(at_no HE.out).1]; rfl) ⟨_, rfl⟩
          · have e2 : decide ((N : Int) ≤ (m : Int)) = false := by simp; omega
            have hgez : (m : Int) < (N : Int) := by omega
            obtain ⟨u, hu⟩ := Fr.get_some (f := ks) (i := m) (by rw [HNN.out]; omega)
            obtain ⟨kb, ko, vu, rfl, hkb, hcell, hinu⟩ := HK.out.at hu
            obtain ⟨q2, p2, rfl⟩ := hinu.ptr
            have HIU := Lib.hid hinu
            have hnil2 := fun W => ptr_nil W ⟨q2, p2, none⟩
            have HE : Hid (atT t l = atT u (l.drop (k + 1))) := Lib.hid (by rw [HAT.out, HD.out]; exact atT_some _ (by rw [getZ_nat]; exact hu))
            clear hinu hu
            go_wp2_with fail
            go_roundw
            case rel => exact ⟨k + 1, u, by go_num, by rw [HM.out]; omega, HIU.out, HE.out, _, rfl⟩
            case measure => simp [intOf]; omega
      · have hkM : k = l.length := by rw [HM.out]; omega
        have HE : Hid (atT t l = some T) := Lib.hid (by rw [HAT.out, hkM, List.drop_length]; rfl)
        have hkz : ¬ (k : Int) < (M : Int) := by omega
        have HIN2 := Lib.hid hin
        clear hkM hin
        go_wp2_with fail
        go_ret2
        exact at_ret (at_yes HE.out).2 (by rw [(at_yes HE.out).1]; exact HIN2.out.drew _) ⟨_, rfl⟩
end Go.Proofs.Ytoejegndbcbkmaa
