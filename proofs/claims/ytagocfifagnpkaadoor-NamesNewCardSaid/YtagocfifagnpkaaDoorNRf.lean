/-
  The document's Fresh: what it tells.
-/
import Derived.Test.YtagocfifagnpkaaDoorNRu
import Derived.Test.YtagocfifagnpkaaDoorNFrs
namespace Go.Proofs.YtagocfifagnpkaaDoor
open Go.RowKit

theorem frk_pos (base : ByteArray) {k : Nat} (h : 1 ≤ k) : base ++ T (numb (k : Int)) = frk base k := by
  unfold frk
  rw [if_neg (by omega), ← num_tx]
theorem in_next {base : ByteArray} {l : List ByteArray} {k : Nat} (h : ∀ j, j < k → frk base j ∈ l) (hk : frk base k ∈ l) : ∀ j, j < k + 1 → frk base j ∈ l := by
  intro j hj
  rcases Nat.lt_or_ge j k with h1 | h1
  · exact h j h1
  · rw [show j = k by omega]; exact hk
set_option maxHeartbeats 3200000 in
set_option maxRecDepth 100000 in
theorem refFresh (base : ByteArray) (l : List ByteArray) (v : Value) (w : World) (hv : Ss w w.heap.size v l) (hl : l.length ≤ 1000) (hb : base.size ≤ 1000000) :
    Calls Tryd.prog 30 #[.string base, v] w (SePost (frR base l) w) := by
  have c1 := refCk base w (by omega)
  have hno := fr_no (base := base) (taken := l)
  have hyes := fun h k => fr_yes (base := base) (taken := l) h (k := k)
  have hlong := fun h k => fr_long (base := base) (taken := l) h (k := k)
  obtain ⟨R, hR⟩ : ∃ R, frR base l = R := ⟨_, rfl⟩
  rw [hR] at hno hyes hlong ⊢
  obtain ⟨a, ha⟩ : ∃ a, nck base = a := ⟨_, rfl⟩
  rw [ha] at c1 hno hyes hlong
  have HV := Lib.hid hv
  have HA := Lib.hid ha
  obtain ⟨A, c, rfl, -, -⟩ := hv
  clear hR ha
  cases a
  · have HU := Lib.hid (hno rfl)
    clear hno hyes hlong
    go_enter Tryd.func30, Tryd.ntmps30
    go_wp2_with fail
    refine c1.mono ?_
    rintro e w1 ⟨rfl, hb1⟩
    go_wp2
    go_ret2
    exact se_ret HU.out hb1
  · have HYES := Lib.hid (hyes rfl)
    have HLONG := Lib.hid (hlong rfl)
    clear hno hyes hlong
    go_enter Tryd.func30, Tryd.ntmps30
    go_wp2_with fail
    refine c1.mono ?_
    rintro e w1 ⟨rfl, hb1⟩
    have HB1 := Lib.hid hb1
    have HV1 := Lib.hid (HV.out.on hb1)
    clear hb1 HV
    go_wp2_with fail
    refine (has_any l _ base w1 HV1.out (by omega)).mono ?_
    rintro e w' ⟨b, hm, rfl, rfl⟩
    have HM := Lib.hid hm
    clear hm
    cases b
    · have hn : frk base 0 ∉ l := fun h => by have := HM.out.2 h; cases this
      have HU := Lib.hid (HYES.out 0 ⟨fun j hj => absurd hj (Nat.not_lt_zero _), hn⟩)
      clear hn
      go_wp2
      go_ret2
      exact se_ret (by rw [HU.out, frk_zero, HA.out]; rfl) HB1.out
    · have hin : ∀ j, j < 1 → frk base j ∈ l := fun j hj => by rw [show j = 0 by omega, frk_zero]; exact HM.out.1 rfl
      have HIN := Lib.hid hin
      clear hin
      go_wp2
      go_loopw [6, 7] (fun i _ wr => ∃ k : Nat, 1 ≤ k ∧ i = .int .i64 k ∧ Below w1.heap.size w1 wr ∧ (∀ j, j < k → frk base j ∈ l)) (fun i _ _ => l.length + 1 - (intOf i).toNat)
      case atStart => exact ⟨1, Nat.le_refl _, rfl, Below.refl _ _, HIN.out⟩
      case round =>
        obtain ⟨k, hk, rfl, hbw, hin⟩ := hrel
        have hkl := fr_few hin
        have HI := Lib.hid hin
        have hfz := frk_size (base := base) k (by omega)
        have hpos := frk_pos base hk
        have cN := fun W => refNumber _ (k : Int) (Nat.le_refl _) (by omega) (by omega) W
        obtain ⟨Y, hY⟩ : ∃ Y, T (numb (k : Int)) = Y := ⟨_, rfl⟩
        rw [hY] at cN hpos
        have hyz : base.size + Y.size ≤ 1000100 := by rw [← app_size, hpos]; omega
        have hyes := HYES.out k
        have hlong := HLONG.out k HI.out
        have hnx := fun h => in_next HI.out (k := k) h
        obtain ⟨X, hX⟩ : ∃ X, frk base k = X := ⟨_, rfl⟩
        have HFREE : Hid (X ∉ l → IsFree base l k) := Lib.hid fun h => ⟨HI.out, by rw [hX]; exact h⟩
        rw [hX] at hpos hyes hlong hnx hfz
        have cK := fun W => refCk X W (by omega)
        obtain ⟨b, hb'⟩ : ∃ b, nck X = b := ⟨_, rfl⟩
        rw [hb'] at cK hyes hlong
        have HY2 := Lib.hid hyes
        have HL2 := Lib.hid hlong
        have HNX := Lib.hid hnx
        have HPOS := Lib.hid hpos
        have HBW := Lib.hid hbw
        have hbs := hbw.size
        have hs1 := HB1.out.size
        clear hin hyes hlong hnx hX hb' hbw HIN hY hpos
        go_wp2_with fail
        refine (cN _).mono ?_
        rintro e w2 ⟨rfl, q, rfl⟩
        have HB2 := Lib.hid (below_drewN' HBW.out q)
        clear HBW
        go_wp2_with fail
        rw [HPOS.out]
        refine (cK _).mono ?_
        rintro e w3 ⟨rfl, hb3⟩
        have HB3 := Lib.hid (HB2.out.trans (hb3.mono HB2.out.size))
        have hs3 := HB3.out.size
        clear hb3 HB2
        cases b
        · have HU := Lib.hid (HL2.out rfl)
          go_wp2
          go_ret2
          exact se_ret HU.out (HB1.out.trans (HB3.out.mono hs1))
        · go_wp2_with fail
          refine (has_any l _ X w3 ((HV1.out.below HB3.out).more hs3) (by omega)).mono ?_
          rintro e w' ⟨b, hm, rfl, rfl⟩
          have HM2 := Lib.hid hm
          clear hm
          cases b
          · have hn : X ∉ l := fun h => by have := HM2.out.2 h; cases this
            have HU := Lib.hid (HY2.out (HFREE.out hn))
            clear hn
            go_wp2
            go_ret2
            exact se_ret HU.out (HB1.out.trans (HB3.out.mono hs1))
          · have hkl2 := fr_few (HNX.out (HM2.out.1 (by trivial)))
            go_wp2
            go_roundw
            case rel => exact ⟨k + 1, by omega, by go_num, HB3.out, HNX.out (HM2.out.1 (by trivial))⟩
            case measure => simp [intOf]; omega
end Go.Proofs.YtagocfifagnpkaaDoor
