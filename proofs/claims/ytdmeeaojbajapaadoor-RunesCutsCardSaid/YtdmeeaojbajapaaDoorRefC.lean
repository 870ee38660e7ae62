/-
  The document's own Count, Class, Check, Place, Name and Cut: what they tell.
-/
import Derived.Test.YtdmeeaojbajapaaDoorRefB
import Derived.Test.YtdmeeaojbajapaaDoorUtfB
namespace Go.Proofs.YtdmeeaojbajapaaDoor
open Go.RowKit

theorem ret_i64 {a b : Int} (h : a = b) : Ending.returned (.int .i64 b) = .returned (.int .i64 a) := by rw [h]
theorem ret_b {a b : Bool} (h : a = b) : Ending.returned (.bool b) = .returned (.bool a) := by rw [h]
theorem below_drewN' {B : Nat} {a w : World} (h : Below B a w) (n : Nat) : Below B a (w.drewN n) := h.trans ⟨rfl, rfl, rfl, Nat.le_refl _, fun _ _ => rfl⟩
theorem same_below {l m : List Nat} {w w' : World} {e : Ending} (h : SamePost l m w e w') : e = .returned (.bool (decide (l = m))) ∧ Below w.heap.size w w' := by
  obtain ⟨he, q, rfl⟩ := h
  exact ⟨he, below_drewN' (Below.refl _ _) q⟩

set_option maxHeartbeats 1600000 in
set_option maxRecDepth 100000 in
theorem refClass (r : Int) (w : World) : Calls Tryd.prog 20 #[.int .i32 r] w fun e w' => e = .returned (.int .i64 (cls r)) ∧ w = w' := by
  obtain ⟨c, hc⟩ : ∃ c, cls r = c := ⟨_, rfl⟩
  rw [hc]
  have HC := Lib.hid hc
  clear hc
  go_enter Tryd.func20, Tryd.ntmps20
  go_wp2
  all_goals go_ret
  all_goals
    refine ⟨ret_i64 (HC.out.symm.trans (cls_is r _ ?_)), rfl⟩
    simp only [beq_iff_eq, beq_eq_false_iff_ne, bne_iff_ne, bne_eq_false_iff_eq, ne_eq, and_true] at *
    omega

set_option maxHeartbeats 1600000 in
set_option maxRecDepth 100000 in
theorem refCount (s : ByteArray) (w : World) (hs : s.size ≤ 1000000000) :
    Calls Tryd.prog 15 #[.string s] w fun e w' => e = .returned (.int .i64 ((rl s).length : Nat)) ∧ Below w.heap.size w w' := by
  have cD := refDecode s w hs
  go_enter Tryd.func15, Tryd.ntmps15
  go_wp2_with (go_at_call 12; refine cD.mono ?_; rintro e w' ⟨v, rfl, ⟨A, c, rfl, _⟩, hb⟩)
  go_ret
  exact ⟨rfl, hb⟩

def CkPost (s : ByteArray) (w : World) (e : Ending) (w' : World) : Prop :=
  e = .returned (.tuple #[.int .i64 (if 16384 < s.size then (0, 3) else ck s 0).1, .int .i64 (if 16384 < s.size then ((0 : Int), (3 : Int)) else ck s 0).2]) ∧ Below w.heap.size w w'
theorem ck_long {s : ByteArray} {w w' : World} (h : 16384 < s.size) (hb : Below w.heap.size w w') : CkPost s w (.returned (.tuple #[.int .i64 0, .int .i64 3])) w' := by
  unfold CkPost
  exact ⟨by simp only [if_pos h], hb⟩
theorem ck_ret {s : ByteArray} {w w' : World} {a b : Int} (h : ¬ 16384 < s.size) (hc : ck s 0 = (a, b)) (hb : Below w.heap.size w w') : CkPost s w (.returned (.tuple #[.int .i64 a, .int .i64 b])) w' := by
  unfold CkPost
  exact ⟨by simp only [if_neg h, hc], hb⟩

set_option maxHeartbeats 1600000 in
set_option maxRecDepth 100000 in
theorem refCheck (s : ByteArray) (w : World) (hs : s.size ≤ 1000000000) :
    Calls Tryd.prog 18 #[.string s] w (CkPost s w) := by
  by_cases hbig : 16384 < s.size
  · have hz : (16384 : Int) < (s.size : Int) := by omega
    go_enter Tryd.func18, Tryd.ntmps18
    go_wp2
    go_ret2
    exact ck_long hbig (Below.refl _ _)
  · have hz : ¬ (16384 : Int) < (s.size : Int) := by omega
    go_enter Tryd.func18, Tryd.ntmps18
    go_wp2
    go_loop [4] (fun i => ∃ p : Nat, i = .int .i64 p ∧ p ≤ s.size ∧ ck s p = ck s 0) (fun i => s.size - (intOf i).toNat)
    case atStart => exact ⟨0, rfl, Nat.zero_le _, rfl⟩
    case round =>
      obtain ⟨p, rfl, hp, hc⟩ := hrel
      have HC := Lib.hid hc
      clear hc
      by_cases hlt : p < s.size
      · by_cases hb : bad s p = true
        · have hnx := nx_bad hb
          have HB := Lib.hid hb
          clear hb
          have cN : ∀ W, Calls Tryd.prog 29 #[.string s, .int .i64 p] W _ := fun W => next_at W hlt (by omega) hnx
          clear hnx
          go_wp2_with (go_at_call 29; refine (cN _).mono ?_; rintro e w' ⟨rfl, rfl⟩)
          go_ret2
          exact ck_ret hbig (by rw [← HC.out]; exact ck_stop hlt (by rw [dc_bad1 HB.out]; rfl)) (Below.refl _ _)
        · have hb' : bad s p = false := by simpa using hb
          clear hb
          have hnx := nx_good hb'
          clear hb'
          have hw1 := dc_pos s p
          have hw2 := dc_le s p hlt
          have HS := Lib.hid (ck_stop (s := s) hlt)
          have HN := Lib.hid (ck_next (s := s) hlt)
          obtain ⟨r, k, hrk⟩ : ∃ r k, dc s p = (r, k) := ⟨_, _, rfl⟩
          rw [hrk] at hnx hw1 hw2 HS HN
          dsimp only at hw1 hw2 HS HN
          clear hrk
          have cN : ∀ W, Calls Tryd.prog 29 #[.string s, .int .i64 p] W _ := fun W => next_at W hlt (by omega) hnx
          clear hnx
          have hk0 : ((k : Int) == 0) = false := by simp; omega
          go_wp2_with (go_at_call 29; refine (cN _).mono ?_; rintro e w' ⟨rfl, rfl⟩)
          all_goals first
            | (go_ret2
               exact ck_ret hbig (by rw [← HC.out]; exact HS.out (rdb_is _ _ (by simp only [beq_iff_eq, beq_eq_false_iff_ne, ne_eq, Bool.false_eq_true, false_iff] at *; omega))) (Below.refl _ _))
            | (go_round
               case rel => exact ⟨p + k, by go_num, hw2, by rw [← HN.out (rdb_is _ _ (by simp only [beq_eq_false_iff_ne, ne_eq, true_iff] at *; omega))]; exact HC.out⟩
               case measure => simp [intOf]; omega)
      · have e1 := ck_end hlt
        have hc := HC.out
        rw [e1] at hc
        have HC2 := Lib.hid hc
        clear hc e1
        go_wp2
        go_ret2
        exact ck_ret hbig HC2.out.symm (Below.refl _ _)

/-! ### Place -/
def plr (s : ByteArray) (at_ : Int) : Int × Int × Int :=
  if at_ < 0 ∨ (s.size : Int) < at_ then (0, 0, 2) else if vls s 0 then ((pl s at_ (1, 1) 0).1, (pl s at_ (1, 1) 0).2, 0) else (0, 0, 4)
def PlPost (s : ByteArray) (at_ : Int) (W : World) (e : Ending) (w' : World) : Prop :=
  e = .returned (.tuple #[.int .i64 (plr s at_).1, .int .i64 (plr s at_).2.1, .int .i64 (plr s at_).2.2]) ∧ Below W.heap.size W w'
theorem pl_out {s : ByteArray} {at_ : Int} {w w' : World} (h : at_ < 0 ∨ (s.size : Int) < at_) (hb : Below w.heap.size w w') : PlPost s at_ w (.returned (.tuple #[.int .i64 0, .int .i64 0, .int .i64 2])) w' := by
  unfold PlPost plr
  exact ⟨by simp only [if_pos h], hb⟩
theorem pl_bad {s : ByteArray} {at_ : Int} {w w' : World} (h : ¬ (at_ < 0 ∨ (s.size : Int) < at_)) (hv : vls s 0 = false) (hb : Below w.heap.size w w') : PlPost s at_ w (.returned (.tuple #[.int .i64 0, .int .i64 0, .int .i64 4])) w' := by
  unfold PlPost plr
  exact ⟨by simp [if_neg h, hv], hb⟩
theorem pl_ret {s : ByteArray} {at_ : Int} {w w' : World} {a b : Int} (h : ¬ (at_ < 0 ∨ (s.size : Int) < at_)) (hv : vls s 0 = true) (hc : pl s at_ (1, 1) 0 = (a, b)) (hb : Below w.heap.size w w') :
    PlPost s at_ w (.returned (.tuple #[.int .i64 a, .int .i64 b, .int .i64 0])) w' := by
  unfold PlPost plr
  exact ⟨by simp [if_neg h, hv, hc], hb⟩
theorem bhd_nl {l c : Int} {r : Nat} (h : r = 10) : bhd (l, c) r = (l + 1, 1) := by simp [bhd, h]
theorem bhd_other {l c : Int} {r : Nat} (h : r ≠ 10) : bhd (l, c) r = (l, c + 1) := by simp [bhd, h]

set_option maxHeartbeats 1600000 in
set_option maxRecDepth 100000 in
theorem refPlace (s : ByteArray) (at_ : Int) (w : World) (hs : s.size ≤ 1000000000) :
    Calls Tryd.prog 22 #[.string s, .int .i64 at_] w (PlPost s at_ w) := by
  by_cases hout : at_ < 0 ∨ (s.size : Int) < at_
  · rcases (show at_ < 0 ∨ (0 ≤ at_ ∧ (s.size : Int) < at_) by omega) with h1 | ⟨h0, h1⟩
    all_goals
      have HO := Lib.hid hout
      clear hout
      go_enter Tryd.func22, Tryd.ntmps22
      go_wp2
      go_ret3
      exact pl_out HO.out (Below.refl _ _)
  · have hz0 : 0 ≤ at_ := by omega
    have hz1 : at_ ≤ (s.size : Int) := by omega
    have HO := Lib.hid hout
    clear hout
    have cD := refDecode s w hs
    unfold DecPost at cD
    cases hv : vls s 0
    · rw [er_false hv] at cD
      have HV := Lib.hid hv
      clear hv
      go_enter Tryd.func22, Tryd.ntmps22
      go_wp2_with (go_at_call 12; refine cD.mono ?_; rintro e w' ⟨v, rfl, _, hb⟩)
      go_ret3
      exact pl_bad HO.out HV.out hb
    · rw [er_true hv] at cD
      have HV := Lib.hid hv
      clear hv
      go_enter Tryd.func22, Tryd.ntmps22
      go_wp2_with (go_at_call 12; refine cD.mono ?_; rintro e w' ⟨v, rfl, _, hb⟩)
      go_loop [9, 10, 11] (fun a b i => ∃ (p : Nat) (l c : Int), i = .int .i64 p ∧ a = .int .i64 l ∧ b = .int .i64 c ∧ p ≤ s.size ∧ 1 ≤ l ∧ l ≤ p + 1 ∧ 1 ≤ c ∧ c ≤ p + 1 ∧ pl s at_ (l, c) p = pl s at_ (1, 1) 0 ∧ vls s p = true) (fun _ _ i => s.size - (intOf i).toNat)
      case atStart => exact ⟨0, 1, 1, rfl, rfl, rfl, Nat.zero_le _, by omega, by omega, by omega, by omega, rfl, HV.out⟩
      case round =>
        obtain ⟨p, l, c, rfl, rfl, rfl, hp, hl1, hl2, hc1, hc2, hpl, hv⟩ := hrel
        have HP := Lib.hid hpl
        clear hpl
        by_cases hlt : p < s.size
        · obtain ⟨hb', hvn⟩ := vls_head hlt hv
          have hnx := nx_good hb'
          clear hb' hv
          have hw1 := dc_pos s p
          have hw2 := dc_le s p hlt
          have HS := Lib.hid (pl_stop (s := s) (at_ := at_) (st := (l, c)) hlt)
          have HN := Lib.hid (pl_next (s := s) (at_ := at_) (st := (l, c)) hlt)
          obtain ⟨r, k, hrk⟩ : ∃ r k, dc s p = (r, k) := ⟨_, _, rfl⟩
          rw [hrk] at hnx hw1 hw2 HS HN hvn
          dsimp only at hw1 hw2 HS HN hvn
          have HVN := Lib.hid hvn
          clear hrk hvn
          have cN : ∀ W, Calls Tryd.prog 29 #[.string s, .int .i64 p] W _ := fun W => next_at W hlt (by omega) hnx
          clear hnx
          by_cases hat : at_ < (p : Int) + (k : Int)
          · go_wp2_with (go_at_call 29; refine (cN _).mono ?_; rintro e w' ⟨rfl, rfl⟩)
            go_ret3
            exact pl_ret HO.out HV.out (by rw [← HP.out]; exact HS.out (by omega)) hb
          · by_cases hr : r = 10
            · have e1 : ((r : Int) == 10) = true := by simp [hr]
              have HR := Lib.hid (bhd_nl (l := l) (c := c) hr)
              clear hr
              go_wp2_with (go_at_call 29; refine (cN _).mono ?_; rintro e w' ⟨rfl, rfl⟩)
              go_round
              case rel => exact ⟨p + k, l + 1, 1, by go_num, rfl, rfl, hw2, by omega, by omega, by omega, by omega, by rw [← HR.out, ← HN.out (by omega)]; exact HP.out, HVN.out⟩
              case measure => simp [intOf]; omega
            · have e1 : ((r : Int) == 10) = false := by simp; omega
              have HR := Lib.hid (bhd_other (l := l) (c := c) hr)
              clear hr
              go_wp2_with (go_at_call 29; refine (cN _).mono ?_; rintro e w' ⟨rfl, rfl⟩)
              go_round
              case rel => exact ⟨p + k, l, c + 1, by go_num, rfl, rfl, hw2, by omega, by omega, by omega, by omega, by rw [← HR.out, ← HN.out (by omega)]; exact HP.out, HVN.out⟩
              case measure => simp [intOf]; omega
        · have HE := Lib.hid (pl_end (s := s) (at_ := at_) (st := (l, c)) hlt)
          go_wp2
          go_ret3
          exact pl_ret HO.out HV.out (by rw [← HP.out]; exact HE.out) hb
end Go.Proofs.YtdmeeaojbajapaaDoor
