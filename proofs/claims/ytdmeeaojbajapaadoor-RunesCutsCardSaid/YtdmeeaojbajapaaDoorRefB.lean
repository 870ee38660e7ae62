/-
  The document's Decode and Same: what they tell.
-/
import Derived.Test.YtdmeeaojbajapaaDoorRefA
import Derived.Test.YtdmeeaojbajapaaDoorMem
import Derived.Outline
import Derived.Deep.QuietTactic
import Derived.BigQuiet
import Derived.Deep.DeepMust
namespace Go.Proofs.YtdmeeaojbajapaaDoor
open Go.RowKit

/-- next, at a place where it tells (a, b). -/
theorem next_at {s : ByteArray} {i a b : Nat} (w : World) (hi : i < s.size) (hs : s.size ≤ 9223372036854775807) (h : nx s i = (a, b)) :
    Calls Tryd.prog 29 #[.string s, .int .i64 i] w fun e w' => e = .returned (.tuple #[.int .i32 (a : Int), .int .i64 (b : Int)]) ∧ w = w' := by
  have := next_any s i w hi hs
  unfold NxPost at this
  rw [h] at this
  exact this

def DecRel (s : ByteArray) (W : World) (v i : Value) (wr : World) : Prop :=
  ∃ (p : Nat) (l : List Nat), i = .int .i64 p ∧ p ≤ s.size ∧ l.length ≤ p ∧ wr.ownsRow W.heap.size 21 1 v l.length (cel l) ∧ Below W.heap.size W wr ∧ l ++ rns s p = rns s 0 ∧ vls s p = vls s 0

set_option maxHeartbeats 1600000 in
set_option maxRecDepth 100000 in
theorem refDecode (s : ByteArray) (w : World) (hs : s.size ≤ 1000000000) :
    Calls Tryd.prog 12 #[.string s] w (DecPost s w) := by
  obtain ⟨i0, hi, hz0, hz1, hz2⟩ := info_parts infoRune
  go_enter Tryd.func12, Tryd.ntmps12
  go_wp2
  go_loopw [4, 5] (fun v i wr => DecRel s w v i wr) (fun _ i _ => s.size - (intOf i).toNat)
  case atStart => exact ⟨0, [], rfl, Nat.zero_le _, Nat.zero_le _, World.ownsRow_nil _ _ _ _, Below.refl _ _, rfl, rfl⟩
  case round =>
    obtain ⟨p, l, rfl, hp, hlp, hown, hbel, hl, hv⟩ := hrel
    have HL := Lib.hid hl
    have HV := Lib.hid hv
    clear hl hv
    have hbs := hbel.size
    by_cases hlt : p < s.size
    · by_cases hb : bad s p = true
      · have hnx := nx_bad hb
        have HB := Lib.hid hb
        clear hb
        have cN : ∀ W, Calls Tryd.prog 29 #[.string s, .int .i64 p] W _ := fun W => next_at W hlt (by omega) hnx
        clear hnx
        go_wp2_with (go_at_call 29; refine (cN _).mono ?_; rintro e w' ⟨rfl, rfl⟩)
        go_ret2
        exact dec_bad (by rw [← HV.out]; exact vls_bad hlt HB.out) hbel
      · have hb' : bad s p = false := by simpa using hb
        clear hb
        have hnx := nx_good hb'
        have HB := Lib.hid hb'
        clear hb'
        have hw1 := dc_pos s p
        have hw2 := dc_le s p hlt
        have HR := Lib.hid (rns_step hlt)
        have HS := Lib.hid (vls_good hlt HB.out)
        obtain ⟨r, k, hrk⟩ : ∃ r k, dc s p = (r, k) := ⟨_, _, rfl⟩
        have hr := dc_rune s p
        rw [hrk] at hnx hw1 hw2 HR HS hr
        dsimp only at hw1 hw2 HR HS hr
        clear hrk
        have cN : ∀ W, Calls Tryd.prog 29 #[.string s, .int .i64 p] W _ := fun W => next_at W hlt (by omega) hnx
        clear hnx
        have hk0 : ((k : Int) == 0) = false := by simp; omega
        go_wp2_with (first
          | (go_at_call 29; refine (cN _).mono ?_; rintro e w' ⟨rfl, rfl⟩)
          | (at_builtin; go_loud (refine wpList_append_own _ rfl _ _ 23 rfl w.heap.size 21 i0 (.int .i32 0) 1 4 Tryd.underlying23 hi hz0 hz1 hz2 rfl (by decide) _ _ _ rfl (hown.alloc _) ⟨wr.heap.size, 0, none⟩ 1 1 [.int .i32 (r : Int)] rfl rfl (cell_one_new _ _ _) (fun x hx => by simp at hx; subst hx; rfl) (by unfold maxLen; omega) (by omega) (by simp; omega) ?_); intro v' w1 hown1 hgrow1 _))
        go_roundw
        case rel =>
          exact ⟨p + k, l ++ [r], by go_num, hw2, by simp; omega, by simpa [cel] using hown1, ((hbel.alloc hbs _).grown hgrow1 (by simp; omega) (fun g hg => (hown.lt g hg).1)),
            by rw [List.append_assoc, List.singleton_append, ← HR.out]; exact HL.out, by rw [← HS.out]; exact HV.out⟩
        case measure => simp [intOf]; omega
    · have e1 := rns_end hlt
      have e2 := vls_end hlt
      have hl := HL.out
      have hv := HV.out
      rw [e1, List.append_nil] at hl
      rw [e2] at hv
      have HL2 := Lib.hid hl
      have HV2 := Lib.hid hv
      clear hl hv e1 e2
      go_wp2
      go_ret2
      exact dec_good HV2.out.symm HL2.out hown hbel

/-! ### Same -/
theorem lists_eq {l m : List Nat} (hlen : l.length = m.length) (h : ∀ j, j < l.length → l[j]? = m[j]?) : l = m := by
  apply List.ext_getElem?
  intro j
  by_cases hj : j < l.length
  · exact h j hj
  · rw [List.getElem?_eq_none (by omega), List.getElem?_eq_none (by omega)]
theorem upto_next {l m : List Nat} {k x y : Nat} (h : ∀ j, j < k → l[j]? = m[j]?) (hx : l[k]? = some x) (hy : m[k]? = some y) (e : x = y) : ∀ j, j < k + 1 → l[j]? = m[j]? := by
  intro j hj
  by_cases e' : j = k
  · subst e'; rw [hx, hy, e]
  · exact h j (by omega)
theorem lists_ne {l m : List Nat} {k x y : Nat} (hx : l[k]? = some x) (hy : m[k]? = some y) (e : x ≠ y) : decide (l = m) = false := by
  rw [decide_eq_false_iff_not]
  rintro rfl
  rw [hx] at hy
  exact e (Option.some.inj hy)
def SamePost (l m : List Nat) (w : World) (e : Ending) (w' : World) : Prop := e = .returned (.bool (decide (l = m))) ∧ ∃ q, w' = w.drewN q
theorem same_ret {l m : List Nat} {w : World} {b : Bool} {q : Nat} (h : decide (l = m) = b) : SamePost l m w (.returned (.bool b)) (w.drewN q) := ⟨by rw [h], q, rfl⟩
theorem same_retW {l m : List Nat} {w w' : World} {b : Bool} (h : decide (l = m) = b) (hw : ∃ q, w' = w.drewN q) : SamePost l m w (.returned (.bool b)) w' := ⟨by rw [h], hw⟩
theorem same_ret0 {l m : List Nat} {w : World} {b : Bool} (h : decide (l = m) = b) : SamePost l m w (.returned (.bool b)) w := ⟨by rw [h], 0, rfl⟩

set_option maxHeartbeats 1600000 in
set_option maxRecDepth 100000 in
theorem same_any {B B' : Nat} {v v' : Value} {l m : List Nat} (w : World) (h : Sl w B v l) (h' : Sl w B' v' m) (hl : l.length ≤ 1000000000) :
    Calls Tryd.prog 13 #[v, v'] w (SamePost l m w) := by
  obtain ⟨A, c, rfl, hA⟩ := h
  obtain ⟨A', c', rfl, hA'⟩ := h'
  by_cases hne : l.length = m.length
  · have H1 := Lib.hid hA
    have H2 := Lib.hid hA'
    have HE := Lib.hid hne
    have hnb : ((l.length : Int) != (m.length : Int)) = false := by simp [hne]
    clear hA hA' hne
    go_enter Tryd.func13, Tryd.ntmps13
    go_wp2
    go_loopw [5] (fun i wr => ∃ k : Nat, i = .int .i64 k ∧ k ≤ l.length ∧ (∀ j, j < k → l[j]? = m[j]?) ∧ ∃ q, wr = w.drewN q) (fun i _ => l.length - (intOf i).toNat)
    case atStart => exact ⟨0, rfl, Nat.zero_le _, fun j h => by omega, 0, rfl⟩
    case round =>
      obtain ⟨k, rfl, hk, hall, q, rfl⟩ := hrel
      have HA := Lib.hid hall
      clear hall
      by_cases hlt : k < l.length
      · have hm1 : k < m.length := by have := HE.out; omega
        obtain ⟨x, hx⟩ : ∃ x, l[k]? = some x := ⟨_, List.getElem?_eq_getElem hlt⟩
        obtain ⟨y, hy⟩ : ∃ y, m[k]? = some y := ⟨_, List.getElem?_eq_getElem hm1⟩
        obtain ⟨a1, rfl, _, hc1⟩ := H1.out k x hx
        obtain ⟨a2, rfl, _, hc2⟩ := H2.out k y hy
        have HX := Lib.hid hx
        have HY := Lib.hid hy
        clear hx hy
        have hlz : (k : Int) < (l.length : Int) := by omega
        have hmz : (k : Int) < (m.length : Int) := by omega
        by_cases e : x = y
        · have e1 : ((x : Int) == (y : Int)) = true := by simp [e]
          have e2 : ((x : Int) != (y : Int)) = false := by simp [e]
          have HEQ := Lib.hid e
          clear e
          go_wp2
          go_quiet (fail)
          go_wp2
          go_roundw
          case rel => exact ⟨k + 1, by go_num, hlt, upto_next HA.out HX.out HY.out HEQ.out, _, rfl⟩
          case measure => simp [intOf]; omega
        · have e1 : ((x : Int) == (y : Int)) = false := by simp; omega
          have e2 : ((x : Int) != (y : Int)) = true := by simp; omega
          have HEQ := Lib.hid e
          clear e
          go_wp2
          go_quiet (fail)
          go_wp2
          go_ret
          exact same_retW (lists_ne HX.out HY.out HEQ.out) ⟨_, World.drewN_drewN _ _ _⟩
      · have hlz : ¬ (k : Int) < (l.length : Int) := by omega
        go_wp2
        go_ret
        exact same_ret (decide_eq_true (lists_eq HE.out fun j hj => HA.out j (by omega)))
  · have hnb : ((l.length : Int) != (m.length : Int)) = true := by simp; omega
    have HE : Hid (decide (l = m) = false) := Lib.hid (by rw [decide_eq_false_iff_not]; intro e; exact hne (by rw [e]))
    clear hA hA' hne
    go_enter Tryd.func13, Tryd.ntmps13
    go_wp2
    go_ret
    exact same_ret0 HE.out
end Go.Proofs.YtdmeeaojbajapaaDoor
