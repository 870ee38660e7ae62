/-
  The document's Put: what it tells.
-/
import Derived.Test.YtmjdeadkekhpdaaRtD
namespace Go.Proofs.Ytmjdeadkekhpdaa
open Go.RowKit

def putO (t : Option Tr) (p : List Int) (s : Option Tr) : Option Tr := match t with
  | none => none
  | some t => match atT t p with
    | none => none
    | some _ => match s with
      | none => none
      | some s => some (withT t p s)
def putE (t : Option Tr) (p : List Int) (s : Option Tr) : Int := if atE t p ≠ 0 then atE t p else match s with
  | none => 1
  | some _ => 0
def TePost (S : Nat → Prop) (o : Option Tr) (z : Int) (W : World) (e : Ending) (w' : World) : Prop := ∃ v, e = .returned (.tuple #[v, .int .i64 z]) ∧ InO w' (Sin S W w') v o ∧ Below W.heap.size W w'
theorem te_ret {S : Nat → Prop} {o : Option Tr} {z y : Int} {W w' : World} {v : Value} (hz : z = y) (h : InO w' (Sin S W w') v o) (hb : Below W.heap.size W w') : TePost S o z W (.returned (.tuple #[v, .int .i64 y])) w' := ⟨v, by rw [hz], h, hb⟩
theorem put_no {t : Option Tr} {p : List Int} {s : Option Tr} (h : atE t p ≠ 0) : putO t p s = none ∧ putE t p s = atE t p := by
  refine ⟨?_, by unfold putE; rw [if_pos h]⟩
  cases t with
  | none => rfl
  | some t =>
    cases ha : atT t p with
    | none => simp only [putO, ha]
    | some u => exact absurd (at_yes ha).2 h
theorem put_nil {t : Option Tr} {p : List Int} (h : atE t p = 0) : putO t p none = none ∧ putE t p none = 1 := by
  refine ⟨?_, by unfold putE; rw [if_neg (by rw [h]; simp)]⟩
  cases t with
  | none => rfl
  | some t =>
    cases ha : atT t p with
    | none => simp only [putO, ha]
    | some u => simp only [putO, ha]
theorem atE_zero {t : Option Tr} {p : List Int} (h : atE t p = 0) : ∃ t' u, t = some t' ∧ atT t' p = some u := by
  cases t with
  | none => have h : (1 : Int) = 0 := h; omega
  | some t =>
    cases ha : atT t p with
    | none => rw [(at_no ha).2] at h; omega
    | some u => exact ⟨t, u, rfl, ha⟩
theorem put_yes {t s u : Tr} {p : List Int} (h : atT t p = some u) : putO (some t) p (some s) = some (withT t p s) ∧ putE (some t) p (some s) = 0 := by
  refine ⟨?_, by unfold putE; rw [if_neg (by rw [(at_yes h).2]; simp)]⟩
  simp only [putO, h]
set_option maxHeartbeats 3200000 in
set_option maxRecDepth 100000 in
theorem refPut (t : Option Tr) (p : List Int) (s : Option Tr) (w : World) (Sq : Nat → Prop) (v pv sv : Value) (hS : Bel Sq w.heap.size) (ht : InO w Sq v t) (hs : InO w Sq sv s) (hp : Sp w w.heap.size pv p) (hpl : p.length ≤ 1000000) (hsz : szO t ≤ 1000000000) :
    Calls Try.prog 26 #[v, pv, sv] w (TePost Sq (putO t p s) (putE t p s) w) := by
  have c1 := refAt t p w Sq w.heap.size v pv ht hp (by omega) hsz
  have HT := Lib.hid ht
  have HS := Lib.hid hs
  have HP := Lib.hid hp
  obtain ⟨PA, pc, rfl, -, -⟩ := hp
  have hv : ∃ a, v = .pointer a := by
    cases t with
    | none => exact ⟨none, ht⟩
    | some t => obtain ⟨q, o, h⟩ := InT.ptr ht; exact ⟨_, h⟩
  obtain ⟨va, rfl⟩ := hv
  have hsv : ∃ a, sv = .pointer a := by
    cases s with
    | none => exact ⟨none, hs⟩
    | some t => obtain ⟨q, o, h⟩ := InT.ptr hs; exact ⟨_, h⟩
  obtain ⟨sa, rfl⟩ := hsv
  clear ht hs
  by_cases he : atE t p = 0
  · rw [he] at c1
    obtain ⟨t', u, rfl, hat⟩ := atE_zero he
    cases s with
    | none =>
      have hsa : sa = none := by have h : Value.pointer sa = .pointer none := HS.out; injection h
      subst hsa
      have HU := Lib.hid (put_nil he)
      clear he hat
      go_enter Try.func26, Try.ntmps26
      go_wp2_with fail
      refine c1.mono ?_
      rintro e w1 ⟨v1, rfl, -, q, rfl⟩
      go_wp2_with fail
      go_ret2
      exact te_ret HU.out.2 (by rw [HU.out.1]; rfl) (below_drewN' (Below.refl _ _) q)
    | some s =>
      have HU := Lib.hid (put_yes (s := s) hat)
      obtain ⟨q0, o0, hsa⟩ := InT.ptr HS.out
      injection hsa with hsa
      subst hsa
      have c2 := fun qq => refWith p t' s u hat hsz hpl (w.drewN qq) Sq w.heap.size (.pointer va) (.slice PA p.length pc) (.pointer (some ⟨q0, o0, none⟩)) hS (InT.drew HT.out qq) (InT.drew HS.out qq) (HP.out.keep (Nat.le_refl _) fun _ _ => rfl) (Nat.le_refl _)
      have C2 := Lib.hid c2
      clear he hat c2
      go_enter Try.func26, Try.ntmps26
      go_wp2_with fail
      refine c1.mono ?_
      rintro e w1 ⟨v1, rfl, -, q, rfl⟩
      go_wp2_with fail
      refine (C2.out q).mono ?_
      rintro e w2 ⟨v2, rfl, hv2, hb2⟩
      have HV2 := Lib.hid hv2
      have HB2 := Lib.hid hb2
      clear hv2 hb2
      go_wp2_with fail
      go_ret2
      exact te_ret HU.out.2 (by rw [HU.out.1]; exact InT.keep HV2.out (fun _ h => h) fun _ _ => rfl) ((below_drewN' (Below.refl _ _) q).trans HB2.out)
  · have HU := Lib.hid (put_no (s := s) he)
    obtain ⟨z, hz⟩ : ∃ z, atE t p = z := ⟨_, rfl⟩
    rw [hz] at c1 he
    have hz1 : (z != 0) = true := by rw [bne_iff_ne]; exact he
    have hz2 : (z == 0) = false := by rw [beq_eq_false_iff_ne]; exact he
    have HZ := Lib.hid hz
    clear hz he
    go_enter Try.func26, Try.ntmps26
    go_wp2_with fail
    refine c1.mono ?_
    rintro e w1 ⟨v1, rfl, -, q, rfl⟩
    go_wp2_with fail
    go_ret2
    exact te_ret (by rw [HU.out.2, HZ.out]) (by rw [HU.out.1]; rfl) (below_drewN' (Below.refl _ _) q)
end Go.Proofs.Ytmjdeadkekhpdaa
