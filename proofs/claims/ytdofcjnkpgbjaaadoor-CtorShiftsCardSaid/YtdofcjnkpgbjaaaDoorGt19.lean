/-
  Layer 10, the document's side: Shift, Subst, Free, Occurs.
-/
import Derived.Test.YtdofcjnkpgbjaaaDoorGt18
namespace Go.Proofs.YtdofcjnkpgbjaaaDoor
open Go.RowKit

def errO (z : Int) : Option Tr → Option Tr × Int
  | none => (none, z)
  | some t => (some t, 0)
def shR (b c : Int) (o : Option Tr) : Option Tr × Int := if ckE o = 0 then (if c < 0 then (none, 2) else match o with
    | none => (none, 1)
    | some t => errO 2 (mvT b c 0 t))
  else (none, ckE o)
def ErP (R : Option Tr × Int) (W : World) (e : Ending) (w' : World) : Prop := ∃ v, e = .returned (.tuple #[v, .int .i64 R.2]) ∧ Up W w' ∧ NwO W w' v R.1
theorem erp_none {R : Option Tr × Int} {W w' : World} {z : Int} (h : R = (none, z)) (u : Up W w') : ErP R W (.returned (.tuple #[.pointer none, .int .i64 z])) w' := ⟨_, by rw [h], u, by rw [h]; rfl⟩
theorem NwO.up {W a w : World} {v : Value} {o : Option Tr} (h : NwO W a v o) (u : Up a w) : NwO W w v o := by
  cases o with
  | none => exact h
  | some t => exact NwT.up h u
theorem NwO.base {W a w : World} {v : Value} {o : Option Tr} (h : NwO a w v o) (u : W.heap.size ≤ a.heap.size) : NwO W w v o := by
  cases o with
  | none => exact h
  | some t => exact NwT.base h u
theorem NwO.has {W w : World} {v : Value} {o : Option Tr} (h : NwO W w v o) : HasT w v o := by
  cases o with
  | none => exact h
  | some t => exact NwT.has h
set_option maxHeartbeats 3200000 in
set_option maxRecDepth 100000 in
theorem refShift {w : World} {Sq : Nat → Prop} {v : Value} (o : Option Tr) (b c : Int) (hS : Bel Sq w.heap.size) (hin : InO w Sq v o) (hz : szO o ≤ 1000000000) : Calls Tryd.prog 18 #[v, .int .i64 b, .int .i64 c] w (ErP (shR b c o) w) := by
  have cC := refCheck o hin hz
  by_cases h0 : ckE o = 0
  · obtain ⟨t, rfl, hz1, hc1⟩ := ckE_ok h0
    have hin : InT w Sq v t := hin
    have cM := fun m => refMoved b c (szT t) t (Nat.le_refl _) (co_tvok hc1) 0 (by omega) (w.drewN m) Sq v hS (hin.drew m)
    rw [h0] at cC
    by_cases h1 : c < 0
    · have HR : Hid (shR b c (some t) = (none, 2)) := Lib.hid (by unfold shR; rw [if_pos h0, if_pos h1])
      clear cM hin h0
      go_enter Tryd.func18, Tryd.ntmps18
      go_wp2_with fail
      refine cC.mono ?_
      rintro e w' ⟨rfl, q1, rfl⟩
      go_wp2_with fail
      go_ret2
      exact erp_none HR.out ((Up.refl _).drewN _)
    · obtain ⟨R, hR⟩ : ∃ R, mvT b c 0 t = R := ⟨_, rfl⟩
      have HR : Hid (shR b c (some t) = errO 2 R) := Lib.hid (by unfold shR; rw [if_pos h0, if_neg h1, ← hR])
      rw [hR] at cM
      clear hin h0 hR
      go_enter Tryd.func18, Tryd.ntmps18
      go_wp2_with fail
      refine cC.mono ?_
      rintro e w' ⟨rfl, q1, rfl⟩
      go_wp2_with fail
      refine (cM _).mono ?_
      rintro e w' ⟨v', rfl, u', h'⟩
      have U' := Lib.hid (((Up.refl w).drewN q1).trans u')
      have H' := Lib.hid h'
      clear u' h' cM cC
      cases R with
      | none =>
        go_wp2_with fail
        go_ret2
        exact erp_none HR.out U'.out
      | some t' =>
        go_wp2_with fail
        go_ret2
        exact ⟨v', by rw [HR.out]; rfl, U'.out, by rw [HR.out]; exact NwO.base (o := some t') H'.out (Nat.le_refl _)⟩
  · have HR : Hid (shR b c o = (none, ckE o)) := Lib.hid (by unfold shR; rw [if_neg h0])
    obtain ⟨E, hE⟩ : ∃ E, ckE o = E := ⟨_, rfl⟩
    rw [hE] at cC HR h0
    clear hin hE
    go_enter Tryd.func18, Tryd.ntmps18
    go_wp2_with fail
    refine cC.mono ?_
    rintro e w' ⟨rfl, q1, rfl⟩
    go_wp2_with fail
    go_ret2
    exact erp_none HR.out ((Up.refl _).drewN _)
def frR (o : Option Tr) : Int := match o with
  | none => 0
  | some t => if ckE (some t) = 0 then fvT 0 t else 0
def ocR (o : Option Tr) (i : Int) : Bool := match o with
  | none => false
  | some t => decide (ckE (some t) = 0) && (decide (0 ≤ i) && decide (0 < ctT i 0 t))
set_option maxHeartbeats 3200000 in
set_option maxRecDepth 100000 in
theorem refFree {w : World} {Sq : Nat → Prop} {v : Value} (o : Option Tr) (hin : InO w Sq v o) (hz : szO o ≤ 1000000000) : Calls Tryd.prog 21 #[v] w (DrI (frR o) w) := by
  have cC := refCheck o hin hz
  by_cases h0 : ckE o = 0
  · obtain ⟨t, rfl, hz1, hc1⟩ := ckE_ok h0
    have hin : InT w Sq v t := hin
    have cM := fun m => refFree0 (szT t) t (Nat.le_refl _) (co_tvok hc1) 0 (by omega) (w.drewN m) Sq v (hin.drew m)
    have HR : Hid (frR (some t) = fvT 0 t) := Lib.hid (if_pos h0)
    obtain ⟨R, hR⟩ : ∃ R, fvT 0 t = R := ⟨_, rfl⟩
    rw [h0] at cC
    rw [hR] at cM HR
    clear hin h0 hR
    go_enter Tryd.func21, Tryd.ntmps21
    go_wp2_with fail
    refine cC.mono ?_
    rintro e w' ⟨rfl, q1, rfl⟩
    go_wp2_with fail
    refine (cM _).mono ?_
    rintro e w' ⟨rfl, q2, rfl⟩
    go_wp2_with fail
    go_ret
    exact dri _ HR.out.symm
  · have HR : Hid (frR o = 0) := Lib.hid (by
      cases o with
      | none => rfl
      | some t => exact if_neg h0)
    obtain ⟨E, hE⟩ : ∃ E, ckE o = E := ⟨_, rfl⟩
    rw [hE] at cC h0
    have h1 : (E != 0) = true := by rw [bne_iff_ne]; exact h0
    clear hin hE
    go_enter Tryd.func21, Tryd.ntmps21
    go_wp2_with fail
    refine cC.mono ?_
    rintro e w' ⟨rfl, q1, rfl⟩
    go_wp2_with fail
    go_ret
    exact dri _ HR.out.symm
set_option maxHeartbeats 3200000 in
set_option maxRecDepth 100000 in
theorem refOccurs {w : World} {Sq : Nat → Prop} {v : Value} (o : Option Tr) (i : Int) (hin : InO w Sq v o) (hz : szO o ≤ 1000000000) : Calls Tryd.prog 23 #[v, .int .i64 i] w (DrB (ocR o i) w) := by
  have cC := refCheck o hin hz
  by_cases h0 : ckE o = 0
  · obtain ⟨t, rfl, hz1, hc1⟩ := ckE_ok h0
    have hin : InT w Sq v t := hin
    have cM := fun m => refCount i (szT t) t (Nat.le_refl _) (co_tvok hc1) 0 (by omega) (w.drewN m) Sq v (hin.drew m)
    obtain ⟨R, hR⟩ : ∃ R, ctT i 0 t = R := ⟨_, rfl⟩
    obtain ⟨b1, h1⟩ : ∃ b, decide (0 ≤ i) = b := ⟨_, rfl⟩
    have HR : Hid (ocR (some t) i = (b1 && decide (0 < R))) := Lib.hid (by
      unfold ocR
      simp only
      rw [decide_eq_true h0, hR, h1, Bool.true_and])
    rw [h0] at cC
    rw [hR] at cM
    clear hin h0 hR
    cases b1 with
    | false =>
      clear cM
      go_enter Tryd.func23, Tryd.ntmps23
      go_wp2_with fail
      refine cC.mono ?_
      rintro e w' ⟨rfl, q1, rfl⟩
      go_wp2_with fail
      go_ret
      exact drb _ HR.out.symm
    | true =>
      go_enter Tryd.func23, Tryd.ntmps23
      go_wp2_with fail
      refine cC.mono ?_
      rintro e w' ⟨rfl, q1, rfl⟩
      go_wp2_with fail
      refine (cM _).mono ?_
      rintro e w' ⟨rfl, q2, rfl⟩
      go_wp2_with fail
      go_ret
      exact drb _ HR.out.symm
  · have HR : Hid (ocR o i = false) := Lib.hid (by
      cases o with
      | none => rfl
      | some t => unfold ocR; simp only; rw [decide_eq_false h0]; rfl)
    obtain ⟨E, hE⟩ : ∃ E, ckE o = E := ⟨_, rfl⟩
    rw [hE] at cC h0
    have h1 : (E == 0) = false := by rw [beq_eq_false_iff_ne]; exact h0
    clear hin hE
    go_enter Tryd.func23, Tryd.ntmps23
    go_wp2_with fail
    refine cC.mono ?_
    rintro e w' ⟨rfl, q1, rfl⟩
    go_wp2_with fail
    go_ret
    exact drb _ HR.out.symm
def sbR (i : Int) (o p : Option Tr) : Option Tr × Int := if ckE o = 0 then (if ckE p = 0 then (if i < 0 then (none, 2) else match o, p with
    | some t, some u => if 65536 < szT t - ctT i 0 t + ctT i 0 t * szT u then (none, 3) else errO 3 (ptT i u 0 t)
    | _, _ => (none, 1)) else (none, ckE p)) else (none, ckE o)
theorem size_dr {P : Program} {f : FuncId} {args : Array Value} {w : World} {n : Nat} (h : Calls P f args w (NumPost n w)) : Calls P f args w fun e w' => e = .returned (.int .i64 (n : Int)) ∧ ∃ m, w' = w.drewN m := h.mono fun _ _ ⟨he, hm⟩ => ⟨he, 0, hm.symm⟩
theorem sb_large {c s u : Nat} (hc : 0 < c) (h : 65536 / c < u) : 65536 < s - c + c * u := by
  have h1 := (Nat.div_lt_iff_lt_mul hc).1 h
  rw [Nat.mul_comm] at h1
  omega
set_option maxHeartbeats 3200000 in
set_option maxRecDepth 100000 in
theorem refSubst {w : World} {Sq : Nat → Prop} {v uv : Value} (o p : Option Tr) (i : Int) (hS : Bel Sq w.heap.size) (hin : InO w Sq v o) (hz : szO o ≤ 1000000000) (hup : InO w Sq uv p) (hzp : szO p ≤ 1000000000) : Calls Tryd.prog 25 #[v, .int .i64 i, uv] w (ErP (sbR i o p) w) := by
  have cC := refCheck o hin hz
  have cP := fun m => refCheck (w := w.drewN m) p (hup.drew m) hzp
  have CP := Lib.hid cP
  by_cases h0 : ckE o = 0
  · by_cases h1 : ckE p = 0
    · obtain ⟨t, rfl, hz1, hc1⟩ := ckE_ok h0
      obtain ⟨u, rfl, hz2, hc2⟩ := ckE_ok h1
      have hin : InT w Sq v t := hin
      have hup : InT w Sq uv u := hup
      have cT := fun m => refCount i (szT t) t (Nat.le_refl _) (co_tvok hc1) 0 (by omega) (w.drewN m) Sq v (hin.drew m)
      have cM := fun m => refPutC i u (by omega) (co_tvok hc2) (szT t) t (Nat.le_refl _) (co_tvok hc1) 0 (by omega) (w.drewN m) Sq v hS (hin.drew m) uv (hup.drew m)
      have cS1 := fun m => size_dr (refSize (szT t) t (Nat.le_refl _) (by omega) (w.drewN m) Sq v (hin.drew m))
      have cS2 := fun m => size_dr (refSize (szT u) u (Nat.le_refl _) (by omega) (w.drewN m) Sq uv (hup.drew m))
      rw [h0] at cC
      rw [h1] at cP
      by_cases h2 : i < 0
      · have HR : Hid (sbR i (some t) (some u) = (none, 2)) := Lib.hid (by unfold sbR; rw [if_pos h0, if_pos h1, if_pos h2])
        clear cM cT cS1 cS2 CP hin hup h0 h1
        go_enter Tryd.func25, Tryd.ntmps25
        go_wp2_with fail
        refine cC.mono ?_
        rintro e w' ⟨rfl, q1, rfl⟩
        go_wp2_with fail
        refine (cP _).mono ?_
        rintro e w' ⟨rfl, q2, rfl⟩
        go_wp2_with fail
        go_ret2
        exact erp_none HR.out ((Up.refl _).drewN _)
      · have hcs := ctT_le i 0 t
        obtain ⟨C, hC⟩ : ∃ C, ctT i 0 t = C := ⟨_, rfl⟩
        obtain ⟨S, hSz⟩ : ∃ C, szT t = C := ⟨_, rfl⟩
        obtain ⟨U, hU⟩ : ∃ C, szT u = C := ⟨_, rfl⟩
        obtain ⟨R, hR⟩ : ∃ R, ptT i u 0 t = R := ⟨_, rfl⟩
        have hRR : sbR i (some t) (some u) = if 65536 < S - C + C * U then (none, 3) else errO 3 R := by unfold sbR; rw [if_pos h0, if_pos h1, if_neg h2, ← hR, ← hC, ← hSz, ← hU]
        rw [hC] at cT hcs
        rw [hR] at cM
        rw [hSz] at cS1 hz1 hcs
        rw [hU] at cS2 hz2
        have HCT := Lib.hid cT
        have HCM := Lib.hid cM
        have HS1 := Lib.hid cS1
        have HS2 := Lib.hid cS2
        obtain ⟨Q, hQ⟩ : ∃ Q, S - C = Q := ⟨_, rfl⟩
        obtain ⟨P, hP⟩ : ∃ Q9, C * U = Q9 := ⟨_, rfl⟩
        obtain ⟨T, hT⟩ : ∃ Q9, Q + P = Q9 := ⟨_, rfl⟩
        have hPb : P ≤ 65536 * 65536 := by rw [← hP]; exact Nat.mul_le_mul (by omega) hz2
        have HE1 : Hid (IntKind.i64.wrap ((S : Int) - (C : Int)) = (Q : Int)) := Lib.hid (by rw [IntKind.wrap_i64]; omega)
        have HE2 : Hid (IntKind.i64.wrap ((C : Int) * (U : Int)) = (P : Int)) := Lib.hid (by rw [← hP] at hPb ⊢; rw [← Int.natCast_mul, IntKind.wrap_i64]; omega)
        have HE3 : Hid (IntKind.i64.wrap ((Q : Int) + (P : Int)) = (T : Int)) := Lib.hid (by rw [IntKind.wrap_i64]; omega)
        obtain ⟨b4, h4⟩ : ∃ b, decide ((65536 : Int) < (T : Int)) = b := ⟨_, rfl⟩
        have hF : b4 = true → sbR i (some t) (some u) = (none, 3) := fun h => by rw [hRR, if_pos]; rw [h] at h4; have := of_decide_eq_true h4; rw [hQ, hP, hT]; omega
        have hG : b4 = false → sbR i (some t) (some u) = errO 3 R := fun h => by rw [hRR, if_neg]; rw [h] at h4; have := of_decide_eq_false h4; rw [hQ, hP, hT]; omega
        have hLa : 0 < C → 65536 / C < U → sbR i (some t) (some u) = (none, 3) := fun h h' => by rw [hRR, if_pos (sb_large h h')]
        have HF := Lib.hid hF
        have HG := Lib.hid hG
        have HLA := Lib.hid hLa
        clear cM cT cS1 cS2 CP hin hup h0 h1 hRR hC hSz hU hR hz hzp hQ hP hT hPb hF hG hLa
        go_enter Tryd.func25, Tryd.ntmps25
        go_wp2_with fail
        refine cC.mono ?_
        rintro e w' ⟨rfl, q1, rfl⟩
        go_wp2_with fail
        refine (cP _).mono ?_
        rintro e w' ⟨rfl, q2, rfl⟩
        go_wp2_with fail
        refine (HCT.out _).mono ?_
        rintro e w' ⟨rfl, q3, rfl⟩
        clear cC cP
        go_wp2_with fail
        clear hcs hz1 hz2
        by_cases hc0 : 0 < C
        · have d1 : decide ((0 : Int) < (C : Int)) = true := decide_eq_true (by omega)
          have d0 : ¬ (C : Int) = 0 := by omega
          have d9 : 0 ≤ (65536 : Int) ∧ (65536 : Int) ≤ 9223372036854775807 ∧ 1 ≤ (C : Int) := ⟨by omega, by omega, by omega⟩
          obtain ⟨b3, h3⟩ : ∃ b, decide ((65536 : Int) / (C : Int) < (U : Int)) = b := ⟨_, rfl⟩
          cases b3 with
          | true =>
            have HR := Lib.hid (HLA.out hc0 (by have h := of_decide_eq_true h3; rw [show ((65536 : Int)) = ((65536 : Nat) : Int) from rfl, ← Int.natCast_ediv] at h; omega))
            clear h4
            go_big_quiet ((go_at_call 46; first | with_reducible exact quiet_off (HS2.out _) | with_reducible exact quiet_off (HS1.out _)))
            go_wp2_with fail
            go_ret2
            try rw [World.drewN_drewN]
            exact erp_none HR.out ((Up.refl _).drewN _)
          | false =>
            have e1 := HE1.out
            have e2 := HE2.out
            have e3 := HE3.out
            go_big_quiet ((go_at_call 46; first | with_reducible exact quiet_off (HS2.out _) | with_reducible exact quiet_off (HS1.out _)))
            clear e1 e2 e3
            cases b4 with
            | true =>
              have HR := Lib.hid (HF.out rfl)
              go_wp2_with fail
              go_ret2
              try rw [World.drewN_drewN]
              exact erp_none HR.out ((Up.refl _).drewN _)
            | false =>
              have HR := Lib.hid (HG.out rfl)
              try rw [World.drewN_drewN]
              clear HF HG HLA h3
              go_wp2_with fail
              refine (HCM.out _).mono ?_
              rintro e w' ⟨v', rfl, u', h'⟩
              have U' := Lib.hid (((Up.refl w).drewN _).trans u')
              have H' := Lib.hid h'
              clear u' h'
              cases R with
              | none =>
                go_wp2_with fail
                go_ret2
                exact erp_none HR.out U'.out
              | some t' =>
                go_wp2_with fail
                go_ret2
                exact ⟨v', by rw [HR.out]; rfl, U'.out, by rw [HR.out]; exact NwO.base (o := some t') H'.out (Nat.le_refl _)⟩
        · have d1 : decide ((0 : Int) < (C : Int)) = false := decide_eq_false (by omega)
          have e1 := HE1.out
          have e2 := HE2.out
          have e3 := HE3.out
          go_big_quiet ((go_at_call 46; first | with_reducible exact quiet_off (HS2.out _) | with_reducible exact quiet_off (HS1.out _)))
          clear e1 e2 e3
          cases b4 with
          | true =>
            have HR := Lib.hid (HF.out rfl)
            go_wp2_with fail
            go_ret2
            try rw [World.drewN_drewN]
            exact erp_none HR.out ((Up.refl _).drewN _)
          | false =>
            have HR := Lib.hid (HG.out rfl)
            try rw [World.drewN_drewN]
            clear HF HG HLA
            go_wp2_with fail
            refine (HCM.out _).mono ?_
            rintro e w' ⟨v', rfl, u', h'⟩
            have U' := Lib.hid (((Up.refl w).drewN _).trans u')
            have H' := Lib.hid h'
            clear u' h'
            cases R with
            | none =>
              go_wp2_with fail
              go_ret2
              exact erp_none HR.out U'.out
            | some t' =>
              go_wp2_with fail
              go_ret2
              exact ⟨v', by rw [HR.out]; rfl, U'.out, by rw [HR.out]; exact NwO.base (o := some t') H'.out (Nat.le_refl _)⟩
    · have HR : Hid (sbR i o p = (none, ckE p)) := Lib.hid (by unfold sbR; rw [if_pos h0, if_neg h1])
      obtain ⟨E, hE⟩ : ∃ E, ckE p = E := ⟨_, rfl⟩
      rw [hE] at cP HR h1
      rw [h0] at cC
      clear hin hE hup h0 CP
      go_enter Tryd.func25, Tryd.ntmps25
      go_wp2_with fail
      refine cC.mono ?_
      rintro e w' ⟨rfl, q1, rfl⟩
      go_wp2_with fail
      refine (cP _).mono ?_
      rintro e w' ⟨rfl, q2, rfl⟩
      go_wp2_with fail
      go_ret2
      exact erp_none HR.out ((Up.refl _).drewN _)
  · have HR : Hid (sbR i o p = (none, ckE o)) := Lib.hid (by unfold sbR; rw [if_neg h0])
    obtain ⟨E, hE⟩ : ∃ E, ckE o = E := ⟨_, rfl⟩
    rw [hE] at cC HR h0
    clear hin hE hup CP cP
    go_enter Tryd.func25, Tryd.ntmps25
    go_wp2_with fail
    refine cC.mono ?_
    rintro e w' ⟨rfl, q1, rfl⟩
    go_wp2_with fail
    go_ret2
    exact erp_none HR.out ((Up.refl _).drewN _)
end Go.Proofs.YtdofcjnkpgbjaaaDoor
namespace Go.Proofs.YtdofcjnkpgbjaaaDoor
open Go.RowKit

def Sb (B : Nat) (X : Nat → Prop) (w : World) (v : Value) (q : Nat) : Prop := B ≤ q ∧ q < w.heap.size ∧ v.ownBlock ≠ some q ∧ ¬ X q
def PkSt (w : World) (lb cb B : Nat) (X : Nat → Prop) (vo : Value) (cs : List Cel) : Prop :=
  w.heap[lb]? = some (.cells #[.func (.func 77) #[] #[.pointer (some ⟨lb, 0, none⟩), .pointer (some ⟨cb, 0, none⟩)]] 29 (0, 0)) ∧ w.heap[cb]? = some (.cells #[vo] 22 (0, 0)) ∧
    (vo.ownBlock ≠ some lb ∧ vo.ownBlock ≠ some cb) ∧ ∃ vs, w.ownsRow B 49 5 vo cs.length (flat cs vs) ∧ CsF w (Sb B X w vo) vs cs
def PkEnd (w w' : World) (cb : Nat) (vo vo' : Value) : Prop :=
  w'.os = w.os ∧ w'.tape = w.tape ∧ w'.output = w.output ∧ w.heap.size ≤ w'.heap.size ∧ (∀ b, b < w.heap.size → b ≠ cb → vo.ownBlock ≠ some b → w'.heap[b]? = w.heap[b]?) ∧ (vo'.ownBlock = vo.ownBlock ∨ ∀ g, vo'.ownBlock = some g → w.heap.size ≤ g)
theorem PkEnd.refl (w : World) (cb : Nat) (vo : Value) : PkEnd w w cb vo vo := ⟨rfl, rfl, rfl, Nat.le_refl _, fun _ _ _ _ => rfl, .inl rfl⟩
theorem PkEnd.trans {a b c : World} {cb : Nat} {u v x : Value} (h : PkEnd a b cb u v) (k : PkEnd b c cb v x) : PkEnd a c cb u x := by
  obtain ⟨h1, h2, h3, h4, h5, h6⟩ := h
  obtain ⟨k1, k2, k3, k4, k5, k6⟩ := k
  refine ⟨k1.trans h1, k2.trans h2, k3.trans h3, Nat.le_trans h4 k4, fun i hi hc hv => ?_, ?_⟩
  · refine (k5 i (by omega) hc ?_).trans (h5 i hi hc hv)
    rcases h6 with h | h
    · rw [h]; exact hv
    · intro e; have := h i e; omega
  · rcases k6 with k | k
    · rw [k]
      exact h6
    · exact .inr fun g hg => by have := k g hg; omega
theorem PkEnd.below {a b c : World} {cb : Nat} {u v : Value} (h : PkEnd a b cb u v) (k : Below b.heap.size b c) : PkEnd a c cb u v := h.trans ⟨k.os, k.tape, k.output, k.size, fun i hi _ _ => k.block i hi, .inl rfl⟩
def Xc (X : Nat → Prop) (C : Nat) (vk : Value) (q : Nat) : Prop := X q ∨ q = C ∨ vk.ownBlock = some q
def LaRel (w : World) (lb cb B C : Nat) (X : Nat → Prop) (vo0 vo vk : Value) (x : Nod) (CS : List Cel) (RS : List Int) (wr : World) : Prop :=
  PkSt wr lb cb B (Xc X C vk) vo CS ∧ wr.ownsRow (C + 1) 3 1 vk RS.length (ints RS) ∧ wr.heap[C]? = some (.cells #[.int .i64 x.k, .int .i64 x.n, .string x.a, .string x.m, vk] 49 (0, 0)) ∧ PkEnd w wr cb vo0 vo ∧
    (∀ g, vo.ownBlock = some g → g ≠ C ∧ vk.ownBlock ≠ some g)
theorem LaRel.end {w wr w4 : World} {lb cb B C : Nat} {X : Nat → Prop} {vo0 vo vk v4 : Value} {x : Nod} {CS : List Cel} {RS : List Int} {ob : Obj} {vs : List Value} (hC : w.heap.size = C) (hlc : lb < C ∧ cb < C ∧ B ≤ C) (hX : ∀ q, X q → q < C) (hXc : X cb) (hne : lb ≠ cb) (hvo : vo.ownBlock ≠ some lb ∧ vo.ownBlock ≠ some cb)
    (g1 : wr.heap[lb]? = some (.cells #[.func (.func 77) #[] #[.pointer (some ⟨lb, 0, none⟩), .pointer (some ⟨cb, 0, none⟩)]] 29 (0, 0))) (g2 : wr.heap[cb]? = some (.cells #[vo] 22 (0, 0)))
    (hf : CsF wr (Sb B (Xc X C vk) wr vo) vs CS)
    (hk : wr.ownsRow (C + 1) 3 1 vk RS.length (ints RS)) (hend : PkEnd w wr cb vo0 vo) (hap : ∀ g, vo.ownBlock = some g → g ≠ C ∧ vk.ownBlock ≠ some g)
    (ho4 : w4.ownsRow B 49 5 v4 (CS.length + 1) (flat CS vs ++ [.int .i64 x.k, .int .i64 x.n, .string x.a, .string x.m, vk])) (hg4 : (wr.alloc ob).grownBy w4 vo.ownBlock) (hat4 : v4.ownBlock = vo.ownBlock ∨ v4.ownBlock = some (wr.heap.size + 1)) :
    PkSt (w4.setCell ⟨cb, 0, none⟩ v4) lb cb B X v4 (CS ++ [⟨x, RS⟩]) ∧ PkEnd w (w4.setCell ⟨cb, 0, none⟩ v4) cb vo0 v4 := by
  have hkl := hk.lt
  have h4l := ho4.lt
  have hsa : (wr.alloc ob).heap.size = wr.heap.size + 1 := by simp
  have hs4 := hg4.size
  have hsz7 : (w4.setCell ⟨cb, 0, none⟩ v4).heap.size = w4.heap.size := by simp [World.setCell]
  have hw : w.heap.size ≤ wr.heap.size := hend.2.2.2.1
  have hst : ∀ b, b < wr.heap.size → b ≠ cb → vo.ownBlock ≠ some b → (w4.setCell ⟨cb, 0, none⟩ v4).heap[b]? = wr.heap[b]? := by
    intro b h1 h2 h3
    rw [Below.heap_setCell _ _ _ _ h2, hg4.block b (by omega) (fun e => h3 e.symm), Below.heap_alloc _ _ _ h1]
  obtain ⟨hvl, hvc⟩ := hvo
  have hlr := heap_lt g1
  have hcr := heap_lt g2
  have hc4 : w4.heap[cb]? = some (.cells #[vo] 22 (0, 0)) := by
    rw [hg4.block cb (by have := heap_lt g2; omega) (fun e => hvc e.symm), Below.heap_alloc _ _ _ (heap_lt g2)]
    exact g2
  have hS : ∀ q, B ≤ q → q < wr.heap.size → vo.ownBlock ≠ some q → ¬ X q → Sb B X (w4.setCell ⟨cb, 0, none⟩ v4) v4 q := by
    intro q h1 h2 h3 h4
    refine ⟨h1, by omega, ?_, h4⟩
    rcases hat4 with h | h
    · rw [h]; exact h3
    · rw [h]; intro e; injection e with e; omega
  refine ⟨⟨?_, ?_, ?_, vs ++ [vk], ?_, ?_⟩, ?_⟩
  · rw [hst lb (heap_lt g1) hne hvl]; exact g1
  · rw [block_set _ hc4]; rfl
  · rcases hat4 with h | h
    · rw [h]; exact ⟨hvl, hvc⟩
    · rw [h]
      exact ⟨fun e => by injection e with e; omega, fun e => by injection e with e; omega⟩
  · have h4c : v4.ownBlock ≠ some cb := by
      rcases hat4 with h | h
      · rw [h]; exact hvc
      · rw [h]; intro e; injection e with e; omega
    rw [flat_app _ _ hf.len, List.length_append]
    exact own_setCell ho4 _ _ fun g hg => fun e => h4c (by rw [hg, e])
  · refine CsF.app (hf.keep (fun q hq => hS q hq.1 hq.2.1 hq.2.2.1 fun hx => hq.2.2.2 (.inl hx)) fun b hb => hst b hb.2.1 (fun e => hb.2.2.2 (.inl (by rw [e]; exact hXc))) hb.2.2.1) ⟨?_, trivial⟩
    refine (SpS.own (S := fun q' => vk.ownBlock = some q') hk fun g hg => hg).keep (fun q' h => hS q' (by have := (hkl q' h).1; omega) (hkl q' h).2 (fun e => (hap q' e).2 h) fun hx => by have := (hkl q' h).1; have := hX q' hx; omega) fun b h => hst b (hkl b h).2 (by have := (hkl b h).1; omega) fun e => (hap b e).2 h
  · obtain ⟨m1, m2, m3, m4, m5, m6⟩ := hend
    refine ⟨(show w4.os = _ from hg4.os.trans m1), (show w4.tape = _ from hg4.tape.trans m2), (show w4.output = _ from hg4.output.trans m3), by omega, fun b hb hbc hbv => ?_, ?_⟩
    · rw [hst b (by omega) hbc ?_]
      · exact m5 b hb hbc hbv
      · rcases m6 with h | h
        · rw [h]; exact hbv
        · intro e; have := h b e; omega
    · rcases hat4 with h | h
      · rw [h]; exact m6
      · exact .inr fun g hg => by rw [h] at hg; injection hg with hg; omega
end Go.Proofs.YtdofcjnkpgbjaaaDoor
namespace Go.Proofs.YtdofcjnkpgbjaaaDoor
open Go.RowKit

theorem PkSt.below {w w' : World} {lb cb B : Nat} {X : Nat → Prop} {vo : Value} {cs : List Cel} (h : PkSt w lb cb B X vo cs) (hb : Below w.heap.size w w') : PkSt w' lb cb B X vo cs := by
  obtain ⟨h1, h2, h3, vs, ho, hf⟩ := h
  have hs := hb.size
  exact ⟨heap_below h1 hb, heap_below h2 hb, h3, vs, own_below ho hb, hf.keep (fun q hq => ⟨hq.1, by have := hq.2.1; omega, hq.2.2⟩) fun b hb' => hb.block b hb'.2.1⟩
end Go.Proofs.YtdofcjnkpgbjaaaDoor
