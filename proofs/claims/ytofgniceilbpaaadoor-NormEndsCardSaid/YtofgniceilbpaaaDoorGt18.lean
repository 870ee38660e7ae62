/-
  Layer 10, the document's side: Shift, Subst, Free, Occurs.
-/
import Derived.Test.YtofgniceilbpaaaDoorGt16
import Derived.Test.YtofgniceilbpaaaDoorGt17
namespace Go.Proofs.YtofgniceilbpaaaDoor
open Go.RowKit

def errO (z : Int) : Option Tr → Option Tr × Int
  | none => (none, z)
  | some t => (some t, 0)
def ErP (R : Option Tr × Int) (W : World) (e : Ending) (w' : World) : Prop := ∃ v, e = .returned (.tuple #[v, .int .i64 R.2]) ∧ Up W w' ∧ NwO W w' v R.1
theorem erp_none {R : Option Tr × Int} {W w' : World} {z : Int} (h : R = (none, z)) (u : Up W w') : ErP R W (.returned (.tuple #[.pointer none, .int .i64 z])) w' := ⟨_, by rw [h], u, by rw [h]; rfl⟩
theorem NwO.up {W a w : World} {v : Value} {o : Option Tr} (h : NwO W a v o) (u : Up a w) : NwO W w v o := by
  cases o with
  | none => exact h
  | some t => exact NwT.up h u
theorem NwO.base {W a w : World} {v : Value} {o : Option Tr} (h : NwO a w v o) (u : W.heap.size ≤ a.heap.size) : NwO W w v o := by
  cases o with
  | none => exact h
  | some t => exact NwT.base h u
theorem NwO.has {W w : World} {v : Value} {o : Option Tr} (h : NwO W w v o) : HasT w v o := by
  cases o with
  | none => exact h
  | some t => exact NwT.has h
def sbR (i : Int) (o p : Option Tr) : Option Tr × Int := if ckE o = 0 then (if ckE p = 0 then (if i < 0 then (none, 2) else match o, p with
    | some t, some u => if 65536 < szT t - ctT i 0 t + ctT i 0 t * szT u then (none, 3) else errO 3 (ptT i u 0 t)
    | _, _ => (none, 1)) else (none, ckE p)) else (none, ckE o)
theorem size_dr {P : Program} {f : FuncId} {args : Array Value} {w : World} {n : Nat} (h : Calls P f args w (NumPost n w)) : Calls P f args w fun e w' => e = .returned (.int .i64 (n : Int)) ∧ ∃ m, w' = w.drewN m := h.mono fun _ _ ⟨he, hm⟩ => ⟨he, 0, hm.symm⟩
theorem sb_large {c s u : Nat} (hc : 0 < c) (h : 65536 / c < u) : 65536 < s - c + c * u := by
  have h1 := (Nat.div_lt_iff_lt_mul hc).1 h
  rw [Nat.mul_comm] at h1
  omega
set_option maxHeartbeats 3200000 in
set_option maxRecDepth 100000 in
theorem refSubst {w : World} {Sq : Nat → Prop} {v uv : Value} (o p : Option Tr) (i : Int) (hS : Bel Sq w.heap.size) (hin : InO w Sq v o) (hz : szO o ≤ 1000000000) (hup : InO w Sq uv p) (hzp : szO p ≤ 1000000000) : Calls Tryd.prog 25 #[v, .int .i64 i, uv] w (ErP (sbR i o p) w) := by
  have cC := refCheck o hin hz
  have cP := fun m => refCheck (w := w.drewN m) p (hup.drew m) hzp
  have CP := Lib.hid cP
  by_cases h0 : ckE o = 0
  · by_cases h1 : ckE p = 0
    · obtain ⟨t, rfl, hz1, hc1⟩ := ckE_ok h0
      obtain ⟨u, rfl, hz2, hc2⟩ := ckE_ok h1
      have hin : InT w Sq v t := hin
      have hup : InT w Sq uv u := hup
      have cT := fun m => refCount i (szT t) t (Nat.le_refl _) (co_tvok hc1) 0 (by omega) (w.drewN m) Sq v (hin.drew m)
      have cM := fun m => refPutC i u (by omega) (co_tvok hc2) (szT t) t (Nat.le_refl _) (co_tvok hc1) 0 (by omega) (w.drewN m) Sq v hS (hin.drew m) uv (hup.drew m)
      have cS1 := fun m => size_dr (refSize (szT t) t (Nat.le_refl _) (by omega) (w.drewN m) Sq v (hin.drew m))
      have cS2 := fun m => size_dr (refSize (szT u) u (Nat.le_refl _) (by omega) (w.drewN m) Sq uv (hup.drew m))
      rw [h0] at cC
      rw [h1] at cP
      by_cases h2 : i < 0
      · have HR : Hid (sbR i (some t) (some u) = (none, 2)) := Lib.hid (by unfold sbR; rw [if_pos h0, if_pos h1, if_pos h2])
        clear cM cT cS1 cS2 CP hin hup h0 h1
        go_enter Tryd.func25, Tryd.ntmps25
        go_wp2_with fail
        refine cC.mono ?_
        rintro e w' ⟨rfl, q1, rfl⟩
        go_wp2_with fail
        refine (cP _).mono ?_
        rintro e w' ⟨rfl, q2, rfl⟩
        go_wp2_with fail
        go_ret2
        exact erp_none HR.out ((Up.refl _).drewN _)
      · have hcs := ctT_le i 0 t
        obtain ⟨C, hC⟩ : ∃ C, ctT i 0 t = C := ⟨_, rfl⟩
        obtain ⟨S, hSz⟩ : ∃ C, szT t = C := ⟨_, rfl⟩
        obtain ⟨U, hU⟩ : ∃ C, szT u = C := ⟨_, rfl⟩
        obtain ⟨R, hR⟩ : ∃ R, ptT i u 0 t = R := ⟨_, rfl⟩
        have hRR : sbR i (some t) (some u) = if 65536 < S - C + C * U then (none, 3) else errO 3 R := by unfold sbR; rw [if_pos h0, if_pos h1, if_neg h2, ← hR, ← hC, ← hSz, ← hU]
        rw [hC] at cT hcs
        rw [hR] at cM
        rw [hSz] at cS1 hz1 hcs
        rw [hU] at cS2 hz2
        have HCT := Lib.hid cT
        have HCM := Lib.hid cM
        have HS1 := Lib.hid cS1
        have HS2 := Lib.hid cS2
        obtain ⟨Q, hQ⟩ : ∃ Q, S - C = Q := ⟨_, rfl⟩
        obtain ⟨P, hP⟩ : ∃ Q9, C * U = Q9 := ⟨_, rfl⟩
        obtain ⟨T, hT⟩ : ∃ Q9, Q + P = Q9 := ⟨_, rfl⟩
        have hPb : P ≤ 65536 * 65536 := by rw [← hP]; exact Nat.mul_le_mul (by omega) hz2
        have HE1 : Hid (IntKind.i64.wrap ((S : Int) - (C : Int)) = (Q : Int)) := Lib.hid (by rw [IntKind.wrap_i64]; omega)
        have HE2 : Hid (IntKind.i64.wrap ((C : Int) * (U : Int)) = (P : Int)) := Lib.hid (by rw [← hP] at hPb ⊢; rw [← Int.natCast_mul, IntKind.wrap_i64]; omega)
        have HE3 : Hid (IntKind.i64.wrap ((Q : Int) + (P : Int)) = (T : Int)) := Lib.hid (by rw [IntKind.wrap_i64]; omega)
        obtain ⟨b4, h4⟩ : ∃ b, decide ((65536 : Int) < (T : Int)) = b := ⟨_, rfl⟩
        have hF : b4 = true → sbR i (some t) (some u) = (none, 3) := fun h => by rw [hRR, if_pos]; rw [h] at h4; have := of_decide_eq_true h4; rw [hQ, hP, hT]; omega
        have hG : b4 = false → sbR i (some t) (some u) = errO 3 R := fun h => by rw [hRR, if_neg]; rw [h] at h4; have := of_decide_eq_false h4; rw [hQ, hP, hT]; omega
        have hLa : 0 < C → 65536 / C < U → sbR i (some t) (some u) = (none, 3) := fun h h' => by rw [hRR, if_pos (sb_large h h')]
        have HF := Lib.hid hF
        have HG := Lib.hid hG
        have HLA := Lib.hid hLa
        clear cM cT cS1 cS2 CP hin hup h0 h1 hRR hC hSz hU hR hz hzp hQ hP hT hPb hF hG hLa
        go_enter Tryd.func25, Tryd.ntmps25
        go_wp2_with fail
        refine cC.mono ?_
        rintro e w' ⟨rfl, q1, rfl⟩
        go_wp2_with fail
        refine (cP _).mono ?_
        rintro e w' ⟨rfl, q2, rfl⟩
        go_wp2_with fail
        refine (HCT.out _).mono ?_
        rintro e w' ⟨rfl, q3, rfl⟩
        clear cC cP
        go_wp2_with fail
        clear hcs hz1 hz2
        by_cases hc0 : 0 < C
        · have d1 : decide ((0 : Int) < (C : Int)) = true := decide_eq_true (by omega)
          have d0 : ¬ (C : Int) = 0 := by omega
          have d9 : 0 ≤ (65536 : Int) ∧ (65536 : Int) ≤ 9223372036854775807 ∧ 1 ≤ (C : Int) := ⟨by omega, by omega, by omega⟩
          obtain ⟨b3, h3⟩ : ∃ b, decide ((65536 : Int) / (C : Int) < (U : Int)) = b := ⟨_, rfl⟩
          cases b3 with
          | true =>
            have HR := Lib.hid (HLA.out hc0 (by have h := of_decide_eq_true h3; rw [show ((65536 : Int)) = ((65536 : Nat) : Int) from rfl, ← Int.natCast_ediv] at h; omega))
            clear h4
            go_big_quiet ((go_at_call 40; first | with_reducible exact quiet_off (HS2.out _) | with_reducible exact quiet_off (HS1.out _)))
            go_wp2_with fail
            go_ret2
            try rw [World.drewN_drewN]
            exact erp_none HR.out ((Up.refl _).drewN _)
          | false =>
            have e1 := HE1.out
            have e2 := HE2.out
            have e3 := HE3.out
            go_big_quiet ((go_at_call 40; first | with_reducible exact quiet_off (HS2.out _) | with_reducible exact quiet_off (HS1.out _)))
            clear e1 e2 e3
            cases b4 with
            | true =>
              have HR := Lib.hid (HF.out rfl)
              go_wp2_with fail
              go_ret2
              try rw [World.drewN_drewN]
              exact erp_none HR.out ((Up.refl _).drewN _)
            | false =>
              have HR := Lib.hid (HG.out rfl)
              try rw [World.drewN_drewN]
              clear HF HG HLA h3
              go_wp2_with fail
              refine (HCM.out _).mono ?_
              rintro e w' ⟨v', rfl, u', h'⟩
              have U' := Lib.hid (((Up.refl w).drewN _).trans u')
              have H' := Lib.hid h'
              clear u' h'
              cases R with
              | none =>
                go_wp2_with fail
                go_ret2
                exact erp_none HR.out U'.out
              | some t' =>
                go_wp2_with fail
                go_ret2
                exact ⟨v', by rw [HR.out]; rfl, U'.out, by rw [HR.out]; exact NwO.base (o := some t') H'.out (Nat.le_refl _)⟩
        · have d1 : decide ((0 : Int) < (C : Int)) = false := decide_eq_false (by omega)
          have e1 := HE1.out
          have e2 := HE2.out
          have e3 := HE3.out
          go_big_quiet ((go_at_call 40; first | with_reducible exact quiet_off (HS2.out _) | with_reducible exact quiet_off (HS1.out _)))
          clear e1 e2 e3
          cases b4 with
          | true =>
            have HR := Lib.hid (HF.out rfl)
            go_wp2_with fail
            go_ret2
            try rw [World.drewN_drewN]
            exact erp_none HR.out ((Up.refl _).drewN _)
          | false =>
            have HR := Lib.hid (HG.out rfl)
            try rw [World.drewN_drewN]
            clear HF HG HLA
            go_wp2_with fail
            refine (HCM.out _).mono ?_
            rintro e w' ⟨v', rfl, u', h'⟩
            have U' := Lib.hid (((Up.refl w).drewN _).trans u')
            have H' := Lib.hid h'
            clear u' h'
            cases R with
            | none =>
              go_wp2_with fail
              go_ret2
              exact erp_none HR.out U'.out
            | some t' =>
              go_wp2_with fail
              go_ret2
              exact ⟨v', by rw [HR.out]; rfl, U'.out, by rw [HR.out]; exact NwO.base (o := some t') H'.out (Nat.le_refl _)⟩
    · have HR : Hid (sbR i o p = (none, ckE p)) := Lib.hid (by unfold sbR; rw [if_pos h0, if_neg h1])
      obtain ⟨E, hE⟩ : ∃ E, ckE p = E := ⟨_, rfl⟩
      rw [hE] at cP HR h1
      rw [h0] at cC
      clear hin hE hup h0 CP
      go_enter Tryd.func25, Tryd.ntmps25
      go_wp2_with fail
      refine cC.mono ?_
      rintro e w' ⟨rfl, q1, rfl⟩
      go_wp2_with fail
      refine (cP _).mono ?_
      rintro e w' ⟨rfl, q2, rfl⟩
      go_wp2_with fail
      go_ret2
      exact erp_none HR.out ((Up.refl _).drewN _)
  · have HR : Hid (sbR i o p = (none, ckE o)) := Lib.hid (by unfold sbR; rw [if_neg h0])
    obtain ⟨E, hE⟩ : ∃ E, ckE o = E := ⟨_, rfl⟩
    rw [hE] at cC HR h0
    clear hin hE hup CP cP
    go_enter Tryd.func25, Tryd.ntmps25
    go_wp2_with fail
    refine cC.mono ?_
    rintro e w' ⟨rfl, q1, rfl⟩
    go_wp2_with fail
    go_ret2
    exact erp_none HR.out ((Up.refl _).drewN _)
end Go.Proofs.YtofgniceilbpaaaDoor
namespace Go.Proofs.YtofgniceilbpaaaDoor
open Go.RowKit

theorem Fr.pt_c {i : Int} {u : Tr} {d : Nat} {x : Nod} {k r g : Fr} (h : Fr.pt i u d (.cons x k r) = some g) :
    (atV i d x ∧ ∃ t r', mvT d 0 0 u = some t ∧ Fr.pt i u d r = some r' ∧ g = .cons t.1 t.2 r') ∨
    (¬ atV i d x ∧ ∃ k' r', Fr.pt i u (d + innK x.k) k = some k' ∧ Fr.pt i u d r = some r' ∧ g = .cons (ptN i d x) k' r') := by
  unfold Fr.pt at h
  split at h
  · rename_i ha
    split at h
    · rename_i t r' h1 h2
      injection h with h
      exact .inl ⟨ha, t, r', h1, h2, h.symm⟩
    · cases h
  · rename_i ha
    split at h
    · rename_i k' r' h1 h2
      injection h with h
      exact .inr ⟨ha, k', r', h1, h2, h.symm⟩
    · cases h
theorem ptN_k (i : Int) (d : Nat) (x : Nod) : (ptN i d x).k = x.k ∧ (ptN i d x).a = x.a ∧ (ptN i d x).m = ⟨#[]⟩ := by
  unfold ptN
  split <;> exact ⟨rfl, rfl, rfl⟩
theorem ptN_other {i : Int} {d : Nat} {x : Nod} (h : ¬ x.k = 110) : (ptN i d x).n = x.n := by
  unfold ptN
  rw [if_neg (fun hf => h hf.1)]
  rfl
theorem ptN_var {i : Int} {d : Nat} {x : Nod} (hi : 0 ≤ i) (h0 : 0 ≤ x.n) (h1 : x.n ≤ 65536) : 0 ≤ (ptN i d x).n ∧ (ptN i d x).n ≤ 65536 := by
  unfold ptN
  split
  · rename_i hf
    obtain ⟨_, h2, h3⟩ := hf
    show 0 ≤ x.n - 1 ∧ x.n - 1 ≤ 65536
    omega
  · exact ⟨h0, h1⟩
theorem kdT_k {x : Nod} {k : Fr} (h : kdT (x, k) = true) : x.k = 100 ∨ x.k = 101 := by
  unfold kdT at h
  rw [Bool.and_eq_true] at h
  by_cases h0 : x.k = 100
  · exact .inl h0
  · right
    have h2 := h.2
    rw [if_neg (by exact h0)] at h2
    simp only [Bool.and_eq_true, beq_iff_eq] at h2
    exact h2.1
theorem fdT_k {m : Nat} {x : Nod} {k : Fr} (h : fdT m (x, k) = true) : x.k = 116 ∨ x.k = 122 := by
  unfold fdT at h
  simp only [Bool.and_eq_true, beq_iff_eq] at h
  have e := h.1
  unfold fdK at e
  split at e
  · exact .inl e
  · exact .inr e
theorem Fr.pt_kd {i : Int} {u : Tr} {f : Fr} : ∀ {d : Nat}, kdF f = true → Fr.pt i u d f = some f := by
  induction f with
  | nil => intro d _; rfl
  | cons x k r ihk ihr =>
    intro d h
    rw [kdF_cons, Bool.and_eq_true] at h
    obtain ⟨h1, h2⟩ := h
    have hk := kdT_k h1
    have hv : x.m = ⟨#[]⟩ := by unfold kdT at h1; rw [Bool.and_eq_true] at h1; exact (plnB_ok h1.1).1
    have hkk : kdF k = true := by
      unfold kdT at h1
      rw [Bool.and_eq_true] at h1
      have h3 := h1.2
      split at h3
      · rw [show k = .nil from Fr.len0 (beq_iff_eq.1 h3)]; rfl
      · simp only [Bool.and_eq_true] at h3
        exact h3.2.2
    unfold Fr.pt
    rw [if_neg (fun h => by have := h.1; omega), ihk hkk, ihr h2]
    show some (Fr.cons (ptN i d x) k r) = _
    unfold ptN
    rw [if_neg (fun h => by have := h.1; omega), setN_self hv]
theorem Fr.pt_lb {i : Int} {u : Tr} {rise : Bool} {m : Nat} (h0 : m ≠ 0) (h1 : m ≠ 1) {f g : Fr} : ∀ {d : Nat} {pre : List ByteArray}, coF m f = true → Fr.pt i u d f = some g → lbF rise pre g = lbF rise pre f := by
  induction f generalizing g with
  | nil => intro d pre _ h; injection h with h; rw [← h]
  | cons x k r _ ihr =>
    intro d pre hc h
    rw [coF_f h0 h1, Bool.and_eq_true] at hc
    have hk := fdT_k hc.1
    rcases Fr.pt_c h with ⟨ha, _⟩ | ⟨_, k', r', h2, h3, rfl⟩
    · exfalso
      have := ha.1
      omega
    · unfold lbF
      rw [(ptN_k i d x).2.1, ihr hc.2 h3]
theorem plnB_pt {i : Int} {d : Nat} {x : Nod} {nm : Bool} (hk : ¬ x.k = 110) (hp : plnB x nm = true) : plnB (ptN i d x) nm = true := by
  unfold plnB at hp ⊢
  obtain ⟨_, h1, h2⟩ := ptN_k i d x
  rw [h1, h2, ptN_other hk, emq_nil]
  rw [Bool.and_eq_true] at hp
  rw [hp.2]
  rfl
theorem Fr.pt_co {i : Int} (hi : 0 ≤ i) {u : Tr} (hu : coT u = true) {f g : Fr} : ∀ {d m : Nat}, Fr.pt i u d f = some g → coF m f = true → coF m g = true := by
  induction f generalizing g with
  | nil => intro d m h _; injection h with h; rw [← h]; rfl
  | cons x k r ihk ihr =>
    intro d m h hf
    rcases Fr.pt_c h with ⟨ha, t, r', h1, h2, rfl⟩ | ⟨hna, k', r', h2, h3, rfl⟩
    · have hk := ha.1
      by_cases hm0 : m = 0
      · subst hm0
        rw [coF_0, Bool.and_eq_true] at hf ⊢
        exact ⟨mvT_co h1 hu, ihr h2 hf.2⟩
      · exfalso
        by_cases hm1 : m = 1
        · subst hm1
          rw [coF_1, Bool.and_eq_true] at hf
          have := kdT_k hf.1
          omega
        · rw [coF_f hm0 hm1, Bool.and_eq_true] at hf
          have := fdT_k hf.1
          omega
    · have hl := Fr.pt_len h2
      have ha := ptN_k i d x
      unfold coF at hf ⊢
      rw [Bool.and_eq_true] at hf ⊢
      obtain ⟨hf1, hf2⟩ := hf
      refine ⟨?_, ihr h3 hf2⟩
      rw [ha.1, hl, ha.2.1, ha.2.2, emq_nil]
      by_cases hm0 : m = 0
      · rw [if_pos hm0] at hf1 ⊢
        by_cases h110 : x.k = 110
        · rw [if_pos h110] at hf1 ⊢
          simp only [Bool.and_eq_true, decide_eq_true_eq, beq_iff_eq] at hf1 ⊢
          have hv := ptN_var (d := d) hi hf1.2.2.1 hf1.2.2.2.1
          exact ⟨trivial, hf1.2.1, hv.1, hv.2, hf1.2.2.2.2⟩
        · rw [if_neg h110, Bool.and_eq_true] at hf1 ⊢
          refine ⟨plnB_pt h110 hf1.1, ?_⟩
          replace hf1 := hf1.2
          by_cases c1 : 111 ≤ x.k ∧ x.k ≤ 113
          · rw [if_pos c1] at hf1 ⊢; exact hf1
          rw [if_neg c1] at hf1 ⊢
          by_cases c2 : x.k = 114 ∨ x.k = 120
          · rw [if_pos c2, Bool.and_eq_true] at hf1 ⊢; exact ⟨hf1.1, ihk h2 hf1.2⟩
          rw [if_neg c2] at hf1 ⊢
          by_cases c3 : x.k = 115
          · rw [if_pos c3, Bool.and_eq_true] at hf1 ⊢
            exact ⟨by rw [Fr.pt_lb (m := 2) (by omega) (by omega) hf1.2 h2]; exact hf1.1, ihk h2 hf1.2⟩
          rw [if_neg c3] at hf1 ⊢
          by_cases c4 : 117 ≤ x.k ∧ x.k ≤ 119
          · rw [if_pos c4, Bool.and_eq_true] at hf1 ⊢; exact ⟨hf1.1, ihk h2 hf1.2⟩
          rw [if_neg c4] at hf1 ⊢
          by_cases c5 : x.k = 121
          · rw [if_pos c5] at hf1 ⊢
            simp only [Bool.and_eq_true] at hf1 ⊢
            exact ⟨hf1.1, by rw [Fr.pt_lb (m := 3) (by omega) (by omega) hf1.2.2 h2]; exact hf1.2.1, ihk h2 hf1.2.2⟩
          rw [if_neg c5] at hf1
          cases hf1
      · rw [if_neg hm0] at hf1 ⊢
        by_cases hm1 : m = 1
        · rw [if_pos hm1] at hf1 ⊢
          have hx : kdF (.cons x k .nil) = true := by rw [kdF_cons, hf1]; rfl
          have hkf : kdF (.cons (ptN i d x) k' .nil) = true := by
            have e1 : Fr.pt i u d (.cons x k .nil) = some (.cons (ptN i d x) k' .nil) := by
              unfold Fr.pt
              rw [if_neg hna, h2]
              rfl
            rw [Fr.pt_kd hx] at e1
            injection e1 with e1
            rw [← e1]
            exact hx
          rw [kdF_cons, Bool.and_eq_true] at hkf
          exact hkf.1
        · rw [if_neg hm1] at hf1 ⊢
          simp only [Bool.and_eq_true] at hf1 ⊢
          have h110 : ¬ x.k = 110 := fun h => by
            have e := beq_iff_eq.1 hf1.1
            unfold fdK at e
            split at e <;> omega
          exact ⟨hf1.1, plnB_pt h110 hf1.2.1, hf1.2.2.1, hf1.2.2.2.1, ihk h2 hf1.2.2.2.2⟩
theorem ptT_F {i : Int} {u : Tr} {d : Nat} {t t' : Tr} (h : ptT i u d t = some t') : Fr.pt i u d (.cons t.1 t.2 .nil) = some (.cons t'.1 t'.2 .nil) := Fr.pt_mk (t := t') h rfl
theorem ptT_co {i : Int} (hi : 0 ≤ i) {u t t' : Tr} {d : Nat} (hu : coT u = true) (h : ptT i u d t = some t') (hc : coT t = true) : coT t' = true := by
  rw [← coT_F] at hc ⊢
  exact Fr.pt_co hi hu (ptT_F h) hc

/-! ### redexes -/
def hdLam (k : Fr) : Bool := match k with
  | .cons y _ _ => y.k == 119
  | .nil => false
def rdxB (x : Nod) (k : Fr) : Bool := x.k == 120 && hdLam k
def fiF : Int → Fr → Option (List Int)
  | _, .nil => none
  | i, .cons x k r => if rdxB x k = true then some [i] else match fiF 0 k with
    | some p => some (i :: p)
    | none => fiF (i + 1) r
def fiT (t : Tr) : Option (List Int) := if rdxB t.1 t.2 = true then some [] else fiF 0 t.2
theorem fiF_cons (i : Int) (x : Nod) (k r : Fr) : fiF i (.cons x k r) = match fiT (x, k) with
    | some p => some (i :: p)
    | none => fiF (i + 1) r := by
  show (if rdxB x k = true then some [i] else match fiF 0 k with
    | some p => some (i :: p)
    | none => fiF (i + 1) r) = _
  unfold fiT
  by_cases h : rdxB x k = true
  · rw [if_pos h]
    show some [i] = match (if rdxB x k = true then some [] else fiF 0 k) with
      | some p => some (i :: p)
      | none => fiF (i + 1) r
    rw [if_pos h]
  · rw [if_neg h]
    show _ = match (if rdxB x k = true then some [] else fiF 0 k) with
      | some p => some (i :: p)
      | none => fiF (i + 1) r
    rw [if_neg h]
def betaO (t : Tr) : Option (Tr × Tr) := match t.2 with
  | .cons _ (.cons _ _ (.cons b bk _)) (.cons a ak _) => some ((b, bk), (a, ak))
  | _ => none
theorem beta_of {t : Tr} (hc : coT t = true) (hr : rdxB t.1 t.2 = true) : ∃ y l z zk b bk a ak, t.2 = .cons y (.cons z zk (.cons b bk .nil)) (.cons a ak .nil) ∧ coT (b, bk) = true ∧ coT (a, ak) = true ∧ l = y.k ∧ l = 119 := by
  obtain ⟨x, k⟩ := t
  unfold rdxB at hr
  simp only [Bool.and_eq_true, beq_iff_eq] at hr
  obtain ⟨h1, h2⟩ := hr
  unfold coT at hc
  simp only at hc
  rw [if_neg (by omega), Bool.and_eq_true, if_neg (by omega), if_pos (.inr h1), Bool.and_eq_true] at hc
  obtain ⟨_, h3, h4⟩ := hc
  obtain ⟨y, yk, a, ak, rfl⟩ := Fr.two (beq_iff_eq.1 h3)
  have hy2 : y.k = 119 := beq_iff_eq.1 h2
  clear h2
  rw [coF_0, coF_0, Bool.and_eq_true, Bool.and_eq_true] at h4
  obtain ⟨h5, h6, _⟩ := h4
  unfold coT at h5
  simp only at h5
  rw [if_neg (by omega), Bool.and_eq_true, if_neg (by omega), if_neg (by omega), if_neg (by omega), if_pos (by omega), Bool.and_eq_true] at h5
  obtain ⟨_, h7, h8⟩ := h5
  obtain ⟨z, zk, b, bk, rfl⟩ := Fr.two (beq_iff_eq.1 h7)
  rw [coF_1, coF_0, Bool.and_eq_true, Bool.and_eq_true] at h8
  exact ⟨y, y.k, z, zk, b, bk, a, ak, rfl, h8.2.1, h6, rfl, hy2⟩
end Go.Proofs.YtofgniceilbpaaaDoor
namespace Go.Proofs.YtofgniceilbpaaaDoor

def itS (k : Int) (f : Bool) (s nm tx : ByteArray) : ByteArray := (if f then s else s ++ (if k = 115 then ⟨#[32, 44]⟩ else ⟨#[32, 124]⟩)) ++ ⟨#[32]⟩ ++ nm ++ (if k = 115 then ⟨#[32, 61, 32]⟩ else ⟨#[32, 111, 102, 32]⟩) ++ tx
def rcR (k : Int) : Bool → ByteArray → List (ByteArray × ByteArray) → ByteArray
  | _, s, [] => s
  | f, s, (n, t) :: r => rcR k false (itS k f s n t) r
def twX (a b c : ByteArray) (ts : List (ByteArray × ByteArray)) : ByteArray := match ts with
  | (_, s) :: (_, t) :: _ => a ++ s ++ b ++ t ++ c
  | _ => ⟨#[]⟩
def ndX (x : Nod) (ts : List (ByteArray × ByteArray)) : ByteArray :=
  if x.k = 100 then ⟨#[42]⟩
  else if x.k = 101 ∨ x.k = 114 then twX ⟨#[40, 32]⟩ ⟨#[32, 45, 62, 32]⟩ ⟨#[32, 41]⟩ ts
  else if x.k = 110 then ⟨#[36]⟩ ++ B.T (B.numb x.n)
  else if x.k = 111 then ⟨#[105, 110, 116]⟩
  else if x.k = 112 then ⟨#[98, 111, 111, 108]⟩
  else if x.k = 113 then ⟨#[117, 110, 105, 116]⟩
  else if x.k = 117 then twX ⟨#[40, 32, 97, 108, 108, 32]⟩ ⟨#[32, 46, 32]⟩ ⟨#[32, 41]⟩ ts
  else if x.k = 118 then twX ⟨#[40, 32, 101, 120, 32]⟩ ⟨#[32, 46, 32]⟩ ⟨#[32, 41]⟩ ts
  else if x.k = 119 then twX ⟨#[40, 32, 102, 110, 32]⟩ ⟨#[32, 46, 32]⟩ ⟨#[32, 41]⟩ ts
  else if x.k = 120 then twX ⟨#[40, 32]⟩ ⟨#[32]⟩ ⟨#[32, 41]⟩ ts
  else if x.k = 121 then ⟨#[109, 117, 32]⟩ ++ rcR x.k true ⟨#[123]⟩ ts ++ ⟨#[32, 125]⟩
  else if x.k = 115 then rcR x.k true ⟨#[123]⟩ ts ++ ⟨#[32, 125]⟩
  else match ts with
    | (_, s) :: _ => s
    | [] => ⟨#[]⟩
def Fr.tx : Fr → List (ByteArray × ByteArray)
  | .nil => []
  | .cons x k r => (x.a, ndX x k.tx) :: r.tx
def txT (t : Tr) : ByteArray := ndX t.1 t.2.tx
def wtX : List (ByteArray × ByteArray) → Nat
  | [] => 0
  | (n, t) :: r => n.size + t.size + 10 + wtX r
theorem itS_sz (k : Int) (f : Bool) (s n t : ByteArray) : (itS k f s n t).size ≤ s.size + n.size + t.size + 10 := by
  unfold itS
  have h1 : (⟨#[32, 44]⟩ : ByteArray).size = 2 := rfl
  have h2 : (⟨#[32, 124]⟩ : ByteArray).size = 2 := rfl
  have h3 : (⟨#[32]⟩ : ByteArray).size = 1 := rfl
  have h4 : (⟨#[32, 61, 32]⟩ : ByteArray).size = 3 := rfl
  have h5 : (⟨#[32, 111, 102, 32]⟩ : ByteArray).size = 4 := rfl
  by_cases hk : k = 115
  · cases f
    · rw [if_pos hk, if_pos hk]; simp only [Bool.false_eq_true, if_false, ByteArray.size_append, h1, h3, h4]; omega
    · rw [if_pos hk, if_pos hk]; simp only [if_true, ByteArray.size_append, h3, h4]; omega
  · cases f
    · rw [if_neg hk, if_neg hk]; simp only [Bool.false_eq_true, if_false, ByteArray.size_append, h2, h3, h5]; omega
    · rw [if_neg hk, if_neg hk]; simp only [if_true, ByteArray.size_append, h3, h5]; omega
theorem rcR_sz (k : Int) (ts : List (ByteArray × ByteArray)) : ∀ f s, (rcR k f s ts).size ≤ s.size + wtX ts := by
  induction ts with
  | nil => intro f s; exact Nat.le_refl _
  | cons a r ih =>
    intro f s
    obtain ⟨n, t⟩ := a
    have h1 := ih false (itS k f s n t)
    have h2 := itS_sz k f s n t
    show (rcR k false (itS k f s n t) r).size ≤ s.size + (n.size + t.size + 10 + wtX r)
    omega
theorem twX_sz (a b c : ByteArray) (ts : List (ByteArray × ByteArray)) : (twX a b c ts).size ≤ a.size + b.size + c.size + wtX ts := by
  unfold twX
  split
  · rename_i n1 s n2 t r
    simp only [ByteArray.size_append, wtX]
    omega
  · exact Nat.zero_le _
theorem ndX_sz {x : Nod} {ts : List (ByteArray × ByteArray)} (h : x.k = 110 → 0 ≤ x.n ∧ x.n ≤ 65536) : (ndX x ts).size ≤ 40 + wtX ts := by
  unfold ndX
  by_cases c1 : x.k = 100
  · rw [if_pos c1]; show 1 ≤ _; omega
  rw [if_neg c1]
  by_cases c2 : x.k = 101 ∨ x.k = 114
  · rw [if_pos c2]; exact Nat.le_trans (twX_sz _ _ _ _) (by show 2 + 4 + 2 + wtX ts ≤ _; omega)
  rw [if_neg c2]
  by_cases c3 : x.k = 110
  · rw [if_pos c3]
    have h1 := h c3
    have h2 := B.numb_size x.n (by omega) (by omega)
    rw [ByteArray.size_append]
    show 1 + _ ≤ _
    omega
  rw [if_neg c3]
  by_cases c4 : x.k = 111
  · rw [if_pos c4]; show 3 ≤ _; omega
  rw [if_neg c4]
  by_cases c5 : x.k = 112
  · rw [if_pos c5]; show 4 ≤ _; omega
  rw [if_neg c5]
  by_cases c6 : x.k = 113
  · rw [if_pos c6]; show 4 ≤ _; omega
  rw [if_neg c6]
  by_cases c7 : x.k = 117
  · rw [if_pos c7]; exact Nat.le_trans (twX_sz _ _ _ _) (by show 6 + 3 + 2 + wtX ts ≤ _; omega)
  rw [if_neg c7]
  by_cases c8 : x.k = 118
  · rw [if_pos c8]; exact Nat.le_trans (twX_sz _ _ _ _) (by show 5 + 3 + 2 + wtX ts ≤ _; omega)
  rw [if_neg c8]
  by_cases c9 : x.k = 119
  · rw [if_pos c9]; exact Nat.le_trans (twX_sz _ _ _ _) (by show 5 + 3 + 2 + wtX ts ≤ _; omega)
  rw [if_neg c9]
  by_cases c10 : x.k = 120
  · rw [if_pos c10]; exact Nat.le_trans (twX_sz _ _ _ _) (by show 2 + 1 + 2 + wtX ts ≤ _; omega)
  rw [if_neg c10]
  have h2 : (⟨#[123]⟩ : ByteArray).size = 1 := rfl
  have h3 : (⟨#[109, 117, 32]⟩ : ByteArray).size = 3 := rfl
  have h4 : (⟨#[32, 125]⟩ : ByteArray).size = 2 := rfl
  have h5 := rcR_sz x.k ts true ⟨#[123]⟩
  by_cases c11 : x.k = 121
  · rw [if_pos c11, ByteArray.size_append, ByteArray.size_append, h3, h4]; omega
  rw [if_neg c11]
  by_cases c12 : x.k = 115
  · rw [if_pos c12, ByteArray.size_append, h4]; omega
  rw [if_neg c12]
  cases ts with
  | nil => exact Nat.zero_le _
  | cons a r =>
    obtain ⟨n, s⟩ := a
    show s.size ≤ 40 + (n.size + s.size + 10 + wtX r)
    omega
def Fr.nmo : Fr → Prop
  | .nil => True
  | .cons x k r => x.a.size ≤ 160 ∧ (x.k = 110 → 0 ≤ x.n ∧ x.n ≤ 65536) ∧ k.nmo ∧ r.nmo
theorem Fr.tx_sz {f : Fr} (h : f.nmo) : wtX f.tx ≤ 210 * f.sz := by
  induction f with
  | nil => exact Nat.le_refl _
  | cons x k r ihk ihr =>
    obtain ⟨h1, h2, h3, h4⟩ := h
    have h5 := ihk h3
    have h6 := ihr h4
    have h7 := ndX_sz (ts := k.tx) h2
    show x.a.size + (ndX x k.tx).size + 10 + wtX r.tx ≤ 210 * (1 + k.sz + r.sz)
    omega
theorem txT_sz {t : Tr} (h1 : t.1.k = 110 → 0 ≤ t.1.n ∧ t.1.n ≤ 65536) (h2 : t.2.nmo) : (txT t).size ≤ 210 * szT t := by
  have h3 := Fr.tx_sz h2
  have h4 := ndX_sz (x := t.1) (ts := t.2.tx) h1
  unfold txT szT
  omega
theorem emq_sz {s : ByteArray} (h : emq s = true) : s.size ≤ 160 := by rw [emq_eq h]; exact Nat.zero_le _
theorem kd_nmo {f : Fr} (h : kdF f = true) : f.nmo := by
  induction f with
  | nil => trivial
  | cons x k r ihk ihr =>
    rw [kdF_cons, Bool.and_eq_true] at h
    obtain ⟨h1, h2⟩ := h
    unfold kdT at h1
    rw [Bool.and_eq_true] at h1
    obtain ⟨h3, h4⟩ := h1
    have hp := plnB_ok h3
    refine ⟨by have h := hp.2.2 rfl; simp only at h; rw [h]; exact Nat.zero_le _, fun h => ?_, ?_, ihr h2⟩
    · exfalso
      have h : x.k = 110 := h
      rw [show (x, k).1.k = 110 from h, if_neg (by decide)] at h4
      cases h4
    · split at h4
      · rw [show k = .nil from Fr.len0 (beq_iff_eq.1 h4)]; trivial
      · simp only [Bool.and_eq_true] at h4
        exact ihk h4.2.2
theorem co_nmo {f : Fr} : ∀ {m : Nat}, coF m f = true → f.nmo := by
  induction f with
  | nil => intro m _; trivial
  | cons x k r ihk ihr =>
    intro m h
    have hv := (co_vok h).1.2
    unfold coF at h
    rw [Bool.and_eq_true] at h
    obtain ⟨h1, h2⟩ := h
    refine ⟨?_, fun h => ⟨(hv h).1, (hv h).2.1⟩, ?_, ihr h2⟩
    · split at h1
      · split at h1
        · simp only [Bool.and_eq_true] at h1
          exact emq_sz h1.2.1
        · rw [Bool.and_eq_true] at h1
          have := (plnB_ok h1.1).2.2 rfl
          rw [this]; exact Nat.zero_le _
      · split at h1
        · have := kd_nmo (f := .cons x k .nil) (by rw [kdF_cons, h1]; rfl)
          exact this.1
        · simp only [Bool.and_eq_true] at h1
          have := h1.2.2.1
          unfold labB at this
          simp only [Bool.and_eq_true, decide_eq_true_eq] at this
          exact this.2
    · split at h1
      · split at h1
        · simp only [Bool.and_eq_true, decide_eq_true_eq, beq_iff_eq] at h1
          rw [Fr.len0 h1.2.2.2.2]; trivial
        · rw [Bool.and_eq_true] at h1
          replace h1 := h1.2
          repeat' split at h1
          · rw [Fr.len0 (beq_iff_eq.1 h1)]; trivial
          · rw [Bool.and_eq_true] at h1; exact ihk h1.2
          · rw [Bool.and_eq_true] at h1; exact ihk h1.2
          · rw [Bool.and_eq_true] at h1; exact ihk h1.2
          · simp only [Bool.and_eq_true] at h1; exact ihk h1.2.2
          · cases h1
      · split at h1
        · have := kd_nmo (f := .cons x k .nil) (by rw [kdF_cons, h1]; rfl)
          exact this.2.2.1
        · simp only [Bool.and_eq_true] at h1
          exact ihk h1.2.2.2.2
end Go.Proofs.YtofgniceilbpaaaDoor
namespace Go.Proofs.YtofgniceilbpaaaDoor
open Go.RowKit

def okX (t : Tr) : Prop := coT t = true ∨ kdT t = true
def FdR : Fr → Prop
  | .nil => True
  | .cons x k r => (∃ y l, k = .cons y l .nil ∧ okX (y, l) ∧ txT (x, k) = txT (y, l)) ∧ x.a.size ≤ 160 ∧ FdR r
theorem FdR.app {a b : Fr} (h : FdR (a.app b)) : FdR a ∧ FdR b := by
  induction a with
  | nil => exact ⟨trivial, h⟩
  | cons x k r _ ih => exact ⟨⟨h.1, h.2.1, (ih h.2.2).1⟩, (ih h.2.2).2⟩
end Go.Proofs.YtofgniceilbpaaaDoor
namespace Go.Proofs.YtofgniceilbpaaaDoor
open Go.RowKit

def swR (o : Option Tr) : ByteArray := match o with
  | none => ⟨#[]⟩
  | some t => if ckE (some t) = 0 ∨ kkE (some t) = 0 then txT t else ⟨#[]⟩
theorem kkE_ok {o : Option Tr} (h : kkE o = 0) : ∃ t, o = some t ∧ szT t ≤ 65536 ∧ kdT t = true := by
  cases o with
  | none => exact absurd h (by decide)
  | some t =>
    unfold kkE at h
    simp only at h
    split at h
    · rename_i h1
      split at h
      · rename_i h2; exact ⟨t, rfl, h1, h2⟩
      · exact absurd h (by decide)
    · exact absurd h (by decide)
end Go.Proofs.YtofgniceilbpaaaDoor
