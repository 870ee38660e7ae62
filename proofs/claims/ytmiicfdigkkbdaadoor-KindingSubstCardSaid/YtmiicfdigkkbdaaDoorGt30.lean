/-
  Layer 10, the program's side: shifted.
-/
import Derived.Test.YtmiicfdigkkbdaaDoorGt29
namespace Go.Proofs.YtmiicfdigkkbdaaDoor
open Go.RowKit

theorem ent_sh1 : EntF 84 := fun _ _ => by kernel_rfl
theorem ent_re1 : EntF 59 := fun _ _ => by kernel_rfl
theorem ent_pl1 : EntF 61 := fun _ _ => by kernel_rfl
theorem ent_rp1 : EntF 62 := fun _ _ => by kernel_rfl
theorem pVariable (z : Int) (w : World) : Calls Tryd.prog 63 #[.int .i64 z] w (fun e w' => ∃ v, e = .returned v ∧ Up w w' ∧ NwT w w' v (varN z, .nil)) := by
  go_enter Tryd.func63, Tryd.ntmps63
  go_wp2_with fail
  go_ret
  exact ⟨_, rfl, (Up.refl _).alloc _, leaf_hasN (x := varN z) (Nat.le_refl _)⟩
theorem mpp_same {σ : Type} {F : Nat} {ty : TypeId} {val : σ → Value} {S0 : Nat → Prop} {W w' : World} {s' : σ} {v : Value} {t t' : Tr} (ht : t' = t) (g : Gs (On F) W w') (hj : JS F ty val w' s') (hin : InT w' S0 v t) : MpP F ty val S0 W s' t' v t (.returned v) w' :=
  ⟨v, rfl, g, hj, by rw [ht]; exact hin.keep (fun _ h => .inl h) fun _ _ => rfl, fun _ => ht⟩
theorem InT.gsF {F : Nat} {S0 : Nat → Prop} {w w' : World} {v : Value} {t : Tr} (h : InT w S0 v t) (g : Gs (On F) w w') (hS : Bel S0 w.heap.size) (hF : ¬ S0 F) : InT w' S0 v t := h.keep (fun _ h => h) fun b hb => g.block b (hS b hb) (fun e => by have e : b = F := e; exact hF (e ▸ hb))
theorem set_gs {F : Nat} {w : World} {c : Nat} {u : Value} : Gs (On F) w (w.setCell ⟨F, c, none⟩ u) := (Gs.refl _ _).set _ _ (.inl rfl)
theorem set_js {σ : Type} {F : Nat} {ty : TypeId} {val : σ → Value} {w : World} {s s' : σ} (h : JS F ty val w s) : JS F ty val (w.setCell ⟨F, 0, none⟩ (val s')) s' := by
  unfold JS at h ⊢
  simp [World.setCell, Array.getElem?_modify, h]
theorem JS.cell {σ : Type} {F : Nat} {ty : TypeId} {val : σ → Value} {w : World} {s : σ} (h : JS F ty val w s) : w.cell? ⟨F, 0, none⟩ = some (val s) ∧ w.frozen? ⟨F, 0, none⟩ = false := ⟨cell_of_row w F 0 _ _ _ h, frozen_of_row w F 0 _ _ h⟩
theorem JS.upp {σ : Type} {F : Nat} {ty : TypeId} {val : σ → Value} {w w' : World} {s : σ} (h : JS F ty val w s) (u : Up w w') : JS F ty val w' s := h.keep (u.block F (heap_lt h))
theorem res_tmp_cell {P : Program} {fn : Func} {p q : Tmp} {ty : TypeId} {d : TypeDesc} (h : fn.results = #[.tmp p, .cell q ty]) (tmps : Array Value) (w : World) (a : Addr) (v : Value) (hq : tmps.getD q undef = .pointer (some a)) (hu : P.underlying ty = some d)
    (hd : (match d with | .struct _ | .array _ _ => true | _ => false) = false) (hc : w.cell? a = some v) : (results fn tmps).run P w = .ok (.tuple #[tmps.getD p undef, v]) w := by
  have hagg : (isAgg ty).run P w = .ok false w := by
    unfold isAgg
    rw [Sem.run_bind, run_underlying hu w]
    cases d <;> simp_all
  have hl : (loadVar ty a).run P w = .ok v w := by simp [loadVar, Sem.run_bind, hagg, hc]
  have hq' : tmps[q]?.getD undef = .pointer (some a) := by simpa using hq
  simp [results, h, hq', asAddr, hl]
def valB (s : Bool) : Value := .bool s
set_option maxHeartbeats 6400000 in
set_option maxRecDepth 100000 in
theorem cloS (b c : Int) (F Bf Bb : Nat) (S0 : Nat → Prop) (w0 : World) (hS0 : Bel S0 w0.heap.size) (hF0 : ¬ S0 F) (hf : w0.cell? ⟨Bf, 0, none⟩ = some (.int .i64 c)) (hb : w0.cell? ⟨Bb, 0, none⟩ = some (.int .i64 b)) (hfF : Bf ≠ F) (hbF : Bb ≠ F) :
    CloAt F 4 valB S0 w0 (stS b c) (trS b c) 84 #[.pointer (some ⟨Bf, 0, none⟩), .pointer (some ⟨Bb, 0, none⟩), .pointer (some ⟨F, 0, none⟩)] := by
  intro s d x w v hd hj hg h110 hn0 hn1 ha hm hdn hin
  show Calls _ _ #[v, .int .i64 (d : Int), .pointer (some ⟨Bf, 0, none⟩), .pointer (some ⟨Bb, 0, none⟩), .pointer (some ⟨F, 0, none⟩)] w _
  have kf := hg.cell hf hfF
  have kb := hg.cell hb hbF
  have hSw : Bel S0 w.heap.size := fun q h => Nat.lt_of_lt_of_le (hS0 q h) hg.size
  have HIN := Lib.hid hin
  obtain ⟨q, p, A, cc, rfl, hq1, c0, c1, c2, c3, c4, hc, hkid⟩ := hin.open
  have hqF : q ≠ F := fun e => hF0 (e ▸ hq1)
  have hV1 : stS b c s x d = if x.n - d < c then s else if b < d - x.n ∨ 65536 - x.n < b then false else s := rfl
  have hV2 : trS b c x d = if x.n - d < c then (x, .nil) else if b < d - x.n ∨ 65536 - x.n < b then (x, .nil) else (varN (x.n + b), .nil) := rfl
  obtain ⟨Z, hZ⟩ : ∃ Z, x.n = Z := ⟨_, rfl⟩
  rw [hZ] at c1 hV1 hV2 hn0 hn1 hdn
  have HJ := Lib.hid hj
  have js := hj.cell
  have js1 : w.cell? ⟨F, 0, none⟩ = some (.bool s) := js.1
  have js2 := js.2
  have HSW := Lib.hid hSw
  have HF0 := Lib.hid hF0
  clear hin hkid hc c0 c2 c3 c4 hS0 hf hb hfF hbF hg hq1 js hj
  by_cases h1 : Z - (d : Int) < c
  · rw [if_pos h1] at hV1 hV2
    rw [hV1, hV2]
    go_enter Tryd.func84, Tryd.ntmps84
    go_wp2_with fail
    go_ret
    exact mpp_same rfl (Gs.refl _ _) HJ.out HIN.out
  · rw [if_neg h1] at hV1 hV2
    by_cases h2 : b < (d : Int) - Z ∨ 65536 - Z < b
    · rw [if_pos h2] at hV1 hV2
      rw [hV1, hV2]
      have HS : Hid (∀ n, MpP F 4 valB S0 w false (x, .nil) (.pointer (some ⟨q, p, none⟩)) (x, .nil) (.returned (.pointer (some ⟨q, p, none⟩))) ((w.drewN n).setCell ⟨F, 0, none⟩ (.bool false))) := Lib.hid fun n =>
        have g : Gs (On F) w ((w.drewN n).setCell ⟨F, 0, none⟩ (.bool false)) := (Gs.of ((Up.refl w).drewN n)).trans set_gs
        mpp_same rfl g (set_js (JS.upp HJ.out ((Up.refl w).drewN n))) (HIN.out.gsF g HSW.out HF0.out)
      clear hV1 hV2
      by_cases h3 : b < -(Z - (d : Int))
      · clear h2
        go_enter Tryd.func84, Tryd.ntmps84
        go_wp2_with fail
        go_big_quiet (fail)
        go_wp2_with fail
        go_ret
        exact HS.out _
      · have h4 : 65536 - Z < b := by omega
        have h3' : decide (b < -(Z - (d : Int))) = false := decide_eq_false h3
        clear h2
        go_enter Tryd.func84, Tryd.ntmps84
        go_wp2_with fail
        go_big_quiet (fail)
        go_wp2_with fail
        go_ret
        exact HS.out _
    · rw [if_neg h2] at hV1 hV2
      rw [hV1, hV2]
      have h3 : ¬ b < -(Z - (d : Int)) := fun h => h2 (.inl (by omega))
      have h4 : ¬ 65536 - Z < b := fun h => h2 (.inr h)
      have h3' : decide (b < -(Z - (d : Int))) = false := decide_eq_false h3
      have w4 : wrap64 (Z + b) = Z + b := by unfold wrap64; omega
      have w5 : IntKind.i64.wrap (Z + b) = Z + b := by rw [IntKind.wrap_i64]; omega
      obtain ⟨Y, hY⟩ : ∃ Y, Z + b = Y := ⟨_, rfl⟩
      clear h2
      rw [hY]
      have HV := Lib.hid (fun W => pVariable Y W)
      have HQ : Hid (∀ n (w' : World) (v' : Value), Up (w.drewN n) w' → NwT (w.drewN n) w' v' (varN Y, .nil) → MpP F 4 valB S0 w s (varN Y, .nil) (.pointer (some ⟨q, p, none⟩)) (x, .nil) (.returned v') w') := Lib.hid fun n w' v' u nv => by
        have u2 : Up w w' := ((Up.refl w).drewN n).trans u
        refine ⟨v', rfl, Gs.of u2, JS.upp HJ.out u2, nv.keep (fun q hq => .inr hq) (fun _ _ => rfl), fun e => ?_⟩
        obtain ⟨q', _, _, _, e', hq', _⟩ := nv
        rw [e] at e'
        injection e' with e'
        injection e' with e'
        injection e' with e'
        have h1 : (w.drewN n).heap.size ≤ q' := hq'.1
        have h2 : (w.drewN n).heap.size = w.heap.size := rfl
        have h3 := cell_lt c1
        simp only at h3
        omega
      have hY' := Lib.hid hY.symm
      clear hV1 hV2 hY
      go_enter Tryd.func84, Tryd.ntmps84
      go_wp2_with fail
      go_big_quiet (fail)
      rename_i nq
      go_wp2_with fail
      have hY' : Y = Z + b := hY'.out
      subst hY'
      have HQ1 := Lib.hid (HQ.out (nq + 1))
      obtain ⟨W1, hW1⟩ : ∃ W, w.drewN nq = W := ⟨_, rfl⟩
      have D1 : W1.cell? ⟨q, p + 1, none⟩ = some (.int .i64 Z) := by rw [← hW1]; exact c1
      have D2 : W1.cell? ⟨Bb, 0, none⟩ = some (.int .i64 b) := by rw [← hW1]; exact kb
      have hD3 : w.drewN (nq + 1) = W1.drew := by rw [← hW1]; rfl
      rw [hD3] at HQ1
      rw [hW1]
      clear HQ hD3 hW1 c1 kb kf js1 js2
      go_region_held3 (fun w' => w'.cell? ⟨q, p + 1, none⟩ = some (.int .i64 Z) ∧ w'.cell? ⟨Bb, 0, none⟩ = some (.int .i64 b)) (first | go_keep | (refine ⟨?_, ?_⟩ <;> assumption)) (first
        | (go_at_call 63; refine Calls.mono (HV.out _) ?_; rintro e w2 ⟨v', rfl, u', nv⟩; have m1 := u'.cell (((Up.refl W1).drew).cell D1); have m2 := u'.cell (((Up.refl W1).drew).cell D2)))
      go_wp2_with fail
      go_ret
      exact HQ1.out _ _ u' nv
theorem shifted_any (b c : Int) (t : Tr) (hv : tvok t) (hz : szT t ≤ 1000000) (w : World) (S0 : Nat → Prop) (v : Value) (hS : Bel S0 w.heap.size) (hin : InT w S0 v t) :
    Calls Tryd.prog 64 #[v, .int .i64 b, .int .i64 c] w (fun e w' => ∃ v' t', e = .returned (.tuple #[v', .bool (mvT b c 0 t).isSome]) ∧ Up w w' ∧ InT w' (Sin S0 w w') v' t' ∧ t' = mpT (trS b c) 0 t) := by
  obtain ⟨H, hH⟩ : ∃ H, w.heap.size = H := ⟨_, rfl⟩
  obtain ⟨Wa, hWa⟩ : ∃ W, w.alloc (.cells #[.int .i64 b] 3) = W := ⟨_, rfl⟩
  obtain ⟨Wb, hWb⟩ : ∃ W, Wa.alloc (.cells #[.int .i64 c] 3) = W := ⟨_, rfl⟩
  have ua : Up w Wa := by rw [← hWa]; exact (Up.refl w).alloc _
  have ub : Up Wa Wb := by rw [← hWb]; exact (Up.refl Wa).alloc _
  have sa : Wa.heap.size = H + 1 := by rw [← hWa, ← hH]; simp
  have sb : Wb.heap.size = H + 2 := by rw [← hWb]; simp [sa]
  have ra : Wa.heap[H]? = some (.cells #[.int .i64 b] 3 (0, 0)) := by rw [← hWa, ← hH]; exact heap_alloc_new w _
  have rb : Wb.heap[H + 1]? = some (.cells #[.int .i64 c] 3 (0, 0)) := by rw [← hWb, ← sa]; exact heap_alloc_new Wa _
  obtain ⟨Wc, hWc⟩ : ∃ W, Wb.alloc (.cells #[.bool true] 4) = W := ⟨_, rfl⟩
  have uc : Up Wb Wc := by rw [← hWc]; exact (Up.refl Wb).alloc _
  have rc : JS (H + 2) 4 valB Wc true := by show Wc.heap[H + 2]? = _; rw [← hWc, ← sb]; exact heap_alloc_new Wb _
  have u0 : Up w Wc := (ua.trans ub).trans uc
  have sc : Wc.heap.size = H + 3 := by rw [← hWc]; simp [sb]
  have hF0 : ¬ S0 (H + 2) := fun h => by have := hS _ h; omega
  have hSc : Bel S0 Wc.heap.size := fun q h => by have := hS q h; omega
  have cl := cloS b c (H + 2) (H + 1) H S0 Wc hSc hF0 (uc.cell (cell_of_row Wb (H + 1) 0 _ _ _ rb)) ((ub.trans uc).cell (cell_of_row Wa H 0 _ _ _ ra)) (by omega) (by omega)
  have cM := mapAll ent_sh1 cl hSc hF0 (by omega) (szT t) hz t (Nat.le_refl _) hv 0 (by omega) true Wc v (Gs.refl _ _) rc (hin.keep (fun _ h => h) fun b hb => u0.block b (hS b hb))
  obtain ⟨e1, e2⟩ := fdT_sh b c (t := t) 0 true hv
  rw [e1, Bool.true_and] at cM
  obtain ⟨T, hT⟩ : ∃ T, mpT (trS b c) 0 t = T := ⟨_, rfl⟩
  obtain ⟨B, hB⟩ : ∃ B, (mvT b c 0 t).isSome = B := ⟨_, rfl⟩
  rw [hT, hB] at cM
  rw [hT, hB]
  have HWC := Lib.hid hWc
  have U0 := Lib.hid u0
  have HH := Lib.hid hH
  have HSC := Lib.hid sc
  have HSB : Hid (Bel S0 H) := Lib.hid fun q h => by have := hS q h; omega
  have CM := Lib.hid cM
  clear hT hB e1 e2 cM cl hin hv hz uc ua ub sc u0 hF0 hSc rc ra rb hS hWc
  go_enter Tryd.func64, Tryd.ntmps64
  go_wp2_with fail
  rw [HWC.out]
  refine CM.out.mono ?_
  rintro e w3 ⟨v', rfl, g3, j3, h3, _⟩
  have js := j3.cell
  have js1 : w3.cell? ⟨H + 2, 0, none⟩ = some (.bool B) := js.1
  have js2 := js.2
  have HQ : Hid (∀ n, Up w ((w3.drewN n).setCell ⟨H + 2, 0, none⟩ (.bool B)) ∧ InT ((w3.drewN n).setCell ⟨H + 2, 0, none⟩ (.bool B)) (Sin S0 w ((w3.drewN n).setCell ⟨H + 2, 0, none⟩ (.bool B))) v' T) := Lib.hid fun n => by
    have hz : ((w3.drewN n).setCell ⟨H + 2, 0, none⟩ (.bool B)).heap.size = w3.heap.size := by simp [World.setCell]
    have hs3 := g3.size
    have u3 : Up w w3 := Gs.up U0.out g3 (fun q hq => by have hq : q = H + 2 := hq; rw [HH.out]; omega)
    refine ⟨Below.setCell (u3.drewN n) (by rw [HH.out]; simp only; omega) _, h3.keep (fun q hq => ?_) fun b hb => ?_⟩
    · rcases hq with h | ⟨h1, h2⟩
      · exact .inl h
      · exact .inr ⟨by rw [HH.out]; have := HSC.out; omega, by rw [hz]; exact h2⟩
    · rw [Below.heap_setCell _ _ _ _ (by
        rcases hb with h | ⟨h1, _⟩
        · have := HSB.out b h; simp only; omega
        · have := HSC.out; simp only; omega)]
      rfl
  clear js g3 j3 h3
  go_wp2_with fail
  go_region
  all_goals
    go_wp2_with fail
    try simp only [Exit.inBlock, Exit.then]
    refine bodyPost_ret (res_tmp_cell rfl _ _ ⟨H + 2, 0, none⟩ (.bool B) rfl Tryd.underlying4 rfl (cell_same js1)) rfl ?_
    exact ⟨v', T, rfl, (HQ.out 1).1, (HQ.out 1).2, rfl⟩
end Go.Proofs.YtmiicfdigkkbdaaDoor
namespace Go.Proofs.YtmiicfdigkkbdaaDoor
open Go.RowKit

theorem mpp_of {σ : Type} {F : Nat} {ty : TypeId} {val : σ → Value} {S0 : Nat → Prop} {W w' : World} {s' : σ} {v v' : Value} {t t' : Tr} (g : Gs (On F) W w') (hj : JS F ty val w' s') (h' : InT w' (Sin S0 W w') v' t') (hin : InT W S0 v t) (hS : Bel S0 W.heap.size) (hF : ¬ S0 F) : MpP F ty val S0 W s' t' v t (.returned v') w' :=
  ⟨v', rfl, g, hj, h', fun e => by subst e; exact InT.uniq h' (hin.gsF g hS hF)⟩
set_option maxHeartbeats 6400000 in
set_option maxRecDepth 100000 in
theorem cloP (i : Int) (u : Tr) (hvu : tvok u) (hzu : szT u ≤ 1000000) (F Bi Bb : Nat) (vu : Value) (S0 : Nat → Prop) (w0 : World) (hS0 : Bel S0 w0.heap.size) (hF0 : ¬ S0 F) (hf : w0.cell? ⟨Bi, 0, none⟩ = some (.int .i64 i)) (hb : w0.cell? ⟨Bb, 0, none⟩ = some vu) (hfF : Bi ≠ F) (hbF : Bb ≠ F) (hu : InT w0 S0 vu u) :
    CloAt F 4 valB S0 w0 (stP i u) (trP i u) 62 #[.pointer (some ⟨Bi, 0, none⟩), .pointer (some ⟨Bb, 0, none⟩), .pointer (some ⟨F, 0, none⟩)] := by
  intro s d x w v hd hj hg h110 hn0 hn1 ha hm hdn hin
  show Calls _ _ #[v, .int .i64 (d : Int), .pointer (some ⟨Bi, 0, none⟩), .pointer (some ⟨Bb, 0, none⟩), .pointer (some ⟨F, 0, none⟩)] w _
  have kf := hg.cell hf hfF
  have kb := hg.cell hb hbF
  have hSw : Bel S0 w.heap.size := fun q h => Nat.lt_of_lt_of_le (hS0 q h) hg.size
  have hu' : InT w S0 vu u := hu.gsF hg hS0 hF0
  obtain ⟨qu, pu, rfl⟩ := hu'.ptr
  have HIN := Lib.hid hin
  obtain ⟨q, p, A, cc, rfl, hq1, c0, c1, c2, c3, c4, hc, hkid⟩ := hin.open
  have hqF : q ≠ F := fun e => hF0 (e ▸ hq1)
  have hV1 : stP i u s x d = if x.n - d < i then s else if i < x.n - d then s else s && fdT' (stS d 0) true 0 u := rfl
  have hV2 : trP i u x d = if x.n - d < i then (x, .nil) else if i < x.n - d then (varN (x.n - 1), .nil) else mpT (trS d 0) 0 u := rfl
  obtain ⟨Z, hZ⟩ : ∃ Z, x.n = Z := ⟨_, rfl⟩
  rw [hZ] at c1 hV1 hV2 hn0 hn1 hdn
  have HJ := Lib.hid hj
  have js := hj.cell
  have js1 : w.cell? ⟨F, 0, none⟩ = some (.bool s) := js.1
  have js2 := js.2
  have HSW := Lib.hid hSw
  have HF0 := Lib.hid hF0
  have hFw : F < w.heap.size := heap_lt hj
  have HU := Lib.hid hu'
  clear hin hkid hc c0 c2 c3 c4 hS0 hf hb hfF hbF hg hq1 js hj hu hu'
  by_cases h1 : Z - (d : Int) < i
  · rw [if_pos h1] at hV1 hV2
    rw [hV1, hV2]
    clear hV1 hV2 kb js1 js2
    go_enter Tryd.func62, Tryd.ntmps62
    go_wp2_with fail
    go_big_quiet (fail)
    go_wp2_with fail
    go_ret
    exact mpp_of (Gs.of ((Up.refl w).drewN _)) (JS.upp HJ.out ((Up.refl w).drewN _)) ((HIN.out.drew _).keep (fun _ h => .inl h) fun _ _ => rfl) HIN.out HSW.out HF0.out
  · rw [if_neg h1] at hV1 hV2
    by_cases h2 : i < Z - (d : Int)
    · rw [if_pos h2] at hV1 hV2
      rw [hV1, hV2]
      have w4 : wrap64 (Z - 1) = Z - 1 := by unfold wrap64; omega
      have HV := Lib.hid (fun W => pVariable (Z - 1) W)
      clear hV1 hV2 kb js1 js2
      go_enter Tryd.func62, Tryd.ntmps62
      go_wp2_with fail
      go_big_quiet (fail)
      go_wp2_with fail
      go_big_quiet (fail)
      go_wp2_with fail
      refine (HV.out _).mono ?_
      rintro e w2 ⟨v', rfl, u', nv⟩
      go_wp2_with fail
      go_ret
      have u2 : Up w w2 := ((Up.refl w).drewN _).trans u'
      exact mpp_of (Gs.of u2) (JS.upp HJ.out u2) (nv.keep (fun q hq => .inr hq) (fun _ _ => rfl)) HIN.out HSW.out HF0.out
    · rw [if_neg h2] at hV1 hV2
      rw [hV1, hV2]
      have cS := fun W (uu : Up w W) => shifted_any (d : Int) 0 u hvu hzu W S0 (.pointer (some ⟨qu, pu, none⟩)) (fun q h => Nat.lt_of_lt_of_le (hSw q h) uu.size) (HU.out.keep (fun _ h => h) fun b hb => uu.block b (hSw b hb))
      rw [(fdT_sh d 0 0 true hvu).1, Bool.true_and]
      obtain ⟨B, hB⟩ : ∃ B, (mvT (d : Int) 0 0 u).isSome = B := ⟨_, rfl⟩
      rw [hB] at cS ⊢
      obtain ⟨T, hT⟩ : ∃ B, mpT (trS (d : Int) 0) 0 u = B := ⟨_, rfl⟩
      rw [hT] at cS ⊢
      have CS := Lib.hid cS
      clear hV1 hV2 hB hT cS
      go_enter Tryd.func62, Tryd.ntmps62
      go_wp2_with fail
      go_big_quiet (fail)
      go_wp2_with fail
      go_big_quiet (fail)
      go_wp2_with fail
      refine (CS.out _ ((Up.refl w).drewN _)).mono ?_
      rintro e w2 ⟨v', t', rfl, u', h', rfl⟩
      have u2 : Up w w2 := ((Up.refl w).drewN _).trans u'
      have js1b := u2.cell js1
      have js3 := JS.upp HJ.out u2
      have js2b := js3.cell.2
      have hs2 := u2.size
      have HQ : Hid (MpP F 4 valB S0 w (s && B) t' (.pointer (some ⟨q, p, none⟩)) (x, .nil) (.returned v') (w2.setCell ⟨F, 0, none⟩ (.bool (s && B)))) := Lib.hid (by
        have g : Gs (On F) w (w2.setCell ⟨F, 0, none⟩ (.bool (s && B))) := (Gs.of u2).trans set_gs
        refine mpp_of g (set_js js3) (h'.keep (fun q' hq => ?_) fun b hb => ?_) HIN.out HSW.out HF0.out
        · rcases hq with h | ⟨h1, h2⟩
          · exact .inl h
          · exact .inr ⟨h1, by simpa [World.setCell] using h2⟩
        · refine Below.heap_setCell _ _ _ _ ?_
          rcases hb with h | ⟨h1, _⟩
          · intro e; have e : b = F := e; exact HF0.out (e ▸ h)
          · have h1 : w.heap.size ≤ b := h1
            simp only
            omega)
      obtain ⟨qv, pv, rfl⟩ := h'.ptr
      clear u' h' u2 js3 hs2
      cases s with
      | false =>
        go_wp2_with fail
        go_ret
        exact HQ.out
      | true =>
        go_wp2_with fail
        go_ret
        exact HQ.out
theorem replaced_any (i : Int) (u t : Tr) (hvu : tvok u) (hzu : szT u ≤ 1000000) (hv : tvok t) (hz : szT t ≤ 1000000) (w : World) (S0 : Nat → Prop) (v vu : Value) (hS : Bel S0 w.heap.size) (hin : InT w S0 v t) (hinu : InT w S0 vu u) :
    Calls Tryd.prog 34 #[v, .int .i64 i, vu] w (fun e w' => ∃ v' t', e = .returned (.tuple #[v', .bool (ptT i u 0 t).isSome]) ∧ Up w w' ∧ InT w' (Sin S0 w w') v' t' ∧ t' = mpT (trP i u) 0 t) := by
  obtain ⟨H, hH⟩ : ∃ H, w.heap.size = H := ⟨_, rfl⟩
  obtain ⟨qu, pu, rfl⟩ := hinu.ptr
  obtain ⟨Wa, hWa⟩ : ∃ W, w.alloc (.cells #[.int .i64 i] 3) = W := ⟨_, rfl⟩
  obtain ⟨Wb, hWb⟩ : ∃ W, Wa.alloc (.cells #[.pointer (some ⟨qu, pu, none⟩)] 25) = W := ⟨_, rfl⟩
  have ua : Up w Wa := by rw [← hWa]; exact (Up.refl w).alloc _
  have ub : Up Wa Wb := by rw [← hWb]; exact (Up.refl Wa).alloc _
  have sa : Wa.heap.size = H + 1 := by rw [← hWa, ← hH]; simp
  have sb : Wb.heap.size = H + 2 := by rw [← hWb]; simp [sa]
  have ra : Wa.heap[H]? = some (.cells #[.int .i64 i] 3 (0, 0)) := by rw [← hWa, ← hH]; exact heap_alloc_new w _
  have rb : Wb.heap[H + 1]? = some (.cells #[.pointer (some ⟨qu, pu, none⟩)] 25 (0, 0)) := by rw [← hWb, ← sa]; exact heap_alloc_new Wa _
  obtain ⟨Wc, hWc⟩ : ∃ W, Wb.alloc (.cells #[.bool true] 4) = W := ⟨_, rfl⟩
  have uc : Up Wb Wc := by rw [← hWc]; exact (Up.refl Wb).alloc _
  have rc : JS (H + 2) 4 valB Wc true := by show Wc.heap[H + 2]? = _; rw [← hWc, ← sb]; exact heap_alloc_new Wb _
  have u0 : Up w Wc := (ua.trans ub).trans uc
  have sc : Wc.heap.size = H + 3 := by rw [← hWc]; simp [sb]
  have hF0 : ¬ S0 (H + 2) := fun h => by have := hS _ h; omega
  have hSc : Bel S0 Wc.heap.size := fun q h => by have := hS q h; omega
  have hinu0 : InT Wc S0 (.pointer (some ⟨qu, pu, none⟩)) u := hinu.keep (fun _ h => h) fun b hb => u0.block b (hS b hb)
  have cl := cloP i u hvu hzu (H + 2) H (H + 1) _ S0 Wc hSc hF0 ((ub.trans uc).cell (cell_of_row Wa H 0 _ _ _ ra)) (uc.cell (cell_of_row Wb (H + 1) 0 _ _ _ rb)) (by omega) (by omega) hinu0
  have cM := mapAll ent_rp1 cl hSc hF0 (by omega) (szT t) hz t (Nat.le_refl _) hv 0 (by omega) true Wc v (Gs.refl _ _) rc (hin.keep (fun _ h => h) fun b hb => u0.block b (hS b hb))
  obtain ⟨e1, e2⟩ := fdT_pt i u hvu (t := t) 0 true hv
  rw [e1, Bool.true_and] at cM
  obtain ⟨T, hT⟩ : ∃ T, mpT (trP i u) 0 t = T := ⟨_, rfl⟩
  obtain ⟨B, hB⟩ : ∃ B, (ptT i u 0 t).isSome = B := ⟨_, rfl⟩
  rw [hT, hB] at cM
  rw [hT, hB]
  have HWC := Lib.hid hWc
  have U0 := Lib.hid u0
  have HH := Lib.hid hH
  have HSC := Lib.hid sc
  have HSB : Hid (Bel S0 H) := Lib.hid fun q h => by have := hS q h; omega
  have CM := Lib.hid cM
  clear hT hB e1 e2 cM cl hin hv hz uc ua ub sc u0 hF0 hSc rc ra rb hS hWc hinu hinu0
  go_enter Tryd.func34, Tryd.ntmps34
  go_wp2_with fail
  rw [HWC.out]
  refine CM.out.mono ?_
  rintro e w3 ⟨v', rfl, g3, j3, h3, _⟩
  have js := j3.cell
  have js1 : w3.cell? ⟨H + 2, 0, none⟩ = some (.bool B) := js.1
  have js2 := js.2
  have HQ : Hid (∀ n, Up w ((w3.drewN n).setCell ⟨H + 2, 0, none⟩ (.bool B)) ∧ InT ((w3.drewN n).setCell ⟨H + 2, 0, none⟩ (.bool B)) (Sin S0 w ((w3.drewN n).setCell ⟨H + 2, 0, none⟩ (.bool B))) v' T) := Lib.hid fun n => by
    have hz : ((w3.drewN n).setCell ⟨H + 2, 0, none⟩ (.bool B)).heap.size = w3.heap.size := by simp [World.setCell]
    have hs3 := g3.size
    have u3 : Up w w3 := Gs.up U0.out g3 (fun q hq => by have hq : q = H + 2 := hq; rw [HH.out]; omega)
    refine ⟨Below.setCell (u3.drewN n) (by rw [HH.out]; simp only; omega) _, h3.keep (fun q hq => ?_) fun b hb => ?_⟩
    · rcases hq with h | ⟨h1, h2⟩
      · exact .inl h
      · exact .inr ⟨by rw [HH.out]; have := HSC.out; omega, by rw [hz]; exact h2⟩
    · rw [Below.heap_setCell _ _ _ _ (by
        rcases hb with h | ⟨h1, _⟩
        · have := HSB.out b h; simp only; omega
        · have := HSC.out; simp only; omega)]
      rfl
  clear js g3 j3 h3
  go_wp2_with fail
  go_region
  all_goals
    go_wp2_with fail
    try simp only [Exit.inBlock, Exit.then]
    refine bodyPost_ret (res_tmp_cell rfl _ _ ⟨H + 2, 0, none⟩ (.bool B) rfl Tryd.underlying4 rfl (cell_same js1)) rfl ?_
    exact ⟨v', T, rfl, (HQ.out 1).1, (HQ.out 1).2, rfl⟩
/-! ### the greatest one -/
def valI (s : Int) : Value := .int .i64 s
set_option maxHeartbeats 6400000 in
set_option maxRecDepth 100000 in
theorem cloM (F : Nat) (S0 : Nat → Prop) (w0 : World) (hS0 : Bel S0 w0.heap.size) (hF0 : ¬ S0 F) : CloAt F 3 valI S0 w0 stM trI 59 #[.pointer (some ⟨F, 0, none⟩)] := by
  intro s d x w v hd hj hg h110 hn0 hn1 ha hm hdn hin
  show Calls _ _ #[v, .int .i64 (d : Int), .pointer (some ⟨F, 0, none⟩)] w _
  have hSw : Bel S0 w.heap.size := fun q h => Nat.lt_of_lt_of_le (hS0 q h) hg.size
  have HIN := Lib.hid hin
  obtain ⟨q, p, A, cc, rfl, hq1, c0, c1, c2, c3, c4, hc, hkid⟩ := hin.open
  have hqF : q ≠ F := fun e => hF0 (e ▸ hq1)
  have hV1 : stM s x d = max s (x.n - d + 1) := rfl
  have hV2 : trI x d = (x, .nil) := rfl
  obtain ⟨Z, hZ⟩ : ∃ Z, x.n = Z := ⟨_, rfl⟩
  rw [hZ] at c1 hV1 hn0 hn1 hdn
  rw [hV1, hV2]
  have HJ := Lib.hid hj
  have js := hj.cell
  have js1 : w.cell? ⟨F, 0, none⟩ = some (.int .i64 s) := js.1
  have js2 := js.2
  have HSW := Lib.hid hSw
  have HF0 := Lib.hid hF0
  have HQ : Hid (∀ n, MpP F 3 valI S0 w (max s (Z - d + 1)) (x, .nil) (.pointer (some ⟨q, p, none⟩)) (x, .nil) (.returned (.pointer (some ⟨q, p, none⟩))) ((w.setCell ⟨F, 0, none⟩ (.int .i64 (max s (Z - d + 1)))).drewN n)) := Lib.hid fun n => by
    have g : Gs (On F) w ((w.setCell ⟨F, 0, none⟩ (.int .i64 (max s (Z - d + 1)))).drewN n) := set_gs.trans (Gs.of ((Up.refl _).drewN n))
    exact mpp_same rfl g (JS.upp (set_js (val := valI) HJ.out) ((Up.refl _).drewN n)) (HIN.out.gsF g HSW.out HF0.out)
  clear hin hkid hc c0 c2 c3 c4 hS0 hg hq1 js hj hV1 hV2
  go_enter Tryd.func59, Tryd.ntmps59
  go_wp2_with fail
  go_region
  all_goals
    go_wp2_with fail
    go_ret
    exact HQ.out 1
set_option maxHeartbeats 3200000 in
set_option maxRecDepth 100000 in
theorem reach_any (t : Tr) (hv : tvok t) (hz : szT t ≤ 1000000) (w : World) (S0 : Nat → Prop) (v : Value) (hS : Bel S0 w.heap.size) (hin : InT w S0 v t) :
    Calls Tryd.prog 31 #[v] w (InP (fvT 0 t) w) := by
  obtain ⟨H, hH⟩ : ∃ H, w.heap.size = H := ⟨_, rfl⟩
  obtain ⟨Wc, hWc⟩ : ∃ W, w.alloc (.cells #[.int .i64 0] 3) = W := ⟨_, rfl⟩
  have u0 : Up w Wc := by rw [← hWc]; exact (Up.refl w).alloc _
  have rc : JS H 3 valI Wc 0 := by show Wc.heap[H]? = _; rw [← hWc, ← hH]; exact heap_alloc_new w _
  have sc : Wc.heap.size = H + 1 := by rw [← hWc, ← hH]; simp
  have hF0 : ¬ S0 H := fun h => by have := hS _ h; omega
  have hSc : Bel S0 Wc.heap.size := fun q h => by have := hS q h; omega
  have cM := mapAll ent_re1 (cloM H S0 Wc hSc hF0) hSc hF0 (by omega) (szT t) hz t (Nat.le_refl _) hv 0 (by omega) 0 Wc v (Gs.refl _ _) rc (hin.keep (fun _ h => h) fun b hb => u0.block b (hS b hb))
  rw [fdT_fv 0 hv] at cM
  obtain ⟨T, hT⟩ : ∃ T, fvT 0 t = T := ⟨_, rfl⟩
  rw [hT] at cM ⊢
  have HWC := Lib.hid hWc
  have U0 := Lib.hid u0
  have HH := Lib.hid hH
  have CM := Lib.hid cM
  clear hT cM hin hv hz sc u0 hF0 hSc rc hS hWc
  go_enter Tryd.func31, Tryd.ntmps31
  go_wp2_with fail
  rw [HWC.out]
  refine CM.out.mono ?_
  rintro e w3 ⟨v', rfl, g3, j3, h3, _⟩
  have js1 : w3.cell? ⟨H, 0, none⟩ = some (.int .i64 T) := j3.cell.1
  have HU : Hid (Up w w3) := Lib.hid (Gs.up U0.out g3 (fun q hq => by have hq : q = H := hq; rw [HH.out]; omega))
  clear g3 j3 h3
  go_wp2_with fail
  go_ret
  exact ⟨rfl, HU.out⟩
/-! ### how often -/
def valN (s : Nat) : Value := .int .i64 (wrap64 (s : Int))
theorem wrap_next (s : Nat) : wrap64 (wrap64 (s : Int) + 1) = wrap64 (((s + 1 : Nat) : Int)) := by unfold wrap64; omega
set_option maxHeartbeats 6400000 in
set_option maxRecDepth 100000 in
theorem cloC (i : Int) (F Bi : Nat) (S0 : Nat → Prop) (w0 : World) (hS0 : Bel S0 w0.heap.size) (hF0 : ¬ S0 F) (hf : w0.cell? ⟨Bi, 0, none⟩ = some (.int .i64 i)) (hfF : Bi ≠ F) : CloAt F 3 valN S0 w0 (stC i) trI 61 #[.pointer (some ⟨Bi, 0, none⟩), .pointer (some ⟨F, 0, none⟩)] := by
  intro s d x w v hd hj hg h110 hn0 hn1 ha hm hdn hin
  show Calls _ _ #[v, .int .i64 (d : Int), .pointer (some ⟨Bi, 0, none⟩), .pointer (some ⟨F, 0, none⟩)] w _
  have kf := hg.cell hf hfF
  have hSw : Bel S0 w.heap.size := fun q h => Nat.lt_of_lt_of_le (hS0 q h) hg.size
  have HIN := Lib.hid hin
  obtain ⟨q, p, A, cc, rfl, hq1, c0, c1, c2, c3, c4, hc, hkid⟩ := hin.open
  have hqF : q ≠ F := fun e => hF0 (e ▸ hq1)
  have hV1 : stC i s x d = if x.n - d = i then s + 1 else s := rfl
  have hV2 : trI x d = (x, .nil) := rfl
  obtain ⟨Z, hZ⟩ : ∃ Z, x.n = Z := ⟨_, rfl⟩
  rw [hZ] at c1 hV1 hn0 hn1 hdn
  rw [hV2]
  have HJ := Lib.hid hj
  have js := hj.cell
  obtain ⟨Y, hY⟩ : ∃ Y, wrap64 (s : Int) = Y := ⟨_, rfl⟩
  have js1 : w.cell? ⟨F, 0, none⟩ = some (.int .i64 Y) := by rw [← hY]; exact js.1
  have js2 := js.2
  have HSW := Lib.hid hSw
  have HF0 := Lib.hid hF0
  obtain ⟨X, hX⟩ : ∃ X, wrap64 (Y + 1) = X := ⟨_, rfl⟩
  have hX' : IntKind.i64.wrap (Y + 1) = X := by rw [IntKind.wrap_i64]; unfold wrap64 at hX; exact hX
  have HQ : Hid (∀ n, MpP F 3 valN S0 w (s + 1) (x, .nil) (.pointer (some ⟨q, p, none⟩)) (x, .nil) (.returned (.pointer (some ⟨q, p, none⟩))) ((w.drewN n).setCell ⟨F, 0, none⟩ (.int .i64 X))) := Lib.hid fun n => by
    have g : Gs (On F) w ((w.drewN n).setCell ⟨F, 0, none⟩ (.int .i64 X)) := (Gs.of ((Up.refl w).drewN n)).trans set_gs
    have e : (Value.int .i64 X) = valN (s + 1) := by unfold valN; rw [← wrap_next, hY, hX]
    refine mpp_same rfl g ?_ (HIN.out.gsF g HSW.out HF0.out)
    rw [e]
    exact set_js (val := valN) (JS.upp HJ.out ((Up.refl w).drewN n))
  have HQ0 : Hid (∀ n, MpP F 3 valN S0 w s (x, .nil) (.pointer (some ⟨q, p, none⟩)) (x, .nil) (.returned (.pointer (some ⟨q, p, none⟩))) (w.drewN n)) := Lib.hid fun n =>
    have g : Gs (On F) w (w.drewN n) := Gs.of ((Up.refl w).drewN n)
    mpp_same rfl g (JS.upp HJ.out ((Up.refl w).drewN n)) (HIN.out.gsF g HSW.out HF0.out)
  clear hin hkid hc c0 c2 c3 c4 hS0 hg hq1 js hj hV2 hf hfF hY
  by_cases h1 : Z - (d : Int) = i
  · rw [if_pos h1] at hV1
    rw [hV1]
    have h1' : (Z - (d : Int) == i) = true := by rw [beq_iff_eq]; exact h1
    clear hV1
    go_enter Tryd.func61, Tryd.ntmps61
    go_wp2_with fail
    go_big_quiet (fail)
    go_wp2_with fail
    go_ret
    exact HQ.out _
  · rw [if_neg h1] at hV1
    rw [hV1]
    have h1' : (Z - (d : Int) == i) = false := by rw [beq_eq_false_iff_ne]; exact h1
    clear hV1
    go_enter Tryd.func61, Tryd.ntmps61
    go_wp2_with fail
    go_big_quiet (fail)
    go_wp2_with fail
    go_ret
    exact HQ0.out _
set_option maxHeartbeats 3200000 in
set_option maxRecDepth 100000 in
theorem places_any (i : Int) (t : Tr) (hv : tvok t) (hz : szT t ≤ 1000000) (w : World) (S0 : Nat → Prop) (v : Value) (hS : Bel S0 w.heap.size) (hin : InT w S0 v t) :
    Calls Tryd.prog 33 #[v, .int .i64 i] w (NuP (ctT i 0 t) w) := by
  obtain ⟨H, hH⟩ : ∃ H, w.heap.size = H := ⟨_, rfl⟩
  obtain ⟨Wa, hWa⟩ : ∃ W, w.alloc (.cells #[.int .i64 i] 3) = W := ⟨_, rfl⟩
  have ua : Up w Wa := by rw [← hWa]; exact (Up.refl w).alloc _
  have sa : Wa.heap.size = H + 1 := by rw [← hWa, ← hH]; simp
  have ra : Wa.heap[H]? = some (.cells #[.int .i64 i] 3 (0, 0)) := by rw [← hWa, ← hH]; exact heap_alloc_new w _
  obtain ⟨Wc, hWc⟩ : ∃ W, Wa.alloc (.cells #[.int .i64 0] 3) = W := ⟨_, rfl⟩
  have uc : Up Wa Wc := by rw [← hWc]; exact (Up.refl Wa).alloc _
  have u0 : Up w Wc := ua.trans uc
  have e0 : valN 0 = Value.int .i64 0 := by unfold valN; rw [show wrap64 ((0 : Nat) : Int) = 0 by unfold wrap64; omega]
  have rc : JS (H + 1) 3 valN Wc 0 := by unfold JS; rw [e0, ← hWc, ← sa]; exact heap_alloc_new Wa _
  have sc : Wc.heap.size = H + 2 := by rw [← hWc]; simp [sa]
  have hF0 : ¬ S0 (H + 1) := fun h => by have := hS _ h; omega
  have hSc : Bel S0 Wc.heap.size := fun q h => by have := hS q h; omega
  have cM := mapAll ent_pl1 (cloC i (H + 1) H S0 Wc hSc hF0 (uc.cell (cell_of_row Wa H 0 _ _ _ ra)) (by omega)) hSc hF0 (by omega) (szT t) hz t (Nat.le_refl _) hv 0 (by omega) 0 Wc v (Gs.refl _ _) rc (hin.keep (fun _ h => h) fun b hb => u0.block b (hS b hb))
  rw [fdT_ct i 0 0 hv, Nat.zero_add] at cM
  have hct := ctT_le i 0 t
  have hwT : wrap64 ((ctT i 0 t : Nat) : Int) = ((ctT i 0 t : Nat) : Int) := by unfold wrap64; omega
  obtain ⟨T, hT⟩ : ∃ T, ctT i 0 t = T := ⟨_, rfl⟩
  rw [hT] at cM hwT ⊢
  have HWC := Lib.hid hWc
  have U0 := Lib.hid u0
  have HH := Lib.hid hH
  have CM := Lib.hid cM
  clear hT cM hin hv hz sc u0 hF0 hSc rc hS hWc ua uc ra hct
  go_enter Tryd.func33, Tryd.ntmps33
  go_wp2_with fail
  rw [HWC.out]
  refine CM.out.mono ?_
  rintro e w3 ⟨v', rfl, g3, j3, h3, _⟩
  have js1 : w3.cell? ⟨H + 1, 0, none⟩ = some (.int .i64 (T : Int)) := by
    have h := j3.cell.1
    unfold valN at h
    rw [hwT] at h
    exact h
  have HU : Hid (Up w w3) := Lib.hid (Gs.up U0.out g3 (fun q hq => by have hq : q = H + 1 := hq; rw [HH.out]; omega))
  clear g3 j3 h3
  go_wp2_with fail
  go_ret
  exact ⟨rfl, HU.out⟩
end Go.Proofs.YtmiicfdigkkbdaaDoor
