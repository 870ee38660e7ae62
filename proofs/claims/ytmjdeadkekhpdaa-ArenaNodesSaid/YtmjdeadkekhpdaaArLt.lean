/-
  The law ArenaTells.
-/
import Derived.Test.YtmjdeadkekhpdaaArU
import Derived.Test.YtmjdeadkekhpdaaArN
import Derived.Test.YtmjdeadkekhpdaaArLo
import Derived.Deep.RegionHeld3
namespace Go.Proofs.Ytmjdeadkekhpdaa
open Go.RowKit

theorem ptr_neq (w : World) (a : Addr) : (binOp .neq 26 (.pointer (some a)) (.pointer none)).run Try.prog w = .ok (.bool true) w := by
  have h : ∀ d : Nat, (Op.equalIn (d + 1) 26 (.pointer (some a)) (.pointer none)).run Try.prog w = .ok false w := fun d => by simp [Op.equalIn, run_underlying Try.underlying26]
  simp only [binOp]
  simp [Op.equal, Op.maxDepth, h 9999]
theorem FePost.up {cs : List Cel} {W w : World} {e : Ending} {w' : World} (u : Up W w) (h : FePost cs w e w') : ∃ v, e = .returned (.agg #[v]) ∧ Cls w' w'.heap.size v (fewL cs) ∧ Up W w' := by
  obtain ⟨v, he, hc, hb⟩ := h
  exact ⟨v, he, hc, u.of hb⟩
theorem uFew (cs : List Cel) {W w : World} {v : Value} (h : Cls W W.heap.size v cs) (hf : ∀ c ∈ cs, fitC c) (u : Up W w) :
    Calls Try.prog 9 #[.agg #[v]] w fun e w' => ∃ v, e = .returned (.agg #[v]) ∧ Cls w' w'.heap.size v (fewL cs) ∧ Up W w' :=
  (few_any cs w v (h.upp u) (fit_few hf)).mono fun _ _ k => FePost.up u k
theorem few_le (cs : List Cel) : (fewL cs).length ≤ 1000000 := by have := fewL_len cs; omega
theorem fewL_a (cs : List Cel) : ∀ c ∈ fewL cs, c.x.a.size ≤ 20 := by
  intro c hc
  obtain ⟨d, _, rfl⟩ := List.mem_map.1 hc
  exact trT_le _
/-- What few cells are opened to. -/
theorem op_few (cs : List Cel) : ∃ (o : Option Tr) (z : Int), opR (fewL cs) = (o, z) ∧ szO o ≤ 60 ∧ ((∃ t, o = some t ∧ z = 0 ∧ t.1.a.size ≤ 20 ∧ szT t = (fewL cs).length) ∨ (o = none ∧ z ≠ 0)) := by
  rcases op_two (fewL_len cs) with ⟨t, h, hs, hl, _, _, hg⟩ | ⟨z, h, hz, _⟩
  · refine ⟨some t, 0, h, hs, .inl ⟨t, rfl, rfl, ?_, hl⟩⟩
    have hp : 1 ≤ szT t := by unfold szT; omega
    have hm := List.mem_of_getElem? (cel_lt (cs := fewL cs) (i := (fewL cs).length - 1) (by omega))
    have hx : t.1 = (cel (fewL cs) ((fewL cs).length - 1)).x := by
      rw [← hg]
      cases (fewL cs).length <;> rfl
    rw [hx]
    exact fewL_a cs _ hm
  · exact ⟨none, z, h, Nat.zero_le _, .inr ⟨rfl, hz⟩⟩
theorem add_ne (a : ByteArray) : a ++ (⟨#[120]⟩ : ByteArray) ≠ a := by
  intro h
  have := congrArg ByteArray.size h
  simp [ByteArray.size_append] at this
  exact absurd this (by decide)
theorem Top.up {w w' : World} {q p : Nat} {k n : Int} {a : ByteArray} (h : Top w q p k n a) (u : Up w w') : Top w' q p k n a := by
  obtain ⟨⟨cs, e, hc⟩, h0, h1, h2⟩ := h
  exact ⟨⟨cs, e, u.row hc⟩, u.cell h0, u.cell h1, u.cell h2⟩
theorem Top.frozen {w : World} {q p o : Nat} {k n : Int} {a : ByteArray} (h : Top w q p k n a) : w.frozen? ⟨q, o, none⟩ = false := by
  obtain ⟨⟨cs, e, hc⟩, -⟩ := h
  exact frozen_of_row w q o _ _ hc
theorem Top.far {w : World} {q b p o : Nat} {k n : Int} {a : ByteArray} (h : Top w q p k n a) (hb : q ≠ b) (v : Value) : Top (w.setCell ⟨b, o, none⟩ v) q p k n a := by
  obtain ⟨⟨cs, e, hc⟩, h0, h1, h2⟩ := h
  exact ⟨⟨cs, e, (Below.heap_setCell _ _ _ _ hb).trans hc⟩, (cell_setCell _ _ _ hb).trans h0, (cell_setCell _ _ _ hb).trans h1, (cell_setCell _ _ _ hb).trans h2⟩
theorem Top.store {w : World} {q p : Nat} {k n : Int} {a : ByteArray} (h : Top w q p k n a) (b : ByteArray) : Top (w.setCell ⟨q, p + 2, none⟩ (.string b)) q p k n b := by
  obtain ⟨⟨cs, e, hc⟩, h0, h1, h2⟩ := h
  refine ⟨?_, (World.cell?_setCell_other _ _ _ _ (by simp)).trans h0, (World.cell?_setCell_other _ _ _ _ (by simp)).trans h1, cell_same h2⟩
  unfold Pln
  simp [World.setCell, Array.getElem?_modify, hc]
set_option maxHeartbeats 12800000 in
set_option maxRecDepth 100000 in
theorem lawTells (cs ds : List Cel) (w : World) (cv dv : Value) (hcl : Cls w w.heap.size cv cs) (hdl : Cls w w.heap.size dv ds) (hfit : ∀ c ∈ cs, fitC c) (hfit2 : ∀ c ∈ ds, fitC c) :
    Calls Try.prog 4 #[.agg #[cv], .agg #[dv]] w (SbPost true w) := by
  obtain ⟨H, hH⟩ : ∃ H, w.heap.size = H := ⟨_, rfl⟩
  obtain ⟨CA, cc, hcv, -, -⟩ := id hcl
  obtain ⟨DA, dc, hdv, -, -⟩ := id hdl
  have u0 : Up w ((w.alloc (.cells #[cv] 24)).alloc (.cells #[dv] 24)) := ((Up.refl w).alloc _).alloc _
  obtain ⟨W0, hW0⟩ : ∃ W0, (w.alloc (.cells #[cv] 24)).alloc (.cells #[dv] 24) = W0 := ⟨_, rfl⟩
  have kc : W0.cell? ⟨H, 0, none⟩ = some cv := by
    rw [← hW0, ← hH]
    exact cell_of_row _ w.heap.size 0 _ _ _ (block_alloc _ (heap_alloc_new w (.cells #[cv] 24)))
  have kd : W0.cell? ⟨H + 1, 0, none⟩ = some dv := by
    rw [← hW0, ← hH]
    have h := heap_alloc_new (w.alloc (.cells #[cv] 24)) (.cells #[dv] 24)
    rw [show (w.alloc (.cells #[cv] 24)).heap.size = w.heap.size + 1 by simp] at h
    exact cell_of_row _ (w.heap.size + 1) 0 _ _ _ h
  rw [hW0] at u0
  have hcl0 := hcl.upp u0
  have hdl0 := hdl.upp u0
  obtain ⟨ox, zx, hox, hsx, hx2⟩ := op_few cs
  obtain ⟨oy, zy, hoy, hsy, -⟩ := op_few ds
  have HW0 := Lib.hid hW0
  have HH := Lib.hid hH
  have U0 := Lib.hid u0
  have HCL := Lib.hid hcl0
  have HDL := Lib.hid hdl0
  have HF := Lib.hid hfit
  have HF2 := Lib.hid hfit2
  have HOX := Lib.hid hox
  have HOY := Lib.hid hoy
  have HSX := Lib.hid hsx
  have HSY := Lib.hid hsy
  have HX2 := Lib.hid hx2
  clear hcl hdl u0 hW0 hcl0 hdl0 hfit hfit2 hox hoy hsx hsy hx2
  subst hcv hdv
  go_enter Try.func4, Try.ntmps4
  go_wp2_with fail
  rw [HW0.out]
  refine (uFew cs HCL.out HF.out (Up.refl _)).mono ?_
  rintro e w1 ⟨v1, rfl, h1, u1⟩
  have kd1 := u1.cell kd
  have H1 := Lib.hid h1
  have U1 := Lib.hid u1
  clear h1 u1
  go_wp2_with fail
  refine (rOpen (fewL cs) H1.out (few_kids cs) (few_le cs) (Up.refl _)).mono ?_
  rw [HOX.out]
  rintro e w2 ⟨x, rfl, h2, u2⟩
  have kd2 := u2.cell kd1
  have H2 := Lib.hid h2
  have U2 := Lib.hid u2
  clear h2 u2
  go_wp2_with fail
  refine (uFew ds (HDL.out.upp (U1.out.trans U2.out)) HF2.out (Up.refl _)).mono ?_
  rintro e w3 ⟨v3, rfl, h3, u3⟩
  have H3 := Lib.hid h3
  have U3 := Lib.hid u3
  clear h3 u3
  go_wp2_with fail
  refine (rOpen (fewL ds) H3.out (few_kids ds) (few_le ds) (Up.refl _)).mono ?_
  rw [HOY.out]
  rintro e w4 ⟨y, rfl, h4, u4⟩
  have HXX := Lib.hid (H2.out.up (U3.out.trans u4))
  have HYY := Lib.hid h4
  have U04 := Lib.hid (U0.out.trans (U1.out.trans (U2.out.trans (U3.out.trans u4))))
  obtain ⟨b, hb⟩ := bool_of (ox = oy)
  have HB := Lib.hid hb
  clear h4 u4 kd1 kd2 kc kd hb
  have u5 := Up.refl w4
  go_wp2_with (first
      | (go_at_call 17; refine (uSame ox oy HXX.out HYY.out (by have := HSX.out; omega) b HB.out (by assumption)).mono ?_; rintro e w5 ⟨rfl, u5⟩)
      | (go_at_call 12; refine (rSame ox oy HXX.out HYY.out (by have := HSX.out; omega) b HB.out (by assumption)).mono ?_; rintro e w5 ⟨rfl, u5⟩)
      | (go_at_call 18; refine (uSize ox HXX.out (by have := HSX.out; omega) (by assumption)).mono ?_; rintro e w5 ⟨rfl, u5⟩)
      | (go_at_call 19; refine (rSize ox HXX.out (by have := HSX.out; omega) (by assumption)).mono ?_; rintro e w5 ⟨rfl, u5⟩)
      | (go_at_call 20; refine (uDeep ox HXX.out (by have := HSX.out; omega) (by assumption)).mono ?_; rintro e w5 ⟨rfl, u5⟩)
      | (go_at_call 21; refine (rDeep ox HXX.out (by have := HSX.out; omega) (by assumption)).mono ?_; rintro e w5 ⟨rfl, u5⟩))
  rcases HX2.out with ⟨t, rfl, rfl, hta, -⟩ | ⟨rfl, hz⟩
  · have hnl : ¬ 9223372036854775807 < t.1.a.size + 1 := by omega
    refine (uCopy (some t) HXX.out (by have := HSX.out; omega) (by assumption)).mono ?_
    rintro e w6 ⟨c, rfl, hc, u6⟩
    have hcc : HasT w6 c (some t) := HasT.of hc fun q hq => hq.2
    obtain ⟨q, p, A, n, rfl, hq, c0, c1, c2, -⟩ := InT.open hc
    have hp : Pln w6 q := InT.pln hc
    obtain ⟨q', p', A', n', rfl, hq', d0, d1, d2, -⟩ := InT.open (HXX.out.up u6)
    have hp' : Pln w6 q' := InT.pln (HXX.out.up u6)
    have hqx : q' < w4.heap.size := by
      obtain ⟨q2, p2, A2, n2, he, hl, -⟩ := InT.open HXX.out
      injection he with he
      injection he with he
      injection he with he
      rw [he]
      exact hl
    have HQ := Lib.hid hq
    have HQX := Lib.hid hqx
    have HX6 := Lib.hid (HXX.out.up u6)
    have HC6 := Lib.hid hcc
    have U6 := Lib.hid u6
    have T6 : Hid (Top w6 q p t.1.k t.1.n t.1.a) := Lib.hid ⟨hp, c0, c1, c2⟩
    have T6' : Hid (Top w6 q' p' t.1.k t.1.n t.1.a) := Lib.hid ⟨hp', d0, d1, d2⟩
    clear u6 hc hcc hq hq' c0 c1 c2 d0 d1 d2 hp hp' hqx
    have nn := fun w a => ptr_neq w a
    go_wp2_with fail
    refine (rSame (some t) (some t) HC6.out HX6.out (by have := HSX.out; omega) true (by simp) (Up.refl _)).mono ?_
    rintro e w7 ⟨rfl, u7⟩
    have T7 := T6.out.up u7
    have T7' := T6'.out.up u7
    have hfz : w7.frozen? ⟨q, p + 2, none⟩ = false := T7.frozen
    have hnc : w7.cell? ⟨q, p + 2, none⟩ = some (.string t.1.a) := T7.2.2.2
    have HT7 := Lib.hid T7
    have HT7' := Lib.hid T7'
    have U7 := Lib.hid u7
    clear u7 T7 T7'
    go_wp2_with fail
    have T8 : Top (w7.setCell ⟨q, p + 2, none⟩ (.string (t.1.a ++ ⟨#[120]⟩))) q p t.1.k t.1.n (t.1.a ++ ⟨#[120]⟩) := HT7.out.store _
    have T8' : Top (w7.setCell ⟨q, p + 2, none⟩ (.string (t.1.a ++ ⟨#[120]⟩))) q' p' t.1.k t.1.n t.1.a := HT7'.out.far (by have h1 := HQ.out; have h2 := HQX.out; omega) _
    have U8 : Hid (Up w4 (w7.setCell ⟨q, p + 2, none⟩ (.string (t.1.a ++ ⟨#[120]⟩)))) := Lib.hid (Below.setCell (U6.out.trans U7.out) HQ.out.1 _)
    generalize w7.setCell ⟨q, p + 2, none⟩ (.string (t.1.a ++ ⟨#[120]⟩)) = w8 at T8 T8' U8
    refine (ref_unlike T8 T8' (add_ne _)).mono ?_
    rintro e w9 ⟨rfl, qq, rfl⟩
    have T9 := T8.up ((Up.refl w8).drewN qq)
    have T9' := T8'.up ((Up.refl w8).drewN qq)
    go_wp2_with fail
    refine (same_unlike T9 T9' (add_ne _)).mono ?_
    rintro e w10 ⟨rfl, u10⟩
    go_wp2_with fail
    refine (uWorks (Up.refl _)).mono ?_
    rintro e w11 ⟨rfl, u11⟩
    go_wp2_with fail
    go_ret
    exact ⟨rfl, ((U04.out.trans U8.out).drewN qq).trans (Up.trans u10 u11)⟩
  · refine (uCopy none HXX.out (by decide) (by assumption)).mono ?_
    rintro e w6 ⟨c, rfl, hc, u6⟩
    obtain rfl : c = .pointer none := hc
    obtain rfl : x = .pointer none := HXX.out
    have hz1 : (zx == 0) = false := by rw [beq_eq_false_iff_ne]; exact hz
    have U6 := Lib.hid u6
    clear hz
    go_wp2_with fail
    refine (rSame none none (HXX.out.up U6.out) (HXX.out.up U6.out) (by decide) true (by simp) (Up.refl _)).mono ?_
    rintro e w7 ⟨rfl, u7⟩
    go_wp2_with fail
    refine (uWorks (Up.refl _)).mono ?_
    rintro e w11 ⟨rfl, u11⟩
    go_wp2_with fail
    go_ret
    exact ⟨rfl, (U04.out.trans U6.out).trans (u7.trans u11)⟩
end Go.Proofs.Ytmjdeadkekhpdaa
