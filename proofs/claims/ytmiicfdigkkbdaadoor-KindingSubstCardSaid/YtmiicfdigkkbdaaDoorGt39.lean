/-
  Layer 12, the program's side: the walk of strays at a variable.
-/
import Derived.Test.YtmiicfdigkkbdaaDoorGt38
namespace Go.Proofs.YtmiicfdigkkbdaaDoor
open Go.RowKit

set_option maxHeartbeats 12800000 in
set_option maxRecDepth 100000 in
theorem wkV {n : Nat} (ih : WkAt n) : WkIf (n + 1) (fun k => k = 110) := by
  rintro ⟨x, ks⟩ hkk hn hvok w Sq v mb fb ab wb B0 B va R es m h4 hB hS hin hst hky hstr hRn
  have hkk := hkk
  have hin0 := hin
  obtain ⟨q, p, A, c, rfl, hq1, c0, c1, c2, c3, c4, hc, hkid⟩ := hin.open
  have hqB := hS q hq1
  have hsz : szT (x, ks) = 1 + ks.sz := rfl
  have hll := Fr.len_le ks
  obtain ⟨N, hN⟩ : ∃ N, ks.len = N := ⟨_, rfl⟩
  rw [hN] at c4 hll
  have hN1 : N ≤ 1000000 := by omega
  obtain ⟨RN, hRN⟩ : ∃ RN, R.length = RN := ⟨_, rfl⟩
  have hst' := hst
  obtain ⟨⟨ck, gm⟩, gf, ga, gw, hr⟩ := hst'
  rw [hRN] at hr
  obtain ⟨RA, rc, rfl⟩ := own_slice hr
  have cf : w.cell? ⟨fb, 0, none⟩ = some (.map (some mb)) := cell_of_row w fb 0 _ _ _ gf
  have ca : w.cell? ⟨ab, 0, none⟩ = some (.slice RA RN rc) := cell_of_row w ab 0 _ _ _ ga
  have fa := frozen_of_row w ab 0 _ _ ga
  have haw := heap_lt ga
  have hqw : q < w.heap.size := by have := h4.1.1; have := h4.2.1.1; omega
  have hRNb : RN ≤ 1000000 := by omega
  obtain ⟨K, hK⟩ : ∃ K, x.k = K := ⟨_, rfl⟩
  obtain ⟨XN, hXN⟩ : ∃ XN, x.n = XN := ⟨_, rfl⟩
  rw [hK] at c0
  rw [hXN] at c1
  have k1 : K = 110 := by rw [← hK]; exact hkk
  clear hkk
  have HST := Lib.hid hst
  have HKY := Lib.hid hky
  have HSTR := Lib.hid hstr
  have HIH := Lib.hid ih
  have HS := Lib.hid hS
  have HIN := Lib.hid hin0
  have HKID := Lib.hid hkid
  have HNN := Lib.hid hN
  have HRN := Lib.hid hRN
  have HSZ := Lib.hid hsz
  have HN0 := Lib.hid hn
  have H4 := Lib.hid h4
  have HR := Lib.hid hr
  have HV := Lib.hid hvok
  have HRB := Lib.hid hRn
  have HK := Lib.hid hK
  have HXN := Lib.hid hXN
  have HGM := Lib.hid gm
  obtain ⟨i0, hi, hz0, hz1, hz2⟩ := info_parts infoPtr
  clear hin hin0 hkid hst ih hS hky hstr hN hsz hn h4 hr hvok hRn hK hXN gm gf ga gw hc hRN
  go_enter Tryd.func39, Tryd.ntmps39
  go_upto_block 0 with (fail)
  go_cut [1] (fun mv wx => ∃ (m2 : Bool) (va2 : Value) (R2 : List Value) (es2 : Array MapEntry), mv = .bool m2 ∧ KsSt wx mb fb ab wb B va2 R2 es2 ∧ Kys wx Sq es2 ∧ Below B0 w wx ∧ Rdy w Sq R m x ks (.pointer (some ⟨q, p, none⟩)) es R2 m2 es2)
  case first =>
    subst k1
    obtain ⟨hx0, hx1, -, hks⟩ := HV.out.1.2 HK.out
    rw [HXN.out] at hx0 hx1
    have HKS : Hid (ks = .nil) := Lib.hid hks
    have w1 := wrap_sub1 RN (by omega)
    have w2 := wrap_sub2 RN XN (by omega) hx0 (by omega)
    have HX0 := Lib.hid hx0
    have HX1 := Lib.hid hx1
    clear hks
    by_cases hlt : XN < (RN : Int)
    · by_cases hm : m = true ∧ XN = 0
      · have hr : Rdy w Sq R m x ks (.pointer (some ⟨q, p, none⟩)) es R m es := by
          rw [HKS.out]
          refine rdyD HK.out (fun _ h => h) fun i a _ ho => ?_
          unfold ocN at ho
          rw [decide_eq_true_iff, HXN.out] at ho
          exact absurd ⟨hm.1, by omega⟩ ho.2.2
        have HRD := Lib.hid hr
        obtain ⟨rfl, rfl⟩ := hm
        have hz : 0 ≤ (RN : Int) - 1 := by omega
        clear hr hlt hx0 hx1
        go_wp2_with fail
        go_meet
        exact ⟨true, _, R, es, rfl, HST.out, HKY.out, Below.refl _ _, HRD.out⟩
      · obtain ⟨J, hJ⟩ : ∃ J : Nat, (RN : Int) - 1 - XN = (J : Int) := ⟨((RN : Int) - 1 - XN).toNat, by omega⟩
        have hJR : J < RN := by omega
        obtain ⟨a, ha⟩ : ∃ a, R[J]? = some a := ⟨_, List.getElem?_eq_getElem (by rw [HRN.out]; exact hJR)⟩
        have hat : AtR R XN.toNat a := ⟨by rw [HRN.out]; omega, by rw [HRN.out, show RN - 1 - XN.toNat = J by omega]; exact ha⟩
        have hoc : ocN XN.toNat m x = true := by
          unfold ocN
          rw [decide_eq_true_iff]
          refine ⟨HK.out, by rw [HXN.out]; omega, fun h => hm ⟨h.1, by omega⟩⟩
        have hstra := HSTR.out XN.toNat a hat (by unfold ocT; rw [hoc]; rfl)
        obtain ⟨ax, aks, hain, haoc⟩ := id hstra
        obtain ⟨aq, ap, rfl⟩ := hain.ptr
        have hpln := hain.pln
        have hRA : ∃ g, RA = some ⟨g, 0, none⟩ ∧ w.cell? ⟨g, J, none⟩ = some (.pointer (some ⟨aq, ap, none⟩)) := by
          obtain ⟨g, cap, hv, _, _⟩ := HR.out.form (by omega)
          injection hv with hv _ _
          refine ⟨g, hv, ?_⟩
          have h1 := HR.out.cells (g := g) (by rw [hv]; rfl) J _ ha
          have e1 : (⟨g, 0, none⟩ : Addr).add J = ⟨g, 0 + J, none⟩ := by unfold Addr.add; split <;> simp_all
          rw [e1, Nat.zero_add] at h1
          exact h1
        obtain ⟨g, rfl, hgc⟩ := hRA
        obtain ⟨es', ck', hup, hu⟩ := upd_st (w := w.drew) (a := ⟨aq, ap, none⟩) (.agg #[]) HGM.out hpln HKY.out.keys
        have hum := hu.mem
        have hr : Rdy w Sq R m x ks (.pointer (some ⟨q, p, none⟩)) es R m es' := by
          rw [HKS.out]
          refine rdyD HK.out hum.2.1 fun i b hb ho => ?_
          unfold ocN at ho
          rw [decide_eq_true_iff, HXN.out] at ho
          have hi : i = XN.toNat := by omega
          subst hi
          have h1 := hb.2
          have h2 := hat.2
          rw [h2] at h1
          injection h1 with h1
          rw [← h1]
          exact hum.2.2
        obtain ⟨hst5, hb5⟩ := KsSt.put (es' := es') (ck' := ck') HST.out.drew H4.out
        have hb6 : Below B0 w { w.drew with heap := w.drew.heap.setIfInBounds mb (.map es' ck') } := (Below.refl B0 w).drew.trans hb5
        have hk6 := fun b (hb : Sq b) => hb6.block b (HS.out b hb)
        have hky6 : Kys { w.drew with heap := w.drew.heap.setIfInBounds mb (.map es' ck') } Sq es' := fun e he => by
          rcases hum.1 e he with ⟨h1, h2⟩ | h1
          · exact ⟨h2, by rw [h1]; exact hstra.keep hk6⟩
          · exact (HKY.out.keep hk6) e h1
        have HFIN := Lib.hid (⟨hst5, hky6, hb6, hr⟩ : KsSt _ mb fb ab wb B _ R es' ∧ Kys _ Sq es' ∧ Below B0 w _ ∧ Rdy w Sq R m x ks (.pointer (some ⟨q, p, none⟩)) es R m es')
        replace w2 : wrap64 ((RN : Int) - 1 - XN) = (J : Int) := w2.trans hJ
        have hJc : J < rc ∨ True := .inr trivial
        have hc : (m = false) ∨ (m = true ∧ (XN == 0) = false) := by
          cases m with
          | false => exact .inl rfl
          | true => exact .inr ⟨rfl, by rw [beq_eq_false_iff_ne]; exact fun h => hm ⟨rfl, h⟩⟩
        have hjz : (0 : Int) ≤ (J : Int) := by omega
        have hjl : (J : Int) < (RN : Int) := by omega
        clear hlt hm hJ ha hat hoc hstra hain haoc hpln hu hum hr hst5 hb5 hb6 hk6 hky6 hx0 hx1 hJc
        rcases hc with rfl | ⟨rfl, hx2⟩
        all_goals
          go_wp2_with fail
          go_region
          go_wp2_with fail
          go_meet
          exact ⟨_, _, R, es', rfl, HFIN.out.1, HFIN.out.2.1, HFIN.out.2.2.1, HFIN.out.2.2.2⟩
    · have hr : Rdy w Sq R m x ks (.pointer (some ⟨q, p, none⟩)) es R m es := by
        rw [HKS.out]
        refine rdyD HK.out (fun _ h => h) fun i a hia ho => ?_
        unfold ocN at ho
        rw [decide_eq_true_iff, HXN.out] at ho
        have := hia.1
        rw [HRN.out] at this
        omega
      have HRD := Lib.hid hr
      obtain ⟨Z, hZ⟩ : ∃ Z, (RN : Int) - 1 - XN = Z := ⟨_, rfl⟩
      have hz : ¬ 0 ≤ Z := by omega
      replace w2 : wrap64 ((RN : Int) - 1 - XN) = Z := w2.trans hZ
      clear hr hlt hZ hx0 hx1
      go_wp2_with fail
      go_meet
      exact ⟨m, _, R, es, rfl, HST.out, HKY.out, Below.refl _ _, HRD.out⟩
  case rest =>
    obtain ⟨m2, va2, R2, es2, rfl, hst2, hky2, hb2, hrd⟩ := hcut
    obtain ⟨T, hT, hTl⟩ := hrd.row
    have c4w := (hb2.cell (p := ⟨q, p + 4, none⟩) hqB).trans c4
    have hwc := hb2.size
    have hR2N : R2.length ≤ RN + 1 := by rw [hT, List.length_append, HRN.out]; omega
    have HRB3 : Hid (R2.length + ks.sz ≤ 1000000) := Lib.hid (by have h1 := HRB.out; have h2 := HSZ.out; rw [HRN.out] at h1; omega)
    have HT := Lib.hid hT
    have HRD := Lib.hid hrd
    have HST2 := Lib.hid hst2
    have HKY2 := Lib.hid hky2
    have HB2 := Lib.hid hb2
    have HWC := Lib.hid hwc
    have HINI : Hid (Kid wc Sq A ks 0) := Lib.hid (HKID.out.keep (fun _ h => h) fun b hb => HB2.out.block b (HS.out b hb))
    clear hst2 hky2 hb2 hrd hT hTl c0 c1 c2 c3 c4 cf ca fa haw hwc hR2N
    go_wp2_with fail
    go_loopw [10, 62] (fun _ i wr => ∃ (j : Nat) (done rest : Fr) (va3 : Value) (es3 : Array MapEntry), i = .int .i64 j ∧ j = done.len ∧ ks = done.app rest ∧ Kid wr Sq A rest j ∧ KsSt wr mb fb ab wb B va3 R2 es3 ∧ Kys wr Sq es3 ∧ (∀ u, InK es2 u → InK es3 u) ∧ (∀ i a, AtR R2 i a → ocF i m2 done = true → InK es3 a) ∧ (∀ kb ko, A = some ⟨kb, ko, none⟩ → CovF w (InK es3) done kb ko) ∧ Below B0 w wr) (fun _ i _ => N - (intOf i).toNat)
    case atStart => exact ⟨0, .nil, ks, va2, es2, rfl, rfl, rfl, HINI.out, HST2.out, HKY2.out, fun _ h => h, (fun _ _ _ h => nomatch h), fun _ _ _ => trivial, HB2.out⟩
    case round =>
      obtain ⟨j, done, rest, va3, es3, rfl, hj, hks, hkid, hst3, hky3, hmo3, hat3, hcv3, hbw⟩ := hrel
      have hl : N = done.len + rest.len := by rw [← HNN.out, hks, Fr.len_app]
      have hss : ks.sz = done.sz + rest.sz := by rw [hks, Fr.sz_app]
      have hrb := HRB3.out
      have hsz := HSZ.out
      have hn := HN0.out
      have hwr := hbw.size
      have HKS := Lib.hid hks
      have HST3 := Lib.hid hst3
      have HKY3 := Lib.hid hky3
      have HMO3 := Lib.hid hmo3
      have HAT3 := Lib.hid hat3
      have HCV3 := Lib.hid hcv3
      have HBW := Lib.hid hbw
      obtain ⟨-, -, ga, gw, hr3⟩ := hst3
      have cw3 : wr.cell? ⟨wb, 0, none⟩ = some (.func (.func 39) #[] #[.pointer (some ⟨ab, 0, none⟩), .pointer (some ⟨fb, 0, none⟩), .pointer (some ⟨wb, 0, none⟩)]) := cell_of_row wr wb 0 _ _ _ gw
      have hwbr := heap_lt gw
      by_cases hlt : 0 < rest.len
      · obtain ⟨y, l, r, rfl⟩ := Fr.cut hlt
        obtain ⟨kb2, ko, u, rfl, hkb, hcell, hu, hnext⟩ := hkid.next
        have hyl : szT (y, l) = 1 + l.sz := rfl
        have hsr : (Fr.cons y l r).sz = 1 + l.sz + r.sz := rfl
        have hlr2 : (Fr.cons y l r).len = r.len + 1 := rfl
        have hjN : j < N := by omega
        have hjz : (j : Int) < (N : Int) := by omega
        have hkbr : kb2 < wr.heap.size := by have := HS.out kb2 hkb; have := H4.out.1.1; have := H4.out.2.1.1; omega
        obtain ⟨q1, o1, rfl⟩ := hu.ptr
        have hBr : B ≤ wr.heap.size := by omega
        have hvk : tvok (y, l) := by
          have h1 := HV.out.2
          rw [HKS.out] at h1
          have h2 : ∀ (a : Fr), (a.app (.cons y l r)).vok → tvok (y, l) := by
            intro a
            induction a with
            | nil => exact fun h => ⟨h.1, h.2.1⟩
            | cons z zk s _ ih => exact fun h => ih h.2.2
          exact h2 _ h1
        have hback : ∀ b, Sq b → w.heap[b]? = wr.heap[b]? := fun b hb => (HBW.out.block b (HS.out b hb)).symm
        have hstr4 : ∀ i a, AtR R2 i a → ocT i m2 (y, l) = true → Str wr Sq a := fun i a ha ho => (HRD.out.str i a ha (by rw [HKS.out, ocF_app, ocF_c, ho]; simp)).keep fun b hb => (hback b hb).symm
        have cI := HIH.out (y, l) (by omega) hvk wr Sq (.pointer (some ⟨q1, o1, none⟩)) mb fb ab wb B0 B va3 R2 es3 m2 H4.out hBr HS.out hu HST3.out HKY3.out hstr4 (by omega)
        have hcw : w.cell? ⟨kb2, ko + j, none⟩ = some (.pointer (some ⟨q1, o1, none⟩)) := (World.cell?_of_block (w := wr) (w' := w) (a := ⟨kb2, ko + j, none⟩) (hback kb2 hkb)).trans hcell
        have HCW := Lib.hid hcw
        have HU := Lib.hid hu
        have HN := Lib.hid hnext
        have HLEN : Hid (j + 1 = (done.app (.cons y l .nil)).len) := Lib.hid (by rw [Fr.len_app]; simp only [Fr.len]; omega)
        have HJ := Lib.hid hj
        clear hkid hks hj hl hss hrb hsz hn hu hnext hsr hlr2 hyl ga gw hr3 hbw hky3 hmo3 hat3 hcv3 hvk hstr4 hcw hback
        go_wp2_with fail
        refine cI.mono ?_
        rintro e w6 ⟨rfl, va6, es6, hst6, hky6, hmo6, hat6, hcv6, hb6⟩
        have HST6 := Lib.hid hst6
        have HKY6 := Lib.hid hky6
        have HMO6 := Lib.hid hmo6
        have HAT6 := Lib.hid hat6
        have HB6 := Lib.hid hb6
        have HCV6 := Lib.hid hcv6
        clear cI hst6 hky6 hmo6 hat6 hb6 hcv6
        go_wp2_with fail
        go_roundw
        case rel =>
          have hball := HBW.out.trans HB6.out
          have hk6 : ∀ b, Sq b → w6.heap[b]? = wr.heap[b]? := fun b hb => HB6.out.block b (HS.out b hb)
          have hbk : ∀ b, Sq b → w.heap[b]? = w6.heap[b]? := fun b hb => (hball.block b (HS.out b hb)).symm
          refine ⟨j + 1, done.app (.cons y l .nil), r, va6, es6, by go_num, HLEN.out, by rw [HKS.out, Fr.app_cons], HN.out.keep (fun _ h => h) hk6, HST6.out, HKY6.out, fun v h => HMO6.out v (HMO3.out v h), fun i a ha ho => ?_, fun kb ko' hA => ?_, hball⟩
          · rw [ocF_app, ocF_c, Bool.or_eq_true, Bool.or_eq_true] at ho
            rcases ho with ho | ho | ho
            · exact HMO6.out a (HAT3.out i a ha ho)
            · exact HAT6.out i a ha ho
            · cases ho
          · injection hA with hA
            injection hA with e1 e2
            subst e1 e2
            have h1 := (HCV3.out kb2 ko rfl).more HMO6.out
            have h2 : CovT w (InK es6) (.pointer (some ⟨q1, o1, none⟩)) (y, l) := HCV6.out.keep (HU.out.keep (fun _ h => h) hk6) hbk
            refine CovF.app h1 ⟨⟨_, by rw [← HJ.out]; exact HCW.out, h2.1, h2.2⟩, trivial⟩
        case measure => simp [intOf]; omega
      · have h0 : rest = .nil := by
          cases rest with
          | nil => rfl
          | cons y l r => exact absurd (Nat.succ_pos _) hlt
        subst h0
        have hjz : ¬ (j : Int) < (N : Int) := by have : (Fr.nil).len = 0 := rfl; omega
        have hfin : ks = done := by rw [hks, Fr.app_nil]
        subst hfin
        have hT := HT.out
        have hst7 := HST3.out
        rw [hT] at hst7 hr3
        obtain ⟨L2, hL2⟩ : ∃ L2, (R ++ T).length = L2 := ⟨_, rfl⟩
        have hL2N : RN ≤ L2 := by rw [← hL2, List.length_append, HRN.out]; omega
        have hL2b : L2 ≤ 1000000 := by rw [← hL2, ← hT]; omega
        rw [hL2] at hr3
        obtain ⟨A3, cap3, rfl⟩ := own_slice hr3
        have hcap3 : L2 ≤ cap3 := by
          rcases hr3.2 with ⟨h1, h2⟩ | ⟨g', cap', cur, h1, _, _, h2, _⟩
          · injection h1 with _ h1 h3; omega
          · injection h1 with _ _ h1; rw [h1]; exact h2
        have hA3 : (A3 = none ∧ L2 = 0 ∧ cap3 = 0) ∨ ∃ g, A3 = some ⟨g, 0, none⟩ := by
          rcases hr3.2 with ⟨h1, h2⟩ | ⟨g', cap', cur, h1, _⟩
          · injection h1 with h0 h1 h3; exact .inl ⟨h0, h1, h3⟩
          · injection h1 with h1 _ _; exact .inr ⟨g', h1⟩
        have ca3 : wr.cell? ⟨ab, 0, none⟩ = some (.slice A3 L2 cap3) := cell_of_row wr ab 0 _ _ _ ga
        have fa3 := frozen_of_row wr ab 0 _ _ ga
        have hpop := KsSt.pop (T := T) hst7 H4.out
        rw [HRN.out] at hpop
        have HPOP := Lib.hid hpop
        clear hkid hks hj hl hss hrb hsz hn ga gw hbw hky3 hmo3 hat3 hcv3 hst7 hpop hr3 hT hL2
        have hend : ∀ (wz : World), wz = wr.setCell ⟨ab, 0, none⟩ (.slice A3 RN cap3) → WkP mb fb ab wb B0 B Sq R es m (.pointer (some ⟨q, p, none⟩)) (x, ks) w (.returned (.tuple #[])) wz := by
          rintro wz rfl
          obtain ⟨hst9, hb9⟩ := HPOP.out
          have hball := HBW.out.trans hb9
          have hf := HRD.out.fin es3 HMO3.out HAT3.out
          refine ⟨rfl, _, es3, hst9, HKY3.out.keep fun b hb => hb9.block b (HS.out b hb), fun v h => HMO3.out v (HRD.out.more v h), hf.1, ?_, hball⟩
          refine CovT.keep (w := w) ?_ HIN.out fun b hb => hball.block b (HS.out b hb)
          obtain ⟨q9, p9, A9, c9, h91, _, _, _, _, _, _, h94, _⟩ := HIN.out
          injection h91 with h91
          injection h91 with h91
          injection h91 with h92 h93
          subst h92 h93
          refine ⟨hf.2, q, p, A, c, rfl, ?_, fun kb ko hA => HCV3.out kb ko hA⟩
          have h5 := (World.cell?_of_block (w := w) (w' := wc) (a := ⟨q, p + 4, none⟩) (HB2.out.block q hqB)).symm.trans c4w
          rw [show ((x, ks) : Tr).2.len = N from HNN.out]
          exact h5
        have HEND := Lib.hid hend
        clear hend
        rcases hA3 with ⟨rfl, rfl, rfl⟩ | ⟨g3, rfl⟩
        · obtain rfl : RN = 0 := by omega
          go_wp2_with fail
          go_end0
          exact HEND.out _ rfl
        · go_wp2_with fail
          go_end0
          exact HEND.out _ rfl
end Go.Proofs.YtmiicfdigkkbdaaDoor
namespace Go.Proofs.YtmiicfdigkkbdaaDoor
open Go.RowKit

set_option maxHeartbeats 12800000 in
set_option maxRecDepth 100000 in
theorem wkO {n : Nat} (ih : WkAt n) : WkIf (n + 1) (fun k => k ≠ 110 ∧ ¬ (k = 121 ∨ k = 117 ∨ k = 118 ∨ k = 119)) := by
  rintro ⟨x, ks⟩ hkk hn hvok w Sq v mb fb ab wb B0 B va R es m h4 hB hS hin hst hky hstr hRn
  have hkk := hkk
  have hin0 := hin
  obtain ⟨q, p, A, c, rfl, hq1, c0, c1, c2, c3, c4, hc, hkid⟩ := hin.open
  have hqB := hS q hq1
  have hsz : szT (x, ks) = 1 + ks.sz := rfl
  have hll := Fr.len_le ks
  obtain ⟨N, hN⟩ : ∃ N, ks.len = N := ⟨_, rfl⟩
  rw [hN] at c4 hll
  have hN1 : N ≤ 1000000 := by omega
  obtain ⟨RN, hRN⟩ : ∃ RN, R.length = RN := ⟨_, rfl⟩
  have hst' := hst
  obtain ⟨⟨ck, gm⟩, gf, ga, gw, hr⟩ := hst'
  rw [hRN] at hr
  obtain ⟨RA, rc, rfl⟩ := own_slice hr
  have cf : w.cell? ⟨fb, 0, none⟩ = some (.map (some mb)) := cell_of_row w fb 0 _ _ _ gf
  have ca : w.cell? ⟨ab, 0, none⟩ = some (.slice RA RN rc) := cell_of_row w ab 0 _ _ _ ga
  have fa := frozen_of_row w ab 0 _ _ ga
  have haw := heap_lt ga
  have hqw : q < w.heap.size := by have := h4.1.1; have := h4.2.1.1; omega
  have hRNb : RN ≤ 1000000 := by omega
  obtain ⟨K, hK⟩ : ∃ K, x.k = K := ⟨_, rfl⟩
  obtain ⟨XN, hXN⟩ : ∃ XN, x.n = XN := ⟨_, rfl⟩
  rw [hK] at c0
  rw [hXN] at c1
  have k1 : ¬ K = 110 := by rw [← hK]; exact hkk.1
  have k2 : ¬ (K = 121 ∨ K = 117 ∨ K = 118 ∨ K = 119) := by rw [← hK]; exact hkk.2
  clear hkk
  have HST := Lib.hid hst
  have HKY := Lib.hid hky
  have HSTR := Lib.hid hstr
  have HIH := Lib.hid ih
  have HS := Lib.hid hS
  have HIN := Lib.hid hin0
  have HKID := Lib.hid hkid
  have HNN := Lib.hid hN
  have HRN := Lib.hid hRN
  have HSZ := Lib.hid hsz
  have HN0 := Lib.hid hn
  have H4 := Lib.hid h4
  have HR := Lib.hid hr
  have HV := Lib.hid hvok
  have HRB := Lib.hid hRn
  have HK := Lib.hid hK
  have HXN := Lib.hid hXN
  have HGM := Lib.hid gm
  obtain ⟨i0, hi, hz0, hz1, hz2⟩ := info_parts infoPtr
  clear hin hin0 hkid hst ih hS hky hstr hN hsz hn h4 hr hvok hRn hK hXN gm gf ga gw hc hRN
  go_enter Tryd.func39, Tryd.ntmps39
  go_upto_block 0 with (fail)
  go_cut [1] (fun mv wx => ∃ (m2 : Bool) (va2 : Value) (R2 : List Value) (es2 : Array MapEntry), mv = .bool m2 ∧ KsSt wx mb fb ab wb B va2 R2 es2 ∧ Kys wx Sq es2 ∧ Below B0 w wx ∧ Rdy w Sq R m x ks (.pointer (some ⟨q, p, none⟩)) es R2 m2 es2)
  case first =>
    by_cases k3 : K = 114 ∨ K = 120
    · have hr := rdyB (v := .pointer (some ⟨q, p, none⟩)) (es := es) (by rw [HK.out]; unfold innK; rw [if_neg (by omega)]) (by rw [HK.out]; exact k1) HSTR.out
      rw [show mayK m x.k = false by rw [HK.out]; unfold mayK innK; rw [if_neg (by rw [if_neg (by omega)]; decide), if_pos k3]] at hr
      have HRD := Lib.hid hr
      clear hr
      rcases k3 with rfl | rfl
      all_goals
        clear k1 k2
        go_wp2_with fail
        go_meet
        exact ⟨false, _, R, es, rfl, HST.out, HKY.out, Below.refl _ _, HRD.out⟩
    · have hr := rdyB (v := .pointer (some ⟨q, p, none⟩)) (es := es) (by rw [HK.out]; unfold innK; rw [if_neg (by omega)]) (by rw [HK.out]; exact k1) HSTR.out
      rw [show mayK m x.k = m by rw [HK.out]; unfold mayK innK; rw [if_neg (by rw [if_neg (by omega)]; decide), if_neg k3]] at hr
      have HRD := Lib.hid hr
      have e1 : (K == 110) = false := by rw [beq_eq_false_iff_ne]; exact k1
      have e2 : (K == 121) = false := by rw [beq_eq_false_iff_ne]; omega
      have e3 : (K == 117) = false := by rw [beq_eq_false_iff_ne]; omega
      have e4 : (K == 118) = false := by rw [beq_eq_false_iff_ne]; omega
      have e5 : (K == 119) = false := by rw [beq_eq_false_iff_ne]; omega
      have e6 : (K == 114) = false := by rw [beq_eq_false_iff_ne]; omega
      have e7 : (K == 120) = false := by rw [beq_eq_false_iff_ne]; omega
      clear hr k1 k2 k3
      go_wp2_with fail
      go_meet
      exact ⟨m, _, R, es, rfl, HST.out, HKY.out, Below.refl _ _, HRD.out⟩
  case rest =>
    obtain ⟨m2, va2, R2, es2, rfl, hst2, hky2, hb2, hrd⟩ := hcut
    obtain ⟨T, hT, hTl⟩ := hrd.row
    have c4w := (hb2.cell (p := ⟨q, p + 4, none⟩) hqB).trans c4
    have hwc := hb2.size
    have hR2N : R2.length ≤ RN + 1 := by rw [hT, List.length_append, HRN.out]; omega
    have HRB3 : Hid (R2.length + ks.sz ≤ 1000000) := Lib.hid (by have h1 := HRB.out; have h2 := HSZ.out; rw [HRN.out] at h1; omega)
    have HT := Lib.hid hT
    have HRD := Lib.hid hrd
    have HST2 := Lib.hid hst2
    have HKY2 := Lib.hid hky2
    have HB2 := Lib.hid hb2
    have HWC := Lib.hid hwc
    have HINI : Hid (Kid wc Sq A ks 0) := Lib.hid (HKID.out.keep (fun _ h => h) fun b hb => HB2.out.block b (HS.out b hb))
    clear hst2 hky2 hb2 hrd hT hTl c0 c1 c2 c3 c4 cf ca fa haw hwc hR2N
    go_wp2_with fail
    go_loopw [10, 62] (fun _ i wr => ∃ (j : Nat) (done rest : Fr) (va3 : Value) (es3 : Array MapEntry), i = .int .i64 j ∧ j = done.len ∧ ks = done.app rest ∧ Kid wr Sq A rest j ∧ KsSt wr mb fb ab wb B va3 R2 es3 ∧ Kys wr Sq es3 ∧ (∀ u, InK es2 u → InK es3 u) ∧ (∀ i a, AtR R2 i a → ocF i m2 done = true → InK es3 a) ∧ (∀ kb ko, A = some ⟨kb, ko, none⟩ → CovF w (InK es3) done kb ko) ∧ Below B0 w wr) (fun _ i _ => N - (intOf i).toNat)
    case atStart => exact ⟨0, .nil, ks, va2, es2, rfl, rfl, rfl, HINI.out, HST2.out, HKY2.out, fun _ h => h, (fun _ _ _ h => nomatch h), fun _ _ _ => trivial, HB2.out⟩
    case round =>
      obtain ⟨j, done, rest, va3, es3, rfl, hj, hks, hkid, hst3, hky3, hmo3, hat3, hcv3, hbw⟩ := hrel
      have hl : N = done.len + rest.len := by rw [← HNN.out, hks, Fr.len_app]
      have hss : ks.sz = done.sz + rest.sz := by rw [hks, Fr.sz_app]
      have hrb := HRB3.out
      have hsz := HSZ.out
      have hn := HN0.out
      have hwr := hbw.size
      have HKS := Lib.hid hks
      have HST3 := Lib.hid hst3
      have HKY3 := Lib.hid hky3
      have HMO3 := Lib.hid hmo3
      have HAT3 := Lib.hid hat3
      have HCV3 := Lib.hid hcv3
      have HBW := Lib.hid hbw
      obtain ⟨-, -, ga, gw, hr3⟩ := hst3
      have cw3 : wr.cell? ⟨wb, 0, none⟩ = some (.func (.func 39) #[] #[.pointer (some ⟨ab, 0, none⟩), .pointer (some ⟨fb, 0, none⟩), .pointer (some ⟨wb, 0, none⟩)]) := cell_of_row wr wb 0 _ _ _ gw
      have hwbr := heap_lt gw
      by_cases hlt : 0 < rest.len
      · obtain ⟨y, l, r, rfl⟩ := Fr.cut hlt
        obtain ⟨kb2, ko, u, rfl, hkb, hcell, hu, hnext⟩ := hkid.next
        have hyl : szT (y, l) = 1 + l.sz := rfl
        have hsr : (Fr.cons y l r).sz = 1 + l.sz + r.sz := rfl
        have hlr2 : (Fr.cons y l r).len = r.len + 1 := rfl
        have hjN : j < N := by omega
        have hjz : (j : Int) < (N : Int) := by omega
        have hkbr : kb2 < wr.heap.size := by have := HS.out kb2 hkb; have := H4.out.1.1; have := H4.out.2.1.1; omega
        obtain ⟨q1, o1, rfl⟩ := hu.ptr
        have hBr : B ≤ wr.heap.size := by omega
        have hvk : tvok (y, l) := by
          have h1 := HV.out.2
          rw [HKS.out] at h1
          have h2 : ∀ (a : Fr), (a.app (.cons y l r)).vok → tvok (y, l) := by
            intro a
            induction a with
            | nil => exact fun h => ⟨h.1, h.2.1⟩
            | cons z zk s _ ih => exact fun h => ih h.2.2
          exact h2 _ h1
        have hback : ∀ b, Sq b → w.heap[b]? = wr.heap[b]? := fun b hb => (HBW.out.block b (HS.out b hb)).symm
        have hstr4 : ∀ i a, AtR R2 i a → ocT i m2 (y, l) = true → Str wr Sq a := fun i a ha ho => (HRD.out.str i a ha (by rw [HKS.out, ocF_app, ocF_c, ho]; simp)).keep fun b hb => (hback b hb).symm
        have cI := HIH.out (y, l) (by omega) hvk wr Sq (.pointer (some ⟨q1, o1, none⟩)) mb fb ab wb B0 B va3 R2 es3 m2 H4.out hBr HS.out hu HST3.out HKY3.out hstr4 (by omega)
        have hcw : w.cell? ⟨kb2, ko + j, none⟩ = some (.pointer (some ⟨q1, o1, none⟩)) := (World.cell?_of_block (w := wr) (w' := w) (a := ⟨kb2, ko + j, none⟩) (hback kb2 hkb)).trans hcell
        have HCW := Lib.hid hcw
        have HU := Lib.hid hu
        have HN := Lib.hid hnext
        have HLEN : Hid (j + 1 = (done.app (.cons y l .nil)).len) := Lib.hid (by rw [Fr.len_app]; simp only [Fr.len]; omega)
        have HJ := Lib.hid hj
        clear hkid hks hj hl hss hrb hsz hn hu hnext hsr hlr2 hyl ga gw hr3 hbw hky3 hmo3 hat3 hcv3 hvk hstr4 hcw hback
        go_wp2_with fail
        refine cI.mono ?_
        rintro e w6 ⟨rfl, va6, es6, hst6, hky6, hmo6, hat6, hcv6, hb6⟩
        have HST6 := Lib.hid hst6
        have HKY6 := Lib.hid hky6
        have HMO6 := Lib.hid hmo6
        have HAT6 := Lib.hid hat6
        have HB6 := Lib.hid hb6
        have HCV6 := Lib.hid hcv6
        clear cI hst6 hky6 hmo6 hat6 hb6 hcv6
        go_wp2_with fail
        go_roundw
        case rel =>
          have hball := HBW.out.trans HB6.out
          have hk6 : ∀ b, Sq b → w6.heap[b]? = wr.heap[b]? := fun b hb => HB6.out.block b (HS.out b hb)
          have hbk : ∀ b, Sq b → w.heap[b]? = w6.heap[b]? := fun b hb => (hball.block b (HS.out b hb)).symm
          refine ⟨j + 1, done.app (.cons y l .nil), r, va6, es6, by go_num, HLEN.out, by rw [HKS.out, Fr.app_cons], HN.out.keep (fun _ h => h) hk6, HST6.out, HKY6.out, fun v h => HMO6.out v (HMO3.out v h), fun i a ha ho => ?_, fun kb ko' hA => ?_, hball⟩
          · rw [ocF_app, ocF_c, Bool.or_eq_true, Bool.or_eq_true] at ho
            rcases ho with ho | ho | ho
            · exact HMO6.out a (HAT3.out i a ha ho)
            · exact HAT6.out i a ha ho
            · cases ho
          · injection hA with hA
            injection hA with e1 e2
            subst e1 e2
            have h1 := (HCV3.out kb2 ko rfl).more HMO6.out
            have h2 : CovT w (InK es6) (.pointer (some ⟨q1, o1, none⟩)) (y, l) := HCV6.out.keep (HU.out.keep (fun _ h => h) hk6) hbk
            refine CovF.app h1 ⟨⟨_, by rw [← HJ.out]; exact HCW.out, h2.1, h2.2⟩, trivial⟩
        case measure => simp [intOf]; omega
      · have h0 : rest = .nil := by
          cases rest with
          | nil => rfl
          | cons y l r => exact absurd (Nat.succ_pos _) hlt
        subst h0
        have hjz : ¬ (j : Int) < (N : Int) := by have : (Fr.nil).len = 0 := rfl; omega
        have hfin : ks = done := by rw [hks, Fr.app_nil]
        subst hfin
        have hT := HT.out
        have hst7 := HST3.out
        rw [hT] at hst7 hr3
        obtain ⟨L2, hL2⟩ : ∃ L2, (R ++ T).length = L2 := ⟨_, rfl⟩
        have hL2N : RN ≤ L2 := by rw [← hL2, List.length_append, HRN.out]; omega
        have hL2b : L2 ≤ 1000000 := by rw [← hL2, ← hT]; omega
        rw [hL2] at hr3
        obtain ⟨A3, cap3, rfl⟩ := own_slice hr3
        have hcap3 : L2 ≤ cap3 := by
          rcases hr3.2 with ⟨h1, h2⟩ | ⟨g', cap', cur, h1, _, _, h2, _⟩
          · injection h1 with _ h1 h3; omega
          · injection h1 with _ _ h1; rw [h1]; exact h2
        have hA3 : (A3 = none ∧ L2 = 0 ∧ cap3 = 0) ∨ ∃ g, A3 = some ⟨g, 0, none⟩ := by
          rcases hr3.2 with ⟨h1, h2⟩ | ⟨g', cap', cur, h1, _⟩
          · injection h1 with h0 h1 h3; exact .inl ⟨h0, h1, h3⟩
          · injection h1 with h1 _ _; exact .inr ⟨g', h1⟩
        have ca3 : wr.cell? ⟨ab, 0, none⟩ = some (.slice A3 L2 cap3) := cell_of_row wr ab 0 _ _ _ ga
        have fa3 := frozen_of_row wr ab 0 _ _ ga
        have hpop := KsSt.pop (T := T) hst7 H4.out
        rw [HRN.out] at hpop
        have HPOP := Lib.hid hpop
        clear hkid hks hj hl hss hrb hsz hn ga gw hbw hky3 hmo3 hat3 hcv3 hst7 hpop hr3 hT hL2
        have hend : ∀ (wz : World), wz = wr.setCell ⟨ab, 0, none⟩ (.slice A3 RN cap3) → WkP mb fb ab wb B0 B Sq R es m (.pointer (some ⟨q, p, none⟩)) (x, ks) w (.returned (.tuple #[])) wz := by
          rintro wz rfl
          obtain ⟨hst9, hb9⟩ := HPOP.out
          have hball := HBW.out.trans hb9
          have hf := HRD.out.fin es3 HMO3.out HAT3.out
          refine ⟨rfl, _, es3, hst9, HKY3.out.keep fun b hb => hb9.block b (HS.out b hb), fun v h => HMO3.out v (HRD.out.more v h), hf.1, ?_, hball⟩
          refine CovT.keep (w := w) ?_ HIN.out fun b hb => hball.block b (HS.out b hb)
          obtain ⟨q9, p9, A9, c9, h91, _, _, _, _, _, _, h94, _⟩ := HIN.out
          injection h91 with h91
          injection h91 with h91
          injection h91 with h92 h93
          subst h92 h93
          refine ⟨hf.2, q, p, A, c, rfl, ?_, fun kb ko hA => HCV3.out kb ko hA⟩
          have h5 := (World.cell?_of_block (w := w) (w' := wc) (a := ⟨q, p + 4, none⟩) (HB2.out.block q hqB)).symm.trans c4w
          rw [show ((x, ks) : Tr).2.len = N from HNN.out]
          exact h5
        have HEND := Lib.hid hend
        clear hend
        rcases hA3 with ⟨rfl, rfl, rfl⟩ | ⟨g3, rfl⟩
        · obtain rfl : RN = 0 := by omega
          go_wp2_with fail
          go_end0
          exact HEND.out _ rfl
        · go_wp2_with fail
          go_end0
          exact HEND.out _ rfl
end Go.Proofs.YtmiicfdigkkbdaaDoor
namespace Go.Proofs.YtmiicfdigkkbdaaDoor
open Go.RowKit

theorem wk_all : ∀ n, n ≤ 1000000 → WkAt n
  | 0, _ => fun t h => absurd h (by unfold szT; omega)
  | n + 1, hbig => fun t hn hv => by
    have ih := wk_all n (by omega)
    by_cases k1 : t.1.k = 110
    · exact wkV ih t k1 hn hv
    · by_cases k2 : t.1.k = 121 ∨ t.1.k = 117 ∨ t.1.k = 118 ∨ t.1.k = 119
      · exact wkB ih t k2 hn hv
      · exact wkO ih t ⟨k1, k2⟩ hn hv
end Go.Proofs.YtmiicfdigkkbdaaDoor
