/-
  The document's name: the walk.
-/
import Derived.Test.YthonaeigacfmbaaGreatDoorGp11
namespace Go.Proofs.YthonaeigacfmbaaGreatDoor.B
open Go.RowKit

theorem cell_of {w : World} {B : Nat} {A : Option Addr} {n c : Nat} {l : List Nat} (h : Sl w B (.slice A n c) l) {j r : Nat} (hj : l[j]? = some r) : ∃ ad, A = some ad ∧ w.cell? (ad.add j) = some (.int .i32 (r : Int)) := by
  obtain ⟨A', c', hv, _, hc⟩ := h
  obtain ⟨ad, h1, _, h2⟩ := hc j r hj
  injection hv with h3 h4 h5
  exact ⟨ad, by rw [h3, h1], h2⟩
theorem rt_dec {P : Prop} [Decidable P] {r : Option (Tok × Nat)} {i n : Nat} {W w' : World} {K M Z : Int} {S : ByteArray} {x : List Nat} (h1 : P → r = some (⟨K, x, M⟩, n)) (h2 : ¬ P → r = none) (hs : S = T x) (hz : Z = ((i + n : Nat) : Int)) (hb : Below W.heap.size W w') :
    RT r i W (.returned (.tuple #[.agg #[.int .i64 K, .string S, .int .i64 M, .int .i64 0], .int .i64 Z, .bool (decide P)])) w' := by
  by_cases h : P
  · rw [decide_eq_true h]; exact rt_some (h1 h) hs hz hb
  · rw [decide_eq_false h]; exact rt_none (h2 h) hb
def dotAt (l : List Nat) (p : Nat) : Bool := List.isPrefixOf [46] (l.drop p)
theorem dot_true {l : List Nat} {p : Nat} (h : dotAt l p = true) : l[p]? = some 46 ∧ l.drop p = 46 :: l.drop (p + 1) := by
  obtain ⟨t, ht⟩ := List.isPrefixOf_iff_prefix.1 h
  have h1 : l[p]? = some 46 := by
    have : (l.drop p)[0]? = some 46 := by rw [← ht]; rfl
    rw [List.getElem?_drop] at this
    simpa using this
  exact ⟨h1, drop_succ h1⟩
theorem dot_false {l : List Nat} {p r : Nat} (h : dotAt l p = false) (hr : l[p]? = some r) : r ≠ 46 := by
  rintro rfl
  unfold dotAt at h
  rw [drop_succ hr] at h
  simp at h
theorem nameT_key {d : List Nat} (h : wrd (T (d.take (cnt lng d))) = true) : nameT d = some (⟨3, d.take (cnt lng d), 0⟩, cnt lng d) := by unfold nameT; rw [if_pos h]
theorem nameT_long {d : List Nat} (hw : wrd (T (d.take (cnt lng d))) = false) (hl : isLong (d.take (cnt lng d)) = true) : nameT d = some (⟨1, d.take (cnt lng d), 0⟩, cnt lng d) := by
  unfold nameT; rw [if_neg (by rw [hw]; simp), if_pos hl]
theorem nameT_not {d : List Nat} (hw : wrd (T (d.take (cnt lng d))) = false) (hl : isLong (d.take (cnt lng d)) = false) : nameT d = none := by
  unfold nameT; rw [if_neg (by rw [hw]; simp), if_neg (by rw [hl]; simp)]
theorem lng_end {d : List Nat} {k : Nat} {b : Bool} (h : NamRel d k b) (hd : List.isPrefixOf [46] (d.drop k) = false) : cnt lng d = k := by
  have h1 := h.cn
  rw [lrest_no hd] at h1
  omega
theorem lng_more {d : List Nat} (ho : okl d) (hd : List.isPrefixOf [46] (d.drop (cnt inr d)) = true) : wrd (T (d.take (cnt lng d))) = false := by
  obtain ⟨t, ht⟩ := List.isPrefixOf_iff_prefix.1 hd
  have hc : cnt lng d = cnt inr d + (1 + cnt lng t) := by
    rw [cnt_lng d, ← ht]
    rfl
  refine wrd_dot (okl_take ho _) ?_
  rw [hc, List.take_add, ← ht]
  show 46 ∈ _ ++ (46 :: t).take (1 + cnt lng t)
  rw [Nat.add_comm, List.take_succ_cons]
  simp

set_option maxHeartbeats 12800000 in
set_option maxRecDepth 100000 in
theorem name_ref (v : Value) (l : List Nat) (B i : Nat) (w : World) (h : Sl w B v l) (hB : B ≤ w.heap.size) (ho : okl l) (hl : l.length ≤ 100000) (hi : i ≤ l.length) :
    Calls Tryz.prog 101 #[v, .int .i64 (i : Int)] w (RT (nameT (l.drop i)) i w) := by
  obtain ⟨ANS, hans⟩ : ∃ s, nameT (l.drop i) = s := ⟨_, rfl⟩
  rw [hans]
  obtain ⟨A, c, rfl, hlc, _⟩ := id h
  have HSL := Lib.hid h
  obtain ⟨d, hd⟩ : ∃ d, l.drop i = d := ⟨_, rfl⟩
  have hod : okl d := by rw [← hd]; exact okl_drop ho i
  rw [hd] at hans
  have HANS := Lib.hid hans
  obtain ⟨h0, hh0⟩ : ∃ h0, cnt inr d = h0 := ⟨_, rfl⟩
  have hle0 := cnt_le inr d
  have hdl : d.length = l.length - i := by rw [← hd, List.length_drop]
  rw [hh0] at hle0
  have hbn : Below w.heap.size w (w.alloc (.cells #[.int .i64 0, .string ⟨#[]⟩, .int .i64 0, .int .i64 0] 63)) := (Below.refl _ _).alloc (Nat.le_refl _) _
  have cH := fun W (p : Nat) (hb : Below w.heap.size w W) (hp : p ≤ l.length) => headR_any (.slice A l.length c) l B p W (h.below (hb.mono hB)) hp (by omega)
  have cT := fun (W : World) (p q : Nat) (hb : Below w.heap.size w W) (h1 : p ≤ q) (h2 : q ≤ l.length) => text_any (.slice A l.length c) l B p q W (h.below (hb.mono hB)) ho h1 h2 (by omega)
  have tsz : ∀ x : List Nat, x.length ≤ 100000 → (T x).size ≤ 1000000000 := fun x hx => by have := sz_le x; rw [T_size]; omega
  have HH := Lib.hid cH
  have HT := Lib.hid cT
  have HTS := Lib.hid tsz
  obtain ⟨n, hn⟩ : ∃ n, l.length = n := ⟨_, rfl⟩
  rw [hn] at hl hlc hi hdl HH HT HSL ⊢
  have HN := Lib.hid hn
  have HD := Lib.hid hd
  have HH0 := Lib.hid hh0
  have HDL := Lib.hid hdl
  have hdn : h0 ≤ n - i := by omega
  clear h hans hd hh0 hle0 hdl cH cT tsz hn
  obtain ⟨X, hX⟩ : ∃ X, T (d.take h0) = X := ⟨_, rfl⟩
  have HX := Lib.hid hX
  have hT0 : ∀ (W : World), Below w.heap.size w W → Calls Tryz.prog 61 #[.slice A n c, .int .i64 (i : Int), .int .i64 ((i : Int) + (h0 : Int))] W (StrSame X W) := by
    intro W hb
    have := HT.out W i (i + h0) hb (by omega) (by omega)
    rw [show i + h0 - i = h0 by omega, HD.out, hX] at this
    exact this
  have HT0 := Lib.hid hT0
  have hH0 : ∀ (W : World), Below w.heap.size w W → Calls Tryz.prog 171 #[.slice A n c, .int .i64 (i : Int)] W (IntSame h0 W) := by
    intro W hb
    have := HH.out W i hb (by omega)
    rw [HD.out, HH0.out] at this
    exact this
  have HC0 := Lib.hid hH0
  have hNS : NamRel d h0 (pcs (d.take h0)) := by have := nam_start (d := d) rfl; rw [HH0.out] at this; exact this
  have hpc0 : pcs (d.take h0) = (!wrd X && nm X) := by rw [← hX]; rfl
  rw [hpc0] at hNS
  have hXs : X.size ≤ 1000000000 := by
    rw [← hX]
    refine HTS.out _ ?_
    rw [List.length_take]
    have := HDL.out
    omega
  have HXS := Lib.hid hXs
  have hrc := Rc.new_ w
  have HRC := Lib.hid hrc
  have HBN := Lib.hid hbn
  clear hX hT0 hH0 hpc0 hXs hrc hbn
  obtain ⟨bw, hbw⟩ : ∃ b, wrd X = b := ⟨_, rfl⟩
  obtain ⟨bn, hbn⟩ : ∃ b, nm X = b := ⟨_, rfl⟩
  have cWX := fun W => refWord X W
  have cNX := fun W => refName X W HXS.out
  rw [hbw] at cWX hNS
  rw [hbn] at cNX hNS
  have HNS := Lib.hid hNS
  have HWX := Lib.hid cWX
  have HNX := Lib.hid cNX
  have HBW := Lib.hid hbw
  clear hbw hbn cWX cNX hNS
  go_enter Tryz.func101, Tryz.ntmps101
  go_wp2_with fail
  refine (HC0.out _ HBN.out).mono ?_
  rintro e w' ⟨rfl, rfl⟩
  go_wp2_with fail
  refine (HT0.out _ HBN.out).mono ?_
  rintro e w' ⟨rfl, rfl⟩
  go_wp2_with fail
  refine (HWX.out _).mono ?_
  rintro e w1 ⟨rfl, hb1⟩
  have hb2 := HBN.out.trans (hb1.mono (by simp))
  have hr2 := HRC.out.below hb1
  have HB2 := Lib.hid hb2
  have HR2 := Lib.hid hr2
  clear hb1 hb2 hr2
  obtain ⟨⟨q0, q1, q2, q3⟩, f0, f1, f2, f3⟩ := HR2.out.cells
  have hle2 : w.heap.size ≤ w1.heap.size := HB2.out.size
  cases bw
  · have HWF : Hid (wrd (T (d.take (cnt lng d))) = false) := Lib.hid (by
      cases hdd : List.isPrefixOf [46] (d.drop h0)
      · rw [lng_end HNS.out hdd, HX.out]; exact HBW.out
      · exact lng_more hod (by rw [HH0.out]; exact hdd))
    cases bn
    · go_wp2_with fail
      refine (HNX.out _).mono ?_
      rintro e w2 ⟨rfl, hb3⟩
      have HB0 := Lib.hid (HB2.out.trans (hb3.mono hle2))
      have HR0 := Lib.hid (HR2.out.below hb3)
      clear hb3
      go_wp2_with fail
      go_loopw [7, 8, 9, 10] (fun t x y _ wr => ∃ (pt : Nat) (b : Bool) (Y : ByteArray), t = .int .i64 (pt : Int) ∧ x = .string Y ∧ y = .bool b ∧ i ≤ pt ∧ pt ≤ n ∧ NamRel d (pt - i) b ∧ Below w.heap.size w wr ∧ Rc wr w.heap.size #[.int .i64 0, .string ⟨#[]⟩, .int .i64 0, .int .i64 0]) (fun t _ _ _ _ => n - (intOf t).toNat)
      case atStart => exact ⟨i + h0, _, _, rfl, rfl, rfl, by omega, by omega, by rw [Nat.add_sub_cancel_left]; exact HNS.out, HB0.out, HR0.out⟩
      case round =>
        obtain ⟨pt, b, Y0, rfl, rfl, rfl, hlo, hto, hrel, hbr, hrr⟩ := hrel
        have HREL := Lib.hid hrel
        have HBR := Lib.hid hbr
        have HRR := Lib.hid hrr
        have hszr := hbr.size
        clear hrel hbr hrr
        cases b
        · have hTx : ∀ (W : World), Below w.heap.size w W → Calls Tryz.prog 61 #[.slice A n c, .int .i64 (i : Int), .int .i64 (pt : Int)] W (StrSame (T (d.take (pt - i))) W) := by
            intro W hb
            have := HT.out W i pt hb (by omega) (by omega)
            rw [HD.out] at this
            exact this
          obtain ⟨Y, hY⟩ : ∃ Y, T (d.take (pt - i)) = Y := ⟨_, rfl⟩
          rw [hY] at hTx
          have HY := Lib.hid hY
          have HTX := Lib.hid hTx
          have hYs : Y.size = sz (d.take (pt - i)) := by rw [← hY, T_size]
          have HYS := Lib.hid hYs
          clear hY hTx hYs
          go_wp2_with fail
          refine (HTX.out _ HBR.out).mono ?_
          rintro e w' ⟨rfl, rfl⟩
          obtain ⟨⟨q0, q1, q2, q3⟩, f0, f1, f2, f3⟩ := HRR.out.cells
          go_wp2
          refine bodyPost_ret (results_cell_three rfl _ _ w.heap.size _ _ (0, 0) _ rfl (Rc.four HRR.out _ _ _ _) Tryz.underlying63 rfl (by kernel_rfl)) rfl ?_
          exact rt_none (HANS.out.symm.trans (nam_off HREL.out HWF.out)) (below_four HBR.out (Nat.le_refl _) _ _ _ _)
        · by_cases hlt : pt < n
          · obtain ⟨r, hr⟩ : ∃ r, l[pt]? = some r := ⟨_, List.getElem?_eq_getElem (by rw [HN.out]; exact hlt)⟩
            obtain ⟨ad, hA, hc⟩ := cell_of (HSL.out.below (HBR.out.mono hB)) hr
            subst hA
            have hzl : (pt : Int) < (n : Int) := by omega
            obtain ⟨dot, hdot⟩ : ∃ b, dotAt l pt = b := ⟨_, rfl⟩
            have hdd0 : List.isPrefixOf [46] (d.drop (pt - i)) = dotAt l pt := by
              rw [← HD.out, List.drop_drop, show i + (pt - i) = pt by omega]; rfl
            cases dot
            · have hr46 : ((r : Int) == 46) = false := by rw [beq_eq_false_iff_ne]; have := dot_false hdot hr; omega
              have hdd : List.isPrefixOf [46] (d.drop (pt - i)) = false := hdd0.trans hdot
              clear hr hdot hdd0
              have hTx : ∀ (W : World), Below w.heap.size w W → Calls Tryz.prog 61 #[.slice (some ad) n c, .int .i64 (i : Int), .int .i64 (pt : Int)] W (StrSame (T (d.take (pt - i))) W) := by
                intro W hb
                have := HT.out W i pt hb (by omega) (by omega)
                rw [HD.out] at this
                exact this
              obtain ⟨Y, hY⟩ : ∃ Y, T (d.take (pt - i)) = Y := ⟨_, rfl⟩
              rw [hY] at hTx
              have HY := Lib.hid hY
              have HTX := Lib.hid hTx
              have hYs : Y.size = sz (d.take (pt - i)) := by rw [← hY, T_size]
              have HYS := Lib.hid hYs
              clear hY hTx hYs
              have hcn := lng_end HREL.out hdd
              have hl1 : Y.size ≤ 128 → isLong (d.take (cnt lng d)) = true := by
                intro h128
                rw [hcn]
                unfold isLong
                rw [show (fun y => !wrd (T y) && nm (T y)) = pcs from rfl, HREL.out.ps, Bool.and_true, decide_eq_true_iff]
                rw [← HYS.out]; exact h128
              have hl2 : ¬ Y.size ≤ 128 → isLong (d.take (cnt lng d)) = false := by
                intro h128
                rw [hcn]
                unfold isLong
                rw [Bool.and_eq_false_iff]
                left
                rw [decide_eq_false_iff_not, ← HYS.out]; exact h128
              have hf1 : ((Y.size : Int) ≤ 128) → ANS = some (⟨1, d.take (pt - i), 0⟩, pt - i) := fun h => by
                rw [← HANS.out, nameT_long HWF.out (hl1 (by omega)), hcn]
              have hf2 : ¬ ((Y.size : Int) ≤ 128) → ANS = none := fun h => by
                rw [← HANS.out, nameT_not HWF.out (hl2 (by omega))]
              have HF1 := Lib.hid hf1
              have HF2 := Lib.hid hf2
              clear hl1 hl2 hf1 hf2 hcn
              go_wp2_with fail
              refine (HTX.out _ HBR.out).mono ?_
              rintro e w' ⟨rfl, rfl⟩
              obtain ⟨⟨q0, q1, q2, q3⟩, f0, f1, f2, f3⟩ := HRR.out.cells
              go_wp2
              refine bodyPost_ret (results_cell_three rfl _ _ w.heap.size _ _ (0, 0) _ rfl (Rc.four HRR.out _ _ _ _) Tryz.underlying63 rfl (by kernel_rfl)) rfl ?_
              exact rt_dec HF1.out (fun h => HF2.out (by omega)) HY.out.symm (by omega) (below_four HBR.out (Nat.le_refl _) _ _ _ _)
            · obtain ⟨hr2, hdd⟩ := dot_true hdot
              have hr3 : r = 46 := by rw [hr] at hr2; exact Option.some.inj hr2
              subst hr3
              have hc46 : ((46 : Nat) : Int) = 46 := rfl
              rw [hc46] at hc
              have hd2 : d.drop (pt - i) = 46 :: l.drop (pt + 1) := by rw [← HD.out, List.drop_drop, show i + (pt - i) = pt by omega]; exact hdd
              obtain ⟨h1, hh1⟩ : ∃ h, cnt inr (l.drop (pt + 1)) = h := ⟨_, rfl⟩
              have hh1l := cnt_le inr (l.drop (pt + 1))
              rw [List.length_drop, HN.out, hh1] at hh1l
              have cH1 : ∀ (W : World), Below w.heap.size w W → Calls Tryz.prog 171 #[.slice (some ad) n c, .int .i64 ((pt : Int) + 1)] W (IntSame h1 W) := by
                intro W hb
                have := HH.out W (pt + 1) hb (by omega)
                rw [hh1] at this
                exact this
              obtain ⟨Y, hY⟩ : ∃ Y, T ((l.drop (pt + 1)).take h1) = Y := ⟨_, rfl⟩
              have cT1 : ∀ (W : World), Below w.heap.size w W → Calls Tryz.prog 61 #[.slice (some ad) n c, .int .i64 ((pt : Int) + 1), .int .i64 ((pt : Int) + 1 + (h1 : Int))] W (StrSame Y W) := by
                intro W hb
                have := HT.out W (pt + 1) (pt + 1 + h1) hb (by omega) (by omega)
                rw [show pt + 1 + h1 - (pt + 1) = h1 by omega, hY] at this
                exact this
              have hYs : Y.size ≤ 1000000000 := by
                rw [← hY]
                refine HTS.out _ ?_
                rw [List.length_take, List.length_drop, HN.out]
                omega
              have hnx : NamRel d (pt - i + 1 + h1) (!wrd Y && nm Y) := by
                have := nam_next HREL.out hd2 (b := (!wrd Y && nm Y)) (by rw [hh1, ← hY]; rfl)
                rw [hh1] at this
                exact this
              rw [show pt - i + 1 + h1 = pt + 1 + h1 - i by omega] at hnx
              obtain ⟨bw1, hbw1⟩ : ∃ b, wrd Y = b := ⟨_, rfl⟩
              obtain ⟨bn1, hbn1⟩ : ∃ b, nm Y = b := ⟨_, rfl⟩
              have cWY := fun W => refWord Y W
              have cNY := fun W => refName Y W hYs
              rw [hbw1] at cWY hnx
              rw [hbn1] at cNY hnx
              have HNX1 := Lib.hid hnx
              have HWY := Lib.hid cWY
              have HNY := Lib.hid cNY
              have HH1 := Lib.hid cH1
              have HT1 := Lib.hid cT1
              clear hr hdot hdd0 hr2 hdd hd2 hh1 hY hYs hnx hbw1 hbn1 cWY cNY cH1 cT1
              cases bn1
              · go_wp2_with fail
                refine (HH1.out _ HBR.out).mono ?_
                rintro e w' ⟨rfl, rfl⟩
                go_wp2_with fail
                refine (HT1.out _ HBR.out).mono ?_
                rintro e w' ⟨rfl, rfl⟩
                go_wp2_with fail
                refine (HNY.out _).mono ?_
                rintro e w5 ⟨rfl, hb5⟩
                have HB5 := Lib.hid hb5
                clear hb5
                go_wp2_with fail
                go_roundw
                case rel => exact ⟨pt + 1 + h1, _, _, rfl, rfl, rfl, by omega, by omega, by simpa using HNX1.out, HBR.out.trans (HB5.out.mono hszr), HRR.out.below HB5.out⟩
                case measure => simp [intOf]; omega
              · go_wp2_with fail
                refine (HH1.out _ HBR.out).mono ?_
                rintro e w' ⟨rfl, rfl⟩
                go_wp2_with fail
                refine (HT1.out _ HBR.out).mono ?_
                rintro e w' ⟨rfl, rfl⟩
                go_wp2_with fail
                refine (HNY.out _).mono ?_
                rintro e w5 ⟨rfl, hb5⟩
                have HB5 := Lib.hid hb5
                have hsz5 := hb5.size
                clear hb5
                go_wp2_with fail
                refine (HWY.out _).mono ?_
                rintro e w6 ⟨rfl, hb6⟩
                have HB6 := Lib.hid hb6
                clear hb6
                go_wp2_with fail
                go_roundw
                case rel => exact ⟨pt + 1 + h1, _, _, rfl, rfl, rfl, by omega, by omega, by simpa using HNX1.out, (HBR.out.trans (HB5.out.mono hszr)).trans (HB6.out.mono (by omega)), (HRR.out.below HB5.out).below HB6.out⟩
                case measure => simp [intOf]; omega
          · have hzl : ¬ (pt : Int) < (n : Int) := by omega
            have hdd : List.isPrefixOf [46] (d.drop (pt - i)) = false := by
              rw [← HD.out, List.drop_drop, List.drop_eq_nil_of_le (by rw [HN.out]; omega)]; rfl
            have hTx : ∀ (W : World), Below w.heap.size w W → Calls Tryz.prog 61 #[.slice A n c, .int .i64 (i : Int), .int .i64 (pt : Int)] W (StrSame (T (d.take (pt - i))) W) := by
              intro W hb
              have := HT.out W i pt hb (by omega) (by omega)
              rw [HD.out] at this
              exact this
            obtain ⟨Y, hY⟩ : ∃ Y, T (d.take (pt - i)) = Y := ⟨_, rfl⟩
            rw [hY] at hTx
            have HY := Lib.hid hY
            have HTX := Lib.hid hTx
            have hYs : Y.size = sz (d.take (pt - i)) := by rw [← hY, T_size]
            have HYS := Lib.hid hYs
            clear hY hTx hYs
            have hcn := lng_end HREL.out hdd
            have hl1 : Y.size ≤ 128 → isLong (d.take (cnt lng d)) = true := by
              intro h128
              rw [hcn]
              unfold isLong
              rw [show (fun y => !wrd (T y) && nm (T y)) = pcs from rfl, HREL.out.ps, Bool.and_true, decide_eq_true_iff]
              rw [← HYS.out]; exact h128
            have hl2 : ¬ Y.size ≤ 128 → isLong (d.take (cnt lng d)) = false := by
              intro h128
              rw [hcn]
              unfold isLong
              rw [Bool.and_eq_false_iff]
              left
              rw [decide_eq_false_iff_not, ← HYS.out]; exact h128
            have hf1 : ((Y.size : Int) ≤ 128) → ANS = some (⟨1, d.take (pt - i), 0⟩, pt - i) := fun h => by
              rw [← HANS.out, nameT_long HWF.out (hl1 (by omega)), hcn]
            have hf2 : ¬ ((Y.size : Int) ≤ 128) → ANS = none := fun h => by
              rw [← HANS.out, nameT_not HWF.out (hl2 (by omega))]
            have HF1 := Lib.hid hf1
            have HF2 := Lib.hid hf2
            clear hl1 hl2 hf1 hf2 hcn
            go_wp2_with fail
            refine (HTX.out _ HBR.out).mono ?_
            rintro e w' ⟨rfl, rfl⟩
            obtain ⟨⟨q0, q1, q2, q3⟩, f0, f1, f2, f3⟩ := HRR.out.cells
            go_wp2
            refine bodyPost_ret (results_cell_three rfl _ _ w.heap.size _ _ (0, 0) _ rfl (Rc.four HRR.out _ _ _ _) Tryz.underlying63 rfl (by kernel_rfl)) rfl ?_
            exact rt_dec HF1.out (fun h => HF2.out (by omega)) HY.out.symm (by omega) (below_four HBR.out (Nat.le_refl _) _ _ _ _)
    · go_wp2_with fail
      refine (HNX.out _).mono ?_
      rintro e w2 ⟨rfl, hb3⟩
      have hle3 := hb3.size
      go_wp2_with fail
      refine (HWX.out _).mono ?_
      rintro e w3 ⟨rfl, hb4⟩
      have HB0 := Lib.hid ((HB2.out.trans (hb3.mono hle2)).trans (hb4.mono (by omega)))
      have HR0 := Lib.hid ((HR2.out.below hb3).below hb4)
      clear hb3 hb4
      go_wp2_with fail
      go_loopw [7, 8, 9, 10] (fun t x y _ wr => ∃ (pt : Nat) (b : Bool) (Y : ByteArray), t = .int .i64 (pt : Int) ∧ x = .string Y ∧ y = .bool b ∧ i ≤ pt ∧ pt ≤ n ∧ NamRel d (pt - i) b ∧ Below w.heap.size w wr ∧ Rc wr w.heap.size #[.int .i64 0, .string ⟨#[]⟩, .int .i64 0, .int .i64 0]) (fun t _ _ _ _ => n - (intOf t).toNat)
      case atStart => exact ⟨i + h0, _, _, rfl, rfl, rfl, by omega, by omega, by rw [Nat.add_sub_cancel_left]; exact HNS.out, HB0.out, HR0.out⟩
      case round =>
        obtain ⟨pt, b, Y0, rfl, rfl, rfl, hlo, hto, hrel, hbr, hrr⟩ := hrel
        have HREL := Lib.hid hrel
        have HBR := Lib.hid hbr
        have HRR := Lib.hid hrr
        have hszr := hbr.size
        clear hrel hbr hrr
        cases b
        · have hTx : ∀ (W : World), Below w.heap.size w W → Calls Tryz.prog 61 #[.slice A n c, .int .i64 (i : Int), .int .i64 (pt : Int)] W (StrSame (T (d.take (pt - i))) W) := by
            intro W hb
            have := HT.out W i pt hb (by omega) (by omega)
            rw [HD.out] at this
            exact this
          obtain ⟨Y, hY⟩ : ∃ Y, T (d.take (pt - i)) = Y := ⟨_, rfl⟩
          rw [hY] at hTx
          have HY := Lib.hid hY
          have HTX := Lib.hid hTx
          have hYs : Y.size = sz (d.take (pt - i)) := by rw [← hY, T_size]
          have HYS := Lib.hid hYs
          clear hY hTx hYs
          go_wp2_with fail
          refine (HTX.out _ HBR.out).mono ?_
          rintro e w' ⟨rfl, rfl⟩
          obtain ⟨⟨q0, q1, q2, q3⟩, f0, f1, f2, f3⟩ := HRR.out.cells
          go_wp2
          refine bodyPost_ret (results_cell_three rfl _ _ w.heap.size _ _ (0, 0) _ rfl (Rc.four HRR.out _ _ _ _) Tryz.underlying63 rfl (by kernel_rfl)) rfl ?_
          exact rt_none (HANS.out.symm.trans (nam_off HREL.out HWF.out)) (below_four HBR.out (Nat.le_refl _) _ _ _ _)
        · by_cases hlt : pt < n
          · obtain ⟨r, hr⟩ : ∃ r, l[pt]? = some r := ⟨_, List.getElem?_eq_getElem (by rw [HN.out]; exact hlt)⟩
            obtain ⟨ad, hA, hc⟩ := cell_of (HSL.out.below (HBR.out.mono hB)) hr
            subst hA
            have hzl : (pt : Int) < (n : Int) := by omega
            obtain ⟨dot, hdot⟩ : ∃ b, dotAt l pt = b := ⟨_, rfl⟩
            have hdd0 : List.isPrefixOf [46] (d.drop (pt - i)) = dotAt l pt := by
              rw [← HD.out, List.drop_drop, show i + (pt - i) = pt by omega]; rfl
            cases dot
            · have hr46 : ((r : Int) == 46) = false := by rw [beq_eq_false_iff_ne]; have := dot_false hdot hr; omega
              have hdd : List.isPrefixOf [46] (d.drop (pt - i)) = false := hdd0.trans hdot
              clear hr hdot hdd0
              have hTx : ∀ (W : World), Below w.heap.size w W → Calls Tryz.prog 61 #[.slice (some ad) n c, .int .i64 (i : Int), .int .i64 (pt : Int)] W (StrSame (T (d.take (pt - i))) W) := by
                intro W hb
                have := HT.out W i pt hb (by omega) (by omega)
                rw [HD.out] at this
                exact this
              obtain ⟨Y, hY⟩ : ∃ Y, T (d.take (pt - i)) = Y := ⟨_, rfl⟩
              rw [hY] at hTx
              have HY := Lib.hid hY
              have HTX := Lib.hid hTx
              have hYs : Y.size = sz (d.take (pt - i)) := by rw [← hY, T_size]
              have HYS := Lib.hid hYs
              clear hY hTx hYs
              have hcn := lng_end HREL.out hdd
              have hl1 : Y.size ≤ 128 → isLong (d.take (cnt lng d)) = true := by
                intro h128
                rw [hcn]
                unfold isLong
                rw [show (fun y => !wrd (T y) && nm (T y)) = pcs from rfl, HREL.out.ps, Bool.and_true, decide_eq_true_iff]
                rw [← HYS.out]; exact h128
              have hl2 : ¬ Y.size ≤ 128 → isLong (d.take (cnt lng d)) = false := by
                intro h128
                rw [hcn]
                unfold isLong
                rw [Bool.and_eq_false_iff]
                left
                rw [decide_eq_false_iff_not, ← HYS.out]; exact h128
              have hf1 : ((Y.size : Int) ≤ 128) → ANS = some (⟨1, d.take (pt - i), 0⟩, pt - i) := fun h => by
                rw [← HANS.out, nameT_long HWF.out (hl1 (by omega)), hcn]
              have hf2 : ¬ ((Y.size : Int) ≤ 128) → ANS = none := fun h => by
                rw [← HANS.out, nameT_not HWF.out (hl2 (by omega))]
              have HF1 := Lib.hid hf1
              have HF2 := Lib.hid hf2
              clear hl1 hl2 hf1 hf2 hcn
              go_wp2_with fail
              refine (HTX.out _ HBR.out).mono ?_
              rintro e w' ⟨rfl, rfl⟩
              obtain ⟨⟨q0, q1, q2, q3⟩, f0, f1, f2, f3⟩ := HRR.out.cells
              go_wp2
              refine bodyPost_ret (results_cell_three rfl _ _ w.heap.size _ _ (0, 0) _ rfl (Rc.four HRR.out _ _ _ _) Tryz.underlying63 rfl (by kernel_rfl)) rfl ?_
              exact rt_dec HF1.out (fun h => HF2.out (by omega)) HY.out.symm (by omega) (below_four HBR.out (Nat.le_refl _) _ _ _ _)
            · obtain ⟨hr2, hdd⟩ := dot_true hdot
              have hr3 : r = 46 := by rw [hr] at hr2; exact Option.some.inj hr2
              subst hr3
              have hc46 : ((46 : Nat) : Int) = 46 := rfl
              rw [hc46] at hc
              have hd2 : d.drop (pt - i) = 46 :: l.drop (pt + 1) := by rw [← HD.out, List.drop_drop, show i + (pt - i) = pt by omega]; exact hdd
              obtain ⟨h1, hh1⟩ : ∃ h, cnt inr (l.drop (pt + 1)) = h := ⟨_, rfl⟩
              have hh1l := cnt_le inr (l.drop (pt + 1))
              rw [List.length_drop, HN.out, hh1] at hh1l
              have cH1 : ∀ (W : World), Below w.heap.size w W → Calls Tryz.prog 171 #[.slice (some ad) n c, .int .i64 ((pt : Int) + 1)] W (IntSame h1 W) := by
                intro W hb
                have := HH.out W (pt + 1) hb (by omega)
                rw [hh1] at this
                exact this
              obtain ⟨Y, hY⟩ : ∃ Y, T ((l.drop (pt + 1)).take h1) = Y := ⟨_, rfl⟩
              have cT1 : ∀ (W : World), Below w.heap.size w W → Calls Tryz.prog 61 #[.slice (some ad) n c, .int .i64 ((pt : Int) + 1), .int .i64 ((pt : Int) + 1 + (h1 : Int))] W (StrSame Y W) := by
                intro W hb
                have := HT.out W (pt + 1) (pt + 1 + h1) hb (by omega) (by omega)
                rw [show pt + 1 + h1 - (pt + 1) = h1 by omega, hY] at this
                exact this
              have hYs : Y.size ≤ 1000000000 := by
                rw [← hY]
                refine HTS.out _ ?_
                rw [List.length_take, List.length_drop, HN.out]
                omega
              have hnx : NamRel d (pt - i + 1 + h1) (!wrd Y && nm Y) := by
                have := nam_next HREL.out hd2 (b := (!wrd Y && nm Y)) (by rw [hh1, ← hY]; rfl)
                rw [hh1] at this
                exact this
              rw [show pt - i + 1 + h1 = pt + 1 + h1 - i by omega] at hnx
              obtain ⟨bw1, hbw1⟩ : ∃ b, wrd Y = b := ⟨_, rfl⟩
              obtain ⟨bn1, hbn1⟩ : ∃ b, nm Y = b := ⟨_, rfl⟩
              have cWY := fun W => refWord Y W
              have cNY := fun W => refName Y W hYs
              rw [hbw1] at cWY hnx
              rw [hbn1] at cNY hnx
              have HNX1 := Lib.hid hnx
              have HWY := Lib.hid cWY
              have HNY := Lib.hid cNY
              have HH1 := Lib.hid cH1
              have HT1 := Lib.hid cT1
              clear hr hdot hdd0 hr2 hdd hd2 hh1 hY hYs hnx hbw1 hbn1 cWY cNY cH1 cT1
              cases bn1
              · go_wp2_with fail
                refine (HH1.out _ HBR.out).mono ?_
                rintro e w' ⟨rfl, rfl⟩
                go_wp2_with fail
                refine (HT1.out _ HBR.out).mono ?_
                rintro e w' ⟨rfl, rfl⟩
                go_wp2_with fail
                refine (HNY.out _).mono ?_
                rintro e w5 ⟨rfl, hb5⟩
                have HB5 := Lib.hid hb5
                clear hb5
                go_wp2_with fail
                go_roundw
                case rel => exact ⟨pt + 1 + h1, _, _, rfl, rfl, rfl, by omega, by omega, by simpa using HNX1.out, HBR.out.trans (HB5.out.mono hszr), HRR.out.below HB5.out⟩
                case measure => simp [intOf]; omega
              · go_wp2_with fail
                refine (HH1.out _ HBR.out).mono ?_
                rintro e w' ⟨rfl, rfl⟩
                go_wp2_with fail
                refine (HT1.out _ HBR.out).mono ?_
                rintro e w' ⟨rfl, rfl⟩
                go_wp2_with fail
                refine (HNY.out _).mono ?_
                rintro e w5 ⟨rfl, hb5⟩
                have HB5 := Lib.hid hb5
                have hsz5 := hb5.size
                clear hb5
                go_wp2_with fail
                refine (HWY.out _).mono ?_
                rintro e w6 ⟨rfl, hb6⟩
                have HB6 := Lib.hid hb6
                clear hb6
                go_wp2_with fail
                go_roundw
                case rel => exact ⟨pt + 1 + h1, _, _, rfl, rfl, rfl, by omega, by omega, by simpa using HNX1.out, (HBR.out.trans (HB5.out.mono hszr)).trans (HB6.out.mono (by omega)), (HRR.out.below HB5.out).below HB6.out⟩
                case measure => simp [intOf]; omega
          · have hzl : ¬ (pt : Int) < (n : Int) := by omega
            have hdd : List.isPrefixOf [46] (d.drop (pt - i)) = false := by
              rw [← HD.out, List.drop_drop, List.drop_eq_nil_of_le (by rw [HN.out]; omega)]; rfl
            have hTx : ∀ (W : World), Below w.heap.size w W → Calls Tryz.prog 61 #[.slice A n c, .int .i64 (i : Int), .int .i64 (pt : Int)] W (StrSame (T (d.take (pt - i))) W) := by
              intro W hb
              have := HT.out W i pt hb (by omega) (by omega)
              rw [HD.out] at this
              exact this
            obtain ⟨Y, hY⟩ : ∃ Y, T (d.take (pt - i)) = Y := ⟨_, rfl⟩
            rw [hY] at hTx
            have HY := Lib.hid hY
            have HTX := Lib.hid hTx
            have hYs : Y.size = sz (d.take (pt - i)) := by rw [← hY, T_size]
            have HYS := Lib.hid hYs
            clear hY hTx hYs
            have hcn := lng_end HREL.out hdd
            have hl1 : Y.size ≤ 128 → isLong (d.take (cnt lng d)) = true := by
              intro h128
              rw [hcn]
              unfold isLong
              rw [show (fun y => !wrd (T y) && nm (T y)) = pcs from rfl, HREL.out.ps, Bool.and_true, decide_eq_true_iff]
              rw [← HYS.out]; exact h128
            have hl2 : ¬ Y.size ≤ 128 → isLong (d.take (cnt lng d)) = false := by
              intro h128
              rw [hcn]
              unfold isLong
              rw [Bool.and_eq_false_iff]
              left
              rw [decide_eq_false_iff_not, ← HYS.out]; exact h128
            have hf1 : ((Y.size : Int) ≤ 128) → ANS = some (⟨1, d.take (pt - i), 0⟩, pt - i) := fun h => by
              rw [← HANS.out, nameT_long HWF.out (hl1 (by omega)), hcn]
            have hf2 : ¬ ((Y.size : Int) ≤ 128) → ANS = none := fun h => by
              rw [← HANS.out, nameT_not HWF.out (hl2 (by omega))]
            have HF1 := Lib.hid hf1
            have HF2 := Lib.hid hf2
            clear hl1 hl2 hf1 hf2 hcn
            go_wp2_with fail
            refine (HTX.out _ HBR.out).mono ?_
            rintro e w' ⟨rfl, rfl⟩
            obtain ⟨⟨q0, q1, q2, q3⟩, f0, f1, f2, f3⟩ := HRR.out.cells
            go_wp2
            refine bodyPost_ret (results_cell_three rfl _ _ w.heap.size _ _ (0, 0) _ rfl (Rc.four HRR.out _ _ _ _) Tryz.underlying63 rfl (by kernel_rfl)) rfl ?_
            exact rt_dec HF1.out (fun h => HF2.out (by omega)) HY.out.symm (by omega) (below_four HBR.out (Nat.le_refl _) _ _ _ _)
  · by_cases hend : i + h0 < n
    · obtain ⟨r, hr⟩ : ∃ r, l[i + h0]? = some r := ⟨_, List.getElem?_eq_getElem (by rw [HN.out]; exact hend)⟩
      obtain ⟨ad, hA, hc⟩ := cell_of (HSL.out.below (HB2.out.mono hB)) hr
      subst hA
      have hz : ((i : Int) + (h0 : Int) == (n : Int)) = false := by rw [beq_eq_false_iff_ne]; omega
      have hzl : (i : Int) + (h0 : Int) < (n : Int) := by omega
      obtain ⟨dot, hdot⟩ : ∃ b, dotAt l (i + h0) = b := ⟨_, rfl⟩
      have hdd0 : List.isPrefixOf [46] (d.drop h0) = dotAt l (i + h0) := by
        rw [← HD.out, List.drop_drop]; rfl
      cases dot
      · have hr46 : ((r : Int) == 46) = false := by rw [beq_eq_false_iff_ne]; have := dot_false hdot hr; omega
        have hdd := hdd0.trans hdot
        clear hr hdot hdd0
        obtain hcn := lng_end HNS.out hdd
        have hk := nameT_key (d := d) (by rw [hcn, HX.out]; exact HBW.out)
        rw [hcn] at hk
        have HK := Lib.hid hk
        clear hcn hk hdd
        go_wp2
        refine bodyPost_ret (results_cell_three rfl _ _ w.heap.size _ _ (0, 0) _ rfl (Rc.four HR2.out _ _ _ _) Tryz.underlying63 rfl (by kernel_rfl)) rfl ?_
        exact rt_some (HANS.out.symm.trans HK.out) HX.out.symm (by omega) (below_four HB2.out (Nat.le_refl _) _ _ _ _)
      · obtain ⟨hr2, _⟩ := dot_true hdot
        have hr3 : r = 46 := by rw [hr] at hr2; exact Option.some.inj hr2
        subst hr3
        have hc46 : ((46 : Nat) : Int) = 46 := rfl
        rw [hc46] at hc
        have HWF := Lib.hid (lng_more hod (by rw [HH0.out]; exact hdd0.trans hdot))
        clear hr hdot hdd0 hr2
        cases bn
        · go_wp2_with fail
          refine (HNX.out _).mono ?_
          rintro e w2 ⟨rfl, hb3⟩
          have HB0 := Lib.hid (HB2.out.trans (hb3.mono hle2))
          have HR0 := Lib.hid (HR2.out.below hb3)
          clear hb3
          go_wp2_with fail
          go_loopw [7, 8, 9, 10] (fun t x y _ wr => ∃ (pt : Nat) (b : Bool) (Y : ByteArray), t = .int .i64 (pt : Int) ∧ x = .string Y ∧ y = .bool b ∧ i ≤ pt ∧ pt ≤ n ∧ NamRel d (pt - i) b ∧ Below w.heap.size w wr ∧ Rc wr w.heap.size #[.int .i64 0, .string ⟨#[]⟩, .int .i64 0, .int .i64 0]) (fun t _ _ _ _ => n - (intOf t).toNat)
          case atStart => exact ⟨i + h0, _, _, rfl, rfl, rfl, by omega, by omega, by rw [Nat.add_sub_cancel_left]; exact HNS.out, HB0.out, HR0.out⟩
          case round =>
            obtain ⟨pt, b, Y0, rfl, rfl, rfl, hlo, hto, hrel, hbr, hrr⟩ := hrel
            have HREL := Lib.hid hrel
            have HBR := Lib.hid hbr
            have HRR := Lib.hid hrr
            have hszr := hbr.size
            clear hrel hbr hrr
            cases b
            · have hTx : ∀ (W : World), Below w.heap.size w W → Calls Tryz.prog 61 #[.slice (some ad) n c, .int .i64 (i : Int), .int .i64 (pt : Int)] W (StrSame (T (d.take (pt - i))) W) := by
                intro W hb
                have := HT.out W i pt hb (by omega) (by omega)
                rw [HD.out] at this
                exact this
              obtain ⟨Y, hY⟩ : ∃ Y, T (d.take (pt - i)) = Y := ⟨_, rfl⟩
              rw [hY] at hTx
              have HY := Lib.hid hY
              have HTX := Lib.hid hTx
              have hYs : Y.size = sz (d.take (pt - i)) := by rw [← hY, T_size]
              have HYS := Lib.hid hYs
              clear hY hTx hYs
              go_wp2_with fail
              refine (HTX.out _ HBR.out).mono ?_
              rintro e w' ⟨rfl, rfl⟩
              obtain ⟨⟨q0, q1, q2, q3⟩, f0, f1, f2, f3⟩ := HRR.out.cells
              go_wp2
              refine bodyPost_ret (results_cell_three rfl _ _ w.heap.size _ _ (0, 0) _ rfl (Rc.four HRR.out _ _ _ _) Tryz.underlying63 rfl (by kernel_rfl)) rfl ?_
              exact rt_none (HANS.out.symm.trans (nam_off HREL.out HWF.out)) (below_four HBR.out (Nat.le_refl _) _ _ _ _)
            · by_cases hlt : pt < n
              · obtain ⟨r, hr⟩ : ∃ r, l[pt]? = some r := ⟨_, List.getElem?_eq_getElem (by rw [HN.out]; exact hlt)⟩
                obtain ⟨ad2, hA, hc⟩ := cell_of (HSL.out.below (HBR.out.mono hB)) hr
                injection hA with hA; subst hA
                have hzl : (pt : Int) < (n : Int) := by omega
                obtain ⟨dot, hdot⟩ : ∃ b, dotAt l pt = b := ⟨_, rfl⟩
                have hdd0 : List.isPrefixOf [46] (d.drop (pt - i)) = dotAt l pt := by
                  rw [← HD.out, List.drop_drop, show i + (pt - i) = pt by omega]; rfl
                cases dot
                · have hr46 : ((r : Int) == 46) = false := by rw [beq_eq_false_iff_ne]; have := dot_false hdot hr; omega
                  have hdd : List.isPrefixOf [46] (d.drop (pt - i)) = false := hdd0.trans hdot
                  clear hr hdot hdd0
                  have hTx : ∀ (W : World), Below w.heap.size w W → Calls Tryz.prog 61 #[.slice (some ad) n c, .int .i64 (i : Int), .int .i64 (pt : Int)] W (StrSame (T (d.take (pt - i))) W) := by
                    intro W hb
                    have := HT.out W i pt hb (by omega) (by omega)
                    rw [HD.out] at this
                    exact this
                  obtain ⟨Y, hY⟩ : ∃ Y, T (d.take (pt - i)) = Y := ⟨_, rfl⟩
                  rw [hY] at hTx
                  have HY := Lib.hid hY
                  have HTX := Lib.hid hTx
                  have hYs : Y.size = sz (d.take (pt - i)) := by rw [← hY, T_size]
                  have HYS := Lib.hid hYs
                  clear hY hTx hYs
                  have hcn := lng_end HREL.out hdd
                  have hl1 : Y.size ≤ 128 → isLong (d.take (cnt lng d)) = true := by
                    intro h128
                    rw [hcn]
                    unfold isLong
                    rw [show (fun y => !wrd (T y) && nm (T y)) = pcs from rfl, HREL.out.ps, Bool.and_true, decide_eq_true_iff]
                    rw [← HYS.out]; exact h128
                  have hl2 : ¬ Y.size ≤ 128 → isLong (d.take (cnt lng d)) = false := by
                    intro h128
                    rw [hcn]
                    unfold isLong
                    rw [Bool.and_eq_false_iff]
                    left
                    rw [decide_eq_false_iff_not, ← HYS.out]; exact h128
                  have hf1 : ((Y.size : Int) ≤ 128) → ANS = some (⟨1, d.take (pt - i), 0⟩, pt - i) := fun h => by
                    rw [← HANS.out, nameT_long HWF.out (hl1 (by omega)), hcn]
                  have hf2 : ¬ ((Y.size : Int) ≤ 128) → ANS = none := fun h => by
                    rw [← HANS.out, nameT_not HWF.out (hl2 (by omega))]
                  have HF1 := Lib.hid hf1
                  have HF2 := Lib.hid hf2
                  clear hl1 hl2 hf1 hf2 hcn
                  go_wp2_with fail
                  refine (HTX.out _ HBR.out).mono ?_
                  rintro e w' ⟨rfl, rfl⟩
                  obtain ⟨⟨q0, q1, q2, q3⟩, f0, f1, f2, f3⟩ := HRR.out.cells
                  go_wp2
                  refine bodyPost_ret (results_cell_three rfl _ _ w.heap.size _ _ (0, 0) _ rfl (Rc.four HRR.out _ _ _ _) Tryz.underlying63 rfl (by kernel_rfl)) rfl ?_
                  exact rt_dec HF1.out (fun h => HF2.out (by omega)) HY.out.symm (by omega) (below_four HBR.out (Nat.le_refl _) _ _ _ _)
                · obtain ⟨hr2, hdd⟩ := dot_true hdot
                  have hr3 : r = 46 := by rw [hr] at hr2; exact Option.some.inj hr2
                  subst hr3
                  have hc46 : ((46 : Nat) : Int) = 46 := rfl
                  rw [hc46] at hc
                  have hd2 : d.drop (pt - i) = 46 :: l.drop (pt + 1) := by rw [← HD.out, List.drop_drop, show i + (pt - i) = pt by omega]; exact hdd
                  obtain ⟨h1, hh1⟩ : ∃ h, cnt inr (l.drop (pt + 1)) = h := ⟨_, rfl⟩
                  have hh1l := cnt_le inr (l.drop (pt + 1))
                  rw [List.length_drop, HN.out, hh1] at hh1l
                  have cH1 : ∀ (W : World), Below w.heap.size w W → Calls Tryz.prog 171 #[.slice (some ad) n c, .int .i64 ((pt : Int) + 1)] W (IntSame h1 W) := by
                    intro W hb
                    have := HH.out W (pt + 1) hb (by omega)
                    rw [hh1] at this
                    exact this
                  obtain ⟨Y, hY⟩ : ∃ Y, T ((l.drop (pt + 1)).take h1) = Y := ⟨_, rfl⟩
                  have cT1 : ∀ (W : World), Below w.heap.size w W → Calls Tryz.prog 61 #[.slice (some ad) n c, .int .i64 ((pt : Int) + 1), .int .i64 ((pt : Int) + 1 + (h1 : Int))] W (StrSame Y W) := by
                    intro W hb
                    have := HT.out W (pt + 1) (pt + 1 + h1) hb (by omega) (by omega)
                    rw [show pt + 1 + h1 - (pt + 1) = h1 by omega, hY] at this
                    exact this
                  have hYs : Y.size ≤ 1000000000 := by
                    rw [← hY]
                    refine HTS.out _ ?_
                    rw [List.length_take, List.length_drop, HN.out]
                    omega
                  have hnx : NamRel d (pt - i + 1 + h1) (!wrd Y && nm Y) := by
                    have := nam_next HREL.out hd2 (b := (!wrd Y && nm Y)) (by rw [hh1, ← hY]; rfl)
                    rw [hh1] at this
                    exact this
                  rw [show pt - i + 1 + h1 = pt + 1 + h1 - i by omega] at hnx
                  obtain ⟨bw1, hbw1⟩ : ∃ b, wrd Y = b := ⟨_, rfl⟩
                  obtain ⟨bn1, hbn1⟩ : ∃ b, nm Y = b := ⟨_, rfl⟩
                  have cWY := fun W => refWord Y W
                  have cNY := fun W => refName Y W hYs
                  rw [hbw1] at cWY hnx
                  rw [hbn1] at cNY hnx
                  have HNX1 := Lib.hid hnx
                  have HWY := Lib.hid cWY
                  have HNY := Lib.hid cNY
                  have HH1 := Lib.hid cH1
                  have HT1 := Lib.hid cT1
                  clear hr hdot hdd0 hr2 hdd hd2 hh1 hY hYs hnx hbw1 hbn1 cWY cNY cH1 cT1
                  cases bn1
                  · go_wp2_with fail
                    refine (HH1.out _ HBR.out).mono ?_
                    rintro e w' ⟨rfl, rfl⟩
                    go_wp2_with fail
                    refine (HT1.out _ HBR.out).mono ?_
                    rintro e w' ⟨rfl, rfl⟩
                    go_wp2_with fail
                    refine (HNY.out _).mono ?_
                    rintro e w5 ⟨rfl, hb5⟩
                    have HB5 := Lib.hid hb5
                    clear hb5
                    go_wp2_with fail
                    go_roundw
                    case rel => exact ⟨pt + 1 + h1, _, _, rfl, rfl, rfl, by omega, by omega, by simpa using HNX1.out, HBR.out.trans (HB5.out.mono hszr), HRR.out.below HB5.out⟩
                    case measure => simp [intOf]; omega
                  · go_wp2_with fail
                    refine (HH1.out _ HBR.out).mono ?_
                    rintro e w' ⟨rfl, rfl⟩
                    go_wp2_with fail
                    refine (HT1.out _ HBR.out).mono ?_
                    rintro e w' ⟨rfl, rfl⟩
                    go_wp2_with fail
                    refine (HNY.out _).mono ?_
                    rintro e w5 ⟨rfl, hb5⟩
                    have HB5 := Lib.hid hb5
                    have hsz5 := hb5.size
                    clear hb5
                    go_wp2_with fail
                    refine (HWY.out _).mono ?_
                    rintro e w6 ⟨rfl, hb6⟩
                    have HB6 := Lib.hid hb6
                    clear hb6
                    go_wp2_with fail
                    go_roundw
                    case rel => exact ⟨pt + 1 + h1, _, _, rfl, rfl, rfl, by omega, by omega, by simpa using HNX1.out, (HBR.out.trans (HB5.out.mono hszr)).trans (HB6.out.mono (by omega)), (HRR.out.below HB5.out).below HB6.out⟩
                    case measure => simp [intOf]; omega
              · have hzl : ¬ (pt : Int) < (n : Int) := by omega
                have hdd : List.isPrefixOf [46] (d.drop (pt - i)) = false := by
                  rw [← HD.out, List.drop_drop, List.drop_eq_nil_of_le (by rw [HN.out]; omega)]; rfl
                have hTx : ∀ (W : World), Below w.heap.size w W → Calls Tryz.prog 61 #[.slice (some ad) n c, .int .i64 (i : Int), .int .i64 (pt : Int)] W (StrSame (T (d.take (pt - i))) W) := by
                  intro W hb
                  have := HT.out W i pt hb (by omega) (by omega)
                  rw [HD.out] at this
                  exact this
                obtain ⟨Y, hY⟩ : ∃ Y, T (d.take (pt - i)) = Y := ⟨_, rfl⟩
                rw [hY] at hTx
                have HY := Lib.hid hY
                have HTX := Lib.hid hTx
                have hYs : Y.size = sz (d.take (pt - i)) := by rw [← hY, T_size]
                have HYS := Lib.hid hYs
                clear hY hTx hYs
                have hcn := lng_end HREL.out hdd
                have hl1 : Y.size ≤ 128 → isLong (d.take (cnt lng d)) = true := by
                  intro h128
                  rw [hcn]
                  unfold isLong
                  rw [show (fun y => !wrd (T y) && nm (T y)) = pcs from rfl, HREL.out.ps, Bool.and_true, decide_eq_true_iff]
                  rw [← HYS.out]; exact h128
                have hl2 : ¬ Y.size ≤ 128 → isLong (d.take (cnt lng d)) = false := by
                  intro h128
                  rw [hcn]
                  unfold isLong
                  rw [Bool.and_eq_false_iff]
                  left
                  rw [decide_eq_false_iff_not, ← HYS.out]; exact h128
                have hf1 : ((Y.size : Int) ≤ 128) → ANS = some (⟨1, d.take (pt - i), 0⟩, pt - i) := fun h => by
                  rw [← HANS.out, nameT_long HWF.out (hl1 (by omega)), hcn]
                have hf2 : ¬ ((Y.size : Int) ≤ 128) → ANS = none := fun h => by
                  rw [← HANS.out, nameT_not HWF.out (hl2 (by omega))]
                have HF1 := Lib.hid hf1
                have HF2 := Lib.hid hf2
                clear hl1 hl2 hf1 hf2 hcn
                go_wp2_with fail
                refine (HTX.out _ HBR.out).mono ?_
                rintro e w' ⟨rfl, rfl⟩
                obtain ⟨⟨q0, q1, q2, q3⟩, f0, f1, f2, f3⟩ := HRR.out.cells
                go_wp2
                refine bodyPost_ret (results_cell_three rfl _ _ w.heap.size _ _ (0, 0) _ rfl (Rc.four HRR.out _ _ _ _) Tryz.underlying63 rfl (by kernel_rfl)) rfl ?_
                exact rt_dec HF1.out (fun h => HF2.out (by omega)) HY.out.symm (by omega) (below_four HBR.out (Nat.le_refl _) _ _ _ _)
        · go_wp2_with fail
          refine (HNX.out _).mono ?_
          rintro e w2 ⟨rfl, hb3⟩
          have hle3 := hb3.size
          go_wp2_with fail
          refine (HWX.out _).mono ?_
          rintro e w3 ⟨rfl, hb4⟩
          have HB0 := Lib.hid ((HB2.out.trans (hb3.mono hle2)).trans (hb4.mono (by omega)))
          have HR0 := Lib.hid ((HR2.out.below hb3).below hb4)
          clear hb3 hb4
          go_wp2_with fail
          go_loopw [7, 8, 9, 10] (fun t x y _ wr => ∃ (pt : Nat) (b : Bool) (Y : ByteArray), t = .int .i64 (pt : Int) ∧ x = .string Y ∧ y = .bool b ∧ i ≤ pt ∧ pt ≤ n ∧ NamRel d (pt - i) b ∧ Below w.heap.size w wr ∧ Rc wr w.heap.size #[.int .i64 0, .string ⟨#[]⟩, .int .i64 0, .int .i64 0]) (fun t _ _ _ _ => n - (intOf t).toNat)
          case atStart => exact ⟨i + h0, _, _, rfl, rfl, rfl, by omega, by omega, by rw [Nat.add_sub_cancel_left]; exact HNS.out, HB0.out, HR0.out⟩
          case round =>
            obtain ⟨pt, b, Y0, rfl, rfl, rfl, hlo, hto, hrel, hbr, hrr⟩ := hrel
            have HREL := Lib.hid hrel
            have HBR := Lib.hid hbr
            have HRR := Lib.hid hrr
            have hszr := hbr.size
            clear hrel hbr hrr
            cases b
            · have hTx : ∀ (W : World), Below w.heap.size w W → Calls Tryz.prog 61 #[.slice (some ad) n c, .int .i64 (i : Int), .int .i64 (pt : Int)] W (StrSame (T (d.take (pt - i))) W) := by
                intro W hb
                have := HT.out W i pt hb (by omega) (by omega)
                rw [HD.out] at this
                exact this
              obtain ⟨Y, hY⟩ : ∃ Y, T (d.take (pt - i)) = Y := ⟨_, rfl⟩
              rw [hY] at hTx
              have HY := Lib.hid hY
              have HTX := Lib.hid hTx
              have hYs : Y.size = sz (d.take (pt - i)) := by rw [← hY, T_size]
              have HYS := Lib.hid hYs
              clear hY hTx hYs
              go_wp2_with fail
              refine (HTX.out _ HBR.out).mono ?_
              rintro e w' ⟨rfl, rfl⟩
              obtain ⟨⟨q0, q1, q2, q3⟩, f0, f1, f2, f3⟩ := HRR.out.cells
              go_wp2
              refine bodyPost_ret (results_cell_three rfl _ _ w.heap.size _ _ (0, 0) _ rfl (Rc.four HRR.out _ _ _ _) Tryz.underlying63 rfl (by kernel_rfl)) rfl ?_
              exact rt_none (HANS.out.symm.trans (nam_off HREL.out HWF.out)) (below_four HBR.out (Nat.le_refl _) _ _ _ _)
            · by_cases hlt : pt < n
              · obtain ⟨r, hr⟩ : ∃ r, l[pt]? = some r := ⟨_, List.getElem?_eq_getElem (by rw [HN.out]; exact hlt)⟩
                obtain ⟨ad2, hA, hc⟩ := cell_of (HSL.out.below (HBR.out.mono hB)) hr
                injection hA with hA; subst hA
                have hzl : (pt : Int) < (n : Int) := by omega
                obtain ⟨dot, hdot⟩ : ∃ b, dotAt l pt = b := ⟨_, rfl⟩
                have hdd0 : List.isPrefixOf [46] (d.drop (pt - i)) = dotAt l pt := by
                  rw [← HD.out, List.drop_drop, show i + (pt - i) = pt by omega]; rfl
                cases dot
                · have hr46 : ((r : Int) == 46) = false := by rw [beq_eq_false_iff_ne]; have := dot_false hdot hr; omega
                  have hdd : List.isPrefixOf [46] (d.drop (pt - i)) = false := hdd0.trans hdot
                  clear hr hdot hdd0
                  have hTx : ∀ (W : World), Below w.heap.size w W → Calls Tryz.prog 61 #[.slice (some ad) n c, .int .i64 (i : Int), .int .i64 (pt : Int)] W (StrSame (T (d.take (pt - i))) W) := by
                    intro W hb
                    have := HT.out W i pt hb (by omega) (by omega)
                    rw [HD.out] at this
                    exact this
                  obtain ⟨Y, hY⟩ : ∃ Y, T (d.take (pt - i)) = Y := ⟨_, rfl⟩
                  rw [hY] at hTx
                  have HY := Lib.hid hY
                  have HTX := Lib.hid hTx
                  have hYs : Y.size = sz (d.take (pt - i)) := by rw [← hY, T_size]
                  have HYS := Lib.hid hYs
                  clear hY hTx hYs
                  have hcn := lng_end HREL.out hdd
                  have hl1 : Y.size ≤ 128 → isLong (d.take (cnt lng d)) = true := by
                    intro h128
                    rw [hcn]
                    unfold isLong
                    rw [show (fun y => !wrd (T y) && nm (T y)) = pcs from rfl, HREL.out.ps, Bool.and_true, decide_eq_true_iff]
                    rw [← HYS.out]; exact h128
                  have hl2 : ¬ Y.size ≤ 128 → isLong (d.take (cnt lng d)) = false := by
                    intro h128
                    rw [hcn]
                    unfold isLong
                    rw [Bool.and_eq_false_iff]
                    left
                    rw [decide_eq_false_iff_not, ← HYS.out]; exact h128
                  have hf1 : ((Y.size : Int) ≤ 128) → ANS = some (⟨1, d.take (pt - i), 0⟩, pt - i) := fun h => by
                    rw [← HANS.out, nameT_long HWF.out (hl1 (by omega)), hcn]
                  have hf2 : ¬ ((Y.size : Int) ≤ 128) → ANS = none := fun h => by
                    rw [← HANS.out, nameT_not HWF.out (hl2 (by omega))]
                  have HF1 := Lib.hid hf1
                  have HF2 := Lib.hid hf2
                  clear hl1 hl2 hf1 hf2 hcn
                  go_wp2_with fail
                  refine (HTX.out _ HBR.out).mono ?_
                  rintro e w' ⟨rfl, rfl⟩
                  obtain ⟨⟨q0, q1, q2, q3⟩, f0, f1, f2, f3⟩ := HRR.out.cells
                  go_wp2
                  refine bodyPost_ret (results_cell_three rfl _ _ w.heap.size _ _ (0, 0) _ rfl (Rc.four HRR.out _ _ _ _) Tryz.underlying63 rfl (by kernel_rfl)) rfl ?_
                  exact rt_dec HF1.out (fun h => HF2.out (by omega)) HY.out.symm (by omega) (below_four HBR.out (Nat.le_refl _) _ _ _ _)
                · obtain ⟨hr2, hdd⟩ := dot_true hdot
                  have hr3 : r = 46 := by rw [hr] at hr2; exact Option.some.inj hr2
                  subst hr3
                  have hc46 : ((46 : Nat) : Int) = 46 := rfl
                  rw [hc46] at hc
                  have hd2 : d.drop (pt - i) = 46 :: l.drop (pt + 1) := by rw [← HD.out, List.drop_drop, show i + (pt - i) = pt by omega]; exact hdd
                  obtain ⟨h1, hh1⟩ : ∃ h, cnt inr (l.drop (pt + 1)) = h := ⟨_, rfl⟩
                  have hh1l := cnt_le inr (l.drop (pt + 1))
                  rw [List.length_drop, HN.out, hh1] at hh1l
                  have cH1 : ∀ (W : World), Below w.heap.size w W → Calls Tryz.prog 171 #[.slice (some ad) n c, .int .i64 ((pt : Int) + 1)] W (IntSame h1 W) := by
                    intro W hb
                    have := HH.out W (pt + 1) hb (by omega)
                    rw [hh1] at this
                    exact this
                  obtain ⟨Y, hY⟩ : ∃ Y, T ((l.drop (pt + 1)).take h1) = Y := ⟨_, rfl⟩
                  have cT1 : ∀ (W : World), Below w.heap.size w W → Calls Tryz.prog 61 #[.slice (some ad) n c, .int .i64 ((pt : Int) + 1), .int .i64 ((pt : Int) + 1 + (h1 : Int))] W (StrSame Y W) := by
                    intro W hb
                    have := HT.out W (pt + 1) (pt + 1 + h1) hb (by omega) (by omega)
                    rw [show pt + 1 + h1 - (pt + 1) = h1 by omega, hY] at this
                    exact this
                  have hYs : Y.size ≤ 1000000000 := by
                    rw [← hY]
                    refine HTS.out _ ?_
                    rw [List.length_take, List.length_drop, HN.out]
                    omega
                  have hnx : NamRel d (pt - i + 1 + h1) (!wrd Y && nm Y) := by
                    have := nam_next HREL.out hd2 (b := (!wrd Y && nm Y)) (by rw [hh1, ← hY]; rfl)
                    rw [hh1] at this
                    exact this
                  rw [show pt - i + 1 + h1 = pt + 1 + h1 - i by omega] at hnx
                  obtain ⟨bw1, hbw1⟩ : ∃ b, wrd Y = b := ⟨_, rfl⟩
                  obtain ⟨bn1, hbn1⟩ : ∃ b, nm Y = b := ⟨_, rfl⟩
                  have cWY := fun W => refWord Y W
                  have cNY := fun W => refName Y W hYs
                  rw [hbw1] at cWY hnx
                  rw [hbn1] at cNY hnx
                  have HNX1 := Lib.hid hnx
                  have HWY := Lib.hid cWY
                  have HNY := Lib.hid cNY
                  have HH1 := Lib.hid cH1
                  have HT1 := Lib.hid cT1
                  clear hr hdot hdd0 hr2 hdd hd2 hh1 hY hYs hnx hbw1 hbn1 cWY cNY cH1 cT1
                  cases bn1
                  · go_wp2_with fail
                    refine (HH1.out _ HBR.out).mono ?_
                    rintro e w' ⟨rfl, rfl⟩
                    go_wp2_with fail
                    refine (HT1.out _ HBR.out).mono ?_
                    rintro e w' ⟨rfl, rfl⟩
                    go_wp2_with fail
                    refine (HNY.out _).mono ?_
                    rintro e w5 ⟨rfl, hb5⟩
                    have HB5 := Lib.hid hb5
                    clear hb5
                    go_wp2_with fail
                    go_roundw
                    case rel => exact ⟨pt + 1 + h1, _, _, rfl, rfl, rfl, by omega, by omega, by simpa using HNX1.out, HBR.out.trans (HB5.out.mono hszr), HRR.out.below HB5.out⟩
                    case measure => simp [intOf]; omega
                  · go_wp2_with fail
                    refine (HH1.out _ HBR.out).mono ?_
                    rintro e w' ⟨rfl, rfl⟩
                    go_wp2_with fail
                    refine (HT1.out _ HBR.out).mono ?_
                    rintro e w' ⟨rfl, rfl⟩
                    go_wp2_with fail
                    refine (HNY.out _).mono ?_
                    rintro e w5 ⟨rfl, hb5⟩
                    have HB5 := Lib.hid hb5
                    have hsz5 := hb5.size
                    clear hb5
                    go_wp2_with fail
                    refine (HWY.out _).mono ?_
                    rintro e w6 ⟨rfl, hb6⟩
                    have HB6 := Lib.hid hb6
                    clear hb6
                    go_wp2_with fail
                    go_roundw
                    case rel => exact ⟨pt + 1 + h1, _, _, rfl, rfl, rfl, by omega, by omega, by simpa using HNX1.out, (HBR.out.trans (HB5.out.mono hszr)).trans (HB6.out.mono (by omega)), (HRR.out.below HB5.out).below HB6.out⟩
                    case measure => simp [intOf]; omega
              · have hzl : ¬ (pt : Int) < (n : Int) := by omega
                have hdd : List.isPrefixOf [46] (d.drop (pt - i)) = false := by
                  rw [← HD.out, List.drop_drop, List.drop_eq_nil_of_le (by rw [HN.out]; omega)]; rfl
                have hTx : ∀ (W : World), Below w.heap.size w W → Calls Tryz.prog 61 #[.slice (some ad) n c, .int .i64 (i : Int), .int .i64 (pt : Int)] W (StrSame (T (d.take (pt - i))) W) := by
                  intro W hb
                  have := HT.out W i pt hb (by omega) (by omega)
                  rw [HD.out] at this
                  exact this
                obtain ⟨Y, hY⟩ : ∃ Y, T (d.take (pt - i)) = Y := ⟨_, rfl⟩
                rw [hY] at hTx
                have HY := Lib.hid hY
                have HTX := Lib.hid hTx
                have hYs : Y.size = sz (d.take (pt - i)) := by rw [← hY, T_size]
                have HYS := Lib.hid hYs
                clear hY hTx hYs
                have hcn := lng_end HREL.out hdd
                have hl1 : Y.size ≤ 128 → isLong (d.take (cnt lng d)) = true := by
                  intro h128
                  rw [hcn]
                  unfold isLong
                  rw [show (fun y => !wrd (T y) && nm (T y)) = pcs from rfl, HREL.out.ps, Bool.and_true, decide_eq_true_iff]
                  rw [← HYS.out]; exact h128
                have hl2 : ¬ Y.size ≤ 128 → isLong (d.take (cnt lng d)) = false := by
                  intro h128
                  rw [hcn]
                  unfold isLong
                  rw [Bool.and_eq_false_iff]
                  left
                  rw [decide_eq_false_iff_not, ← HYS.out]; exact h128
                have hf1 : ((Y.size : Int) ≤ 128) → ANS = some (⟨1, d.take (pt - i), 0⟩, pt - i) := fun h => by
                  rw [← HANS.out, nameT_long HWF.out (hl1 (by omega)), hcn]
                have hf2 : ¬ ((Y.size : Int) ≤ 128) → ANS = none := fun h => by
                  rw [← HANS.out, nameT_not HWF.out (hl2 (by omega))]
                have HF1 := Lib.hid hf1
                have HF2 := Lib.hid hf2
                clear hl1 hl2 hf1 hf2 hcn
                go_wp2_with fail
                refine (HTX.out _ HBR.out).mono ?_
                rintro e w' ⟨rfl, rfl⟩
                obtain ⟨⟨q0, q1, q2, q3⟩, f0, f1, f2, f3⟩ := HRR.out.cells
                go_wp2
                refine bodyPost_ret (results_cell_three rfl _ _ w.heap.size _ _ (0, 0) _ rfl (Rc.four HRR.out _ _ _ _) Tryz.underlying63 rfl (by kernel_rfl)) rfl ?_
                exact rt_dec HF1.out (fun h => HF2.out (by omega)) HY.out.symm (by omega) (below_four HBR.out (Nat.le_refl _) _ _ _ _)
    · have hz : ((i : Int) + (h0 : Int) == (n : Int)) = true := by rw [beq_iff_eq]; omega
      have hdd : List.isPrefixOf [46] (d.drop h0) = false := by
        rw [← HD.out, List.drop_drop, List.drop_eq_nil_of_le (by rw [HN.out]; omega)]; rfl
      obtain hcn := lng_end HNS.out hdd
      have hk := nameT_key (d := d) (by rw [hcn, HX.out]; exact HBW.out)
      rw [hcn] at hk
      have HK := Lib.hid hk
      clear hcn hk hdd
      go_wp2
      refine bodyPost_ret (results_cell_three rfl _ _ w.heap.size _ _ (0, 0) _ rfl (Rc.four HR2.out _ _ _ _) Tryz.underlying63 rfl (by kernel_rfl)) rfl ?_
      exact rt_some (HANS.out.symm.trans HK.out) HX.out.symm (by omega) (below_four HB2.out (Nat.le_refl _) _ _ _ _)
end Go.Proofs.YthonaeigacfmbaaGreatDoor.B
