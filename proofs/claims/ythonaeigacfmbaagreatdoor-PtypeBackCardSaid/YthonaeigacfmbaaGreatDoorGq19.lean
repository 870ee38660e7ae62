/-
  The document's Text and within: a type's text.
-/
import Derived.Test.YthonaeigacfmbaaGreatDoorGq15
import Derived.Test.YthonaeigacfmbaaGreatDoorGq18
namespace Go.Proofs.YthonaeigacfmbaaGreatDoor
open Go.RowKit

def SrP (s : ByteArray) (W : World) (e : Ending) (w' : World) : Prop := e = .returned (.string s) ∧ Up W w'
theorem sr_ret {a b : ByteArray} {W w' : World} (h : a = b) (u : Up W w') : SrP a W (.returned (.string b)) w' := ⟨by rw [h], u⟩
def TxtAt (t : Tr) : Prop := ∀ (W w : World) (v : Value), HasT W v (some t) → Up W w → Calls Tryz.prog 69 #[v] w (SrP (tB (tkT t)) W)
set_option maxHeartbeats 1600000 in
set_option maxRecDepth 100000 in
theorem within_any {t : Tr} (h : TxtAt t) (hne : tkT t ≠ []) (hz : (tB (tkT t)).size ≤ 1000000000) (b : Bool) (W w : World) (v : Value) (hv : HasT W v (some t)) (hu : Up W w) :
    Calls Tryz.prog 114 #[v, .bool b] w (SrP (tB (wi b (tkT t))) W) := by
  have cT := h W w v hv hu
  cases b with
  | false =>
    have e : wi false (tkT t) = tkT t := rfl
    rw [e]
    go_enter Tryz.func114, Tryz.ntmps114
    go_wp2_with fail
    refine cT.mono ?_
    rintro e w1 ⟨rfl, u1⟩
    go_wp2_with fail
    go_ret
    exact sr_ret rfl u1
  | true =>
    rw [tB_wi hne]
    obtain ⟨s, hs⟩ : ∃ s, tB (tkT t) = s := ⟨_, rfl⟩
    rw [hs] at cT hz ⊢
    go_enter Tryz.func114, Tryz.ntmps114
    go_wp2_with fail
    refine cT.mono ?_
    rintro e w1 ⟨rfl, u1⟩
    go_wp2_with fail
    go_ret
    exact sr_ret rfl u1
set_option maxHeartbeats 3200000 in
set_option maxRecDepth 100000 in
theorem text_leaf (k : Int) (hk : k = 1 ∨ k = 2 ∨ k = 3) : TxtAt (nd k nob .nil) := fun W w v hv hu => by
  obtain ⟨q, p, A, c, rfl, hq, c0, c1, c2, c3, c4, hc, hkid⟩ := InT.open hv
  have hqw : q < w.heap.size := Nat.lt_of_lt_of_le hq hu.size
  have k0 : w.cell? ⟨q, p, none⟩ = some (.int .i64 k) := hu.cell c0
  clear c0 c1 c2 c3 c4 hc hkid hv
  rcases hk with rfl | rfl | rfl
  all_goals
    go_enter Tryz.func69, Tryz.ntmps69
    go_wp2_with fail
    go_ret
    exact sr_ret rfl (hu.alloc _)
set_option maxHeartbeats 3200000 in
set_option maxRecDepth 100000 in
theorem text_name (s : ByteArray) : TxtAt (nd 4 s .nil) := fun W w v hv hu => by
  obtain ⟨q, p, A, c, rfl, hq, c0, c1, c2, c3, c4, hc, hkid⟩ := InT.open hv
  have u1 : Up W (w.alloc (.cells #[.string ⟨#[]⟩, .string kInt, .string kBool, .string kUnit] 9)) := hu.alloc _
  have hqw : q < w.heap.size := Nat.lt_of_lt_of_le hq hu.size
  have k0 : w.cell? ⟨q, p, none⟩ = some (.int .i64 4) := hu.cell c0
  have k2 : w.cell? ⟨q, p + 2, none⟩ = some (.string s) := hu.cell c2
  clear c0 c1 c2 c3 c4 hc hkid hv
  have e : tB (tkT (nd 4 s .nil)) = s := tB_one (nmT s)
  rw [e]
  go_enter Tryz.func69, Tryz.ntmps69
  go_wp2_with fail
  go_ret
  exact sr_ret rfl u1
set_option maxHeartbeats 6400000 in
set_option maxRecDepth 100000 in
theorem text_5 (a b : Tr) (hA : TxtAt a) (hB : TxtAt b) (na : tkT a ≠ []) (nb : tkT b ≠ []) (za : (tB (tkT a)).size ≤ 1000000000) (zb : (tB (tkT b)).size ≤ 1000000000) : TxtAt (nd 5 nob (fr2 a b)) := fun W w v hv hu => by
  obtain ⟨q, p, A, c, rfl, hq, c0, c1, c2, c3, c4, hc, hkid⟩ := InT.open hv
  obtain ⟨kb, ko, rfl, hkb, ⟨va, ca, ia⟩, ⟨vb, cb, ib⟩, -⟩ := hkid (by show 0 < 2; omega)
  have hqw : q < w.heap.size := Nat.lt_of_lt_of_le hq hu.size
  have k0 : w.cell? ⟨q, p, none⟩ = some (.int .i64 5) := hu.cell c0
  have e0 := tk_two5 a b
  rw [e0, tB_mid kArrow (wi_ne na) nb]
  obtain ⟨s2, hs2⟩ : ∃ s, tB (tkT b) = s := ⟨_, rfl⟩
  have cB : ∀ u : Upw W, Calls Tryz.prog 69 #[vb] u.w fun e w' => e = .returned (.string s2) ∧ Up W w' := fun u => by rw [← hs2]; exact hB W u.w vb ib u.h
  rw [hs2] at zb ⊢
  obtain ⟨xa, fa⟩ := a
  obtain ⟨b5, hb5⟩ : ∃ d, is5 xa = d := ⟨_, rfl⟩
  have hz1 : (tB (wi b5 (tkT (xa, fa)))).size ≤ 1000000100 := by
    cases b5 with
    | false => exact Nat.le_trans za (by omega)
    | true => rw [tB_wi na]; simp only [ByteArray.size_append]; show 2 + _ + 2 ≤ _; omega
  have hb5' : is5 ((xa, fa) : Tr).1 = b5 := hb5
  rw [hb5']
  obtain ⟨s1, hs1⟩ : ∃ s, tB (wi b5 (tkT (xa, fa))) = s := ⟨_, rfl⟩
  have cA : ∀ u : Upw W, Calls Tryz.prog 114 #[va, .bool b5] u.w fun e w' => e = .returned (.string s1) ∧ Up W w' := fun u => by rw [← hs1]; exact within_any hA na za b5 W u.w va ia u.h
  rw [hs1] at hz1 ⊢
  obtain ⟨qa, pa, Aa, ca', rfl, hqa, d0, -⟩ := InT.open ia
  obtain ⟨qb, pb, rfl⟩ := InT.ptr ib
  have k4u : ∀ u : Upw W, u.w.cell? ⟨q, p + 4, none⟩ = some (.slice (some ⟨kb, ko, none⟩) 2 c) := Upw.cell c4
  have kau : ∀ u : Upw W, u.w.cell? ⟨kb, ko, none⟩ = some (.pointer (some ⟨qa, pa, none⟩)) := Upw.cell ca
  have kbu : ∀ u : Upw W, u.w.cell? ⟨kb, ko + 1, none⟩ = some (.pointer (some ⟨qb, pb, none⟩)) := Upw.cell cb
  have dau : ∀ u : Upw W, u.w.cell? ⟨qa, pa, none⟩ = some (.int .i64 xa.k) := Upw.cell d0
  have CA := Lib.hid cA
  have CB := Lib.hid cB
  clear c0 c1 c2 c3 c4 hkid hv ia ib ca cb d0 hb5' hs1 hs2 e0 hA hB za cA cB na nb
  have HSS : Hid (s1 ++ (⟨#[32]⟩ ++ kArrow ++ ⟨#[32]⟩) ++ s2 = s1 ++ ⟨#[32, 45, 62, 32]⟩ ++ s2) := Lib.hid rfl
  rw [HSS.out]
  have U1 := Lib.hid (hu.alloc (.cells #[.string ⟨#[]⟩, .string kInt, .string kBool, .string kUnit] 9))
  cases b5 with
  | false =>
    have h5 : (xa.k == 5) = false := by rw [beq_eq_false_iff_ne]; exact of_decide_eq_false hb5
    go_enter Tryz.func69, Tryz.ntmps69
    go_wp2_with fail
    refine wp_region_up (W := W) U1.out (by kernel_rfl) (by kernel_rfl) ?_
    repeat (go_big_quiet_step (first
      | (go_at_call 114; exact Calls.upw (CA.out (by assumption : Upw W)))
      | (go_at_call 69; exact Calls.upw (CB.out (by assumption : Upw W)))))
    refine wpQuiet_nil ?_
    rintro _ ⟨⟨w9, u9⟩, rfl⟩
    go_wp2_with fail
    go_ret
    exact sr_ret rfl u9
  | true =>
    have h5 : (xa.k == 5) = true := by rw [beq_iff_eq]; exact of_decide_eq_true hb5
    go_enter Tryz.func69, Tryz.ntmps69
    go_wp2_with fail
    refine wp_region_up (W := W) U1.out (by kernel_rfl) (by kernel_rfl) ?_
    repeat (go_big_quiet_step (first
      | (go_at_call 114; exact Calls.upw (CA.out (by assumption : Upw W)))
      | (go_at_call 69; exact Calls.upw (CB.out (by assumption : Upw W)))))
    refine wpQuiet_nil ?_
    rintro _ ⟨⟨w9, u9⟩, rfl⟩
    go_wp2_with fail
    go_ret
    exact sr_ret rfl u9
theorem is56_5 {x : Nod} (h : x.k = 5) : is56 x = true := by unfold is56; rw [decide_eq_true h]; rfl
theorem is56_6 {x : Nod} (h : x.k = 6) : is56 x = true := by unfold is56; rw [decide_eq_true h, Bool.or_true]
theorem is56_no {x : Nod} (h : ¬ x.k = 5) (h' : ¬ x.k = 6) : is56 x = false := by unfold is56; rw [decide_eq_false h, decide_eq_false h']; rfl
theorem wi_sz {ts : List Tk} (b : Bool) (hn : ts ≠ []) (h : (tB ts).size ≤ 1000000000) : (tB (wi b ts)).size ≤ 1000000100 := by
  cases b with
  | false => exact Nat.le_trans h (by omega)
  | true => rw [tB_wi hn]; simp only [ByteArray.size_append]; show 2 + _ + 2 ≤ _; omega
set_option maxHeartbeats 12800000 in
set_option maxRecDepth 100000 in
theorem text_6 (a b : Tr) (hA : TxtAt a) (hB : TxtAt b) (na : tkT a ≠ []) (nb : tkT b ≠ []) (za : (tB (tkT a)).size ≤ 1000000000) (zb : (tB (tkT b)).size ≤ 1000000000) : TxtAt (nd 6 nob (fr2 a b)) := fun W w v hv hu => by
  obtain ⟨q, p, A, c, rfl, hq, c0, c1, c2, c3, c4, hc, hkid⟩ := InT.open hv
  obtain ⟨kb, ko, rfl, hkb, ⟨va, ca, ia⟩, ⟨vb, cb, ib⟩, -⟩ := hkid (by show 0 < 2; omega)
  have hqw : q < w.heap.size := Nat.lt_of_lt_of_le hq hu.size
  have k0 : w.cell? ⟨q, p, none⟩ = some (.int .i64 6) := hu.cell c0
  have e0 := tk_two6 a b
  rw [e0, tB_mid kStar (wi_ne na) (wi_ne nb)]
  obtain ⟨xa, fa⟩ := a
  obtain ⟨xb, fb⟩ := b
  obtain ⟨ba, hba⟩ : ∃ d, is56 xa = d := ⟨_, rfl⟩
  obtain ⟨bb, hbb⟩ : ∃ d, is5 xb = d := ⟨_, rfl⟩
  have hba' : is56 ((xa, fa) : Tr).1 = ba := hba
  have hbb' : is5 ((xb, fb) : Tr).1 = bb := hbb
  rw [hba', hbb']
  have z1 := wi_sz ba na za
  have z2 := wi_sz bb nb zb
  obtain ⟨s1, hs1⟩ : ∃ s, tB (wi ba (tkT (xa, fa))) = s := ⟨_, rfl⟩
  obtain ⟨s2, hs2⟩ : ∃ s, tB (wi bb (tkT (xb, fb))) = s := ⟨_, rfl⟩
  have cA : ∀ u : Upw W, Calls Tryz.prog 114 #[va, .bool ba] u.w fun e w' => e = .returned (.string s1) ∧ Up W w' := fun u => by rw [← hs1]; exact within_any hA na za ba W u.w va ia u.h
  have cB : ∀ u : Upw W, Calls Tryz.prog 114 #[vb, .bool bb] u.w fun e w' => e = .returned (.string s2) ∧ Up W w' := fun u => by rw [← hs2]; exact within_any hB nb zb bb W u.w vb ib u.h
  rw [hs1] at z1 ⊢
  rw [hs2] at z2 ⊢
  obtain ⟨qa, pa, Aa, ca', rfl, hqa, d0, -⟩ := InT.open ia
  obtain ⟨qb, pb, Ab, cb', rfl, hqb, f0, -⟩ := InT.open ib
  have k4u : ∀ u : Upw W, u.w.cell? ⟨q, p + 4, none⟩ = some (.slice (some ⟨kb, ko, none⟩) 2 c) := Upw.cell c4
  have kau : ∀ u : Upw W, u.w.cell? ⟨kb, ko, none⟩ = some (.pointer (some ⟨qa, pa, none⟩)) := Upw.cell ca
  have kbu : ∀ u : Upw W, u.w.cell? ⟨kb, ko + 1, none⟩ = some (.pointer (some ⟨qb, pb, none⟩)) := Upw.cell cb
  have dau : ∀ u : Upw W, u.w.cell? ⟨qa, pa, none⟩ = some (.int .i64 xa.k) := Upw.cell d0
  have dbu : ∀ u : Upw W, u.w.cell? ⟨qb, pb, none⟩ = some (.int .i64 xb.k) := Upw.cell f0
  have CA := Lib.hid cA
  have CB := Lib.hid cB
  clear c0 c1 c2 c3 c4 hkid hv ia ib ca cb d0 f0 hba' hbb' hs1 hs2 e0 hA hB za zb cA cB na nb
  have HSS : Hid (s1 ++ (⟨#[32]⟩ ++ kStar ++ ⟨#[32]⟩) ++ s2 = s1 ++ ⟨#[32, 42, 32]⟩ ++ s2) := Lib.hid rfl
  rw [HSS.out]
  have U1 := Lib.hid (hu.alloc (.cells #[.string ⟨#[]⟩, .string kInt, .string kBool, .string kUnit] 9))
  by_cases h5 : xa.k = 5
  · have e5 : (xa.k == 5) = true := by rw [beq_iff_eq]; exact h5
    obtain rfl : ba = true := by rw [← hba]; exact is56_5 h5
    clear h5 hba
    cases bb with
    | false =>
      have hb5 : (xb.k == 5) = false := by rw [beq_eq_false_iff_ne]; exact of_decide_eq_false hbb
      go_enter Tryz.func69, Tryz.ntmps69
      go_wp2_with fail
      refine wp_region_up (W := W) U1.out (by kernel_rfl) (by kernel_rfl) ?_
      repeat (go_big_quiet_step (fail))
      refine wpQuiet_nil ?_
      rintro _ ⟨⟨w8, u8⟩, rfl⟩
      go_wp2_with fail
      refine wp_region_up (W := W) u8 (by kernel_rfl) (by kernel_rfl) ?_
      iterate 13 (go_big_quiet_step (fail))
      go_big_quiet_step (first | (go_at_call 114; exact Calls.upw (CA.out (by assumption : Upw W))))
      iterate 7 (go_big_quiet_step (fail))
      go_big_quiet_step (first | (go_at_call 114; exact Calls.upw (CB.out (by assumption : Upw W))))
      repeat (go_big_quiet_step (fail))
      refine wpQuiet_nil ?_
      rintro _ ⟨⟨w9, u9⟩, rfl⟩
      go_wp2_with fail
      go_ret
      exact sr_ret rfl u9
    | true =>
      have hb5 : (xb.k == 5) = true := by rw [beq_iff_eq]; exact of_decide_eq_true hbb
      go_enter Tryz.func69, Tryz.ntmps69
      go_wp2_with fail
      refine wp_region_up (W := W) U1.out (by kernel_rfl) (by kernel_rfl) ?_
      repeat (go_big_quiet_step (fail))
      refine wpQuiet_nil ?_
      rintro _ ⟨⟨w8, u8⟩, rfl⟩
      go_wp2_with fail
      refine wp_region_up (W := W) u8 (by kernel_rfl) (by kernel_rfl) ?_
      iterate 13 (go_big_quiet_step (fail))
      go_big_quiet_step (first | (go_at_call 114; exact Calls.upw (CA.out (by assumption : Upw W))))
      iterate 7 (go_big_quiet_step (fail))
      go_big_quiet_step (first | (go_at_call 114; exact Calls.upw (CB.out (by assumption : Upw W))))
      repeat (go_big_quiet_step (fail))
      refine wpQuiet_nil ?_
      rintro _ ⟨⟨w9, u9⟩, rfl⟩
      go_wp2_with fail
      go_ret
      exact sr_ret rfl u9
  · by_cases h6 : xa.k = 6
    · have e5 : (xa.k == 5) = false := by rw [beq_eq_false_iff_ne]; exact h5
      have e6 : (xa.k == 6) = true := by rw [beq_iff_eq]; exact h6
      obtain rfl : ba = true := by rw [← hba]; exact is56_6 h6
      clear h5 h6 hba
      cases bb with
      | false =>
        have hb5 : (xb.k == 5) = false := by rw [beq_eq_false_iff_ne]; exact of_decide_eq_false hbb
        go_enter Tryz.func69, Tryz.ntmps69
        go_wp2_with fail
        refine wp_region_up (W := W) U1.out (by kernel_rfl) (by kernel_rfl) ?_
        repeat (go_big_quiet_step (fail))
        refine wpQuiet_nil ?_
        rintro _ ⟨⟨w8, u8⟩, rfl⟩
        go_wp2_with fail
        refine wp_region_up (W := W) u8 (by kernel_rfl) (by kernel_rfl) ?_
        iterate 13 (go_big_quiet_step (fail))
        go_big_quiet_step (first | (go_at_call 114; exact Calls.upw (CA.out (by assumption : Upw W))))
        iterate 7 (go_big_quiet_step (fail))
        go_big_quiet_step (first | (go_at_call 114; exact Calls.upw (CB.out (by assumption : Upw W))))
        repeat (go_big_quiet_step (fail))
        refine wpQuiet_nil ?_
        rintro _ ⟨⟨w9, u9⟩, rfl⟩
        go_wp2_with fail
        go_ret
        exact sr_ret rfl u9
      | true =>
        have hb5 : (xb.k == 5) = true := by rw [beq_iff_eq]; exact of_decide_eq_true hbb
        go_enter Tryz.func69, Tryz.ntmps69
        go_wp2_with fail
        refine wp_region_up (W := W) U1.out (by kernel_rfl) (by kernel_rfl) ?_
        repeat (go_big_quiet_step (fail))
        refine wpQuiet_nil ?_
        rintro _ ⟨⟨w8, u8⟩, rfl⟩
        go_wp2_with fail
        refine wp_region_up (W := W) u8 (by kernel_rfl) (by kernel_rfl) ?_
        iterate 13 (go_big_quiet_step (fail))
        go_big_quiet_step (first | (go_at_call 114; exact Calls.upw (CA.out (by assumption : Upw W))))
        iterate 7 (go_big_quiet_step (fail))
        go_big_quiet_step (first | (go_at_call 114; exact Calls.upw (CB.out (by assumption : Upw W))))
        repeat (go_big_quiet_step (fail))
        refine wpQuiet_nil ?_
        rintro _ ⟨⟨w9, u9⟩, rfl⟩
        go_wp2_with fail
        go_ret
        exact sr_ret rfl u9
    · have e5 : (xa.k == 5) = false := by rw [beq_eq_false_iff_ne]; exact h5
      have e6 : (xa.k == 6) = false := by rw [beq_eq_false_iff_ne]; exact h6
      obtain rfl : ba = false := by rw [← hba]; exact is56_no h5 h6
      clear h5 h6 hba
      cases bb with
      | false =>
        have hb5 : (xb.k == 5) = false := by rw [beq_eq_false_iff_ne]; exact of_decide_eq_false hbb
        go_enter Tryz.func69, Tryz.ntmps69
        go_wp2_with fail
        refine wp_region_up (W := W) U1.out (by kernel_rfl) (by kernel_rfl) ?_
        repeat (go_big_quiet_step (fail))
        refine wpQuiet_nil ?_
        rintro _ ⟨⟨w8, u8⟩, rfl⟩
        go_wp2_with fail
        refine wp_region_up (W := W) u8 (by kernel_rfl) (by kernel_rfl) ?_
        iterate 13 (go_big_quiet_step (fail))
        go_big_quiet_step (first | (go_at_call 114; exact Calls.upw (CA.out (by assumption : Upw W))))
        iterate 7 (go_big_quiet_step (fail))
        go_big_quiet_step (first | (go_at_call 114; exact Calls.upw (CB.out (by assumption : Upw W))))
        repeat (go_big_quiet_step (fail))
        refine wpQuiet_nil ?_
        rintro _ ⟨⟨w9, u9⟩, rfl⟩
        go_wp2_with fail
        go_ret
        exact sr_ret rfl u9
      | true =>
        have hb5 : (xb.k == 5) = true := by rw [beq_iff_eq]; exact of_decide_eq_true hbb
        go_enter Tryz.func69, Tryz.ntmps69
        go_wp2_with fail
        refine wp_region_up (W := W) U1.out (by kernel_rfl) (by kernel_rfl) ?_
        repeat (go_big_quiet_step (fail))
        refine wpQuiet_nil ?_
        rintro _ ⟨⟨w8, u8⟩, rfl⟩
        go_wp2_with fail
        refine wp_region_up (W := W) u8 (by kernel_rfl) (by kernel_rfl) ?_
        iterate 13 (go_big_quiet_step (fail))
        go_big_quiet_step (first | (go_at_call 114; exact Calls.upw (CA.out (by assumption : Upw W))))
        iterate 7 (go_big_quiet_step (fail))
        go_big_quiet_step (first | (go_at_call 114; exact Calls.upw (CB.out (by assumption : Upw W))))
        repeat (go_big_quiet_step (fail))
        refine wpQuiet_nil ?_
        rintro _ ⟨⟨w9, u9⟩, rfl⟩
        go_wp2_with fail
        go_ret
        exact sr_ret rfl u9
end Go.Proofs.YthonaeigacfmbaaGreatDoor
namespace Go.Proofs.YthonaeigacfmbaaGreatDoor
open Go.RowKit

def Tkm (w : World) (v : Value) (l : List Tk) : Prop := ∃ A c, v = .slice A l.length c ∧ ∀ (j : Nat) (t : Tk), l[j]? = some t → ∃ b o, A = some ⟨b, o, none⟩ ∧ b < w.heap.size ∧ w.cell? ⟨b, o + j * 4, none⟩ = some (.int .i64 t.k) ∧ w.cell? ⟨b, o + j * 4 + 1, none⟩ = some (.string t.s)
theorem Tkm.up {W w : World} {v : Value} {l : List Tk} (h : Tkm W v l) (u : Up W w) : Tkm w v l := by
  obtain ⟨A, c, rfl, h⟩ := h
  refine ⟨A, c, rfl, fun j t ht => ?_⟩
  obtain ⟨b, o, h1, h2, h3, h4⟩ := h j t ht
  exact ⟨b, o, h1, Nat.lt_of_lt_of_le h2 u.size, u.cell h3, u.cell h4⟩
theorem str_eq (a b : ByteArray) : (a.toList == b.toList) = decide (a = b) := by
  by_cases h : a = b
  · rw [h, decide_eq_true rfl]
    simp
  · rw [decide_eq_false h, beq_eq_false_iff_ne]
    intro e
    rw [Lib.toList_data, Lib.toList_data] at e
    exact h (B.ba_ext e)
def keyZ (l : List Tk) (i : Int) (x : ByteArray) : Bool := decide (0 ≤ i) && key l i.toNat x
def BoU (b : Bool) (w : World) (e : Ending) (w' : World) : Prop := e = .returned (.bool b) ∧ Up w w'
theorem bou_ret {a b : Bool} {w w' : World} (h : a = b) (u : Up w w') : BoU a w (.returned (.bool b)) w' := ⟨by rw [h], u⟩
def namZ (p : ByteArray → Bool) (l : List Tk) (i : Int) : Option ByteArray := if 0 ≤ i then nam p l i.toNat else none
def NaP (o : Option ByteArray) (w : World) (e : Ending) (w' : World) : Prop := e = .returned (.tuple #[.string (o.getD nob), .bool o.isSome]) ∧ Up w w'
set_option maxHeartbeats 3200000 in
set_option maxRecDepth 100000 in
theorem refName (l : List Tk) (i : Int) (w : World) (v : Value) (hv : Tkm w v l) (hz : ∀ t ∈ l, t.s.size ≤ 1000000000) :
    Calls Tryz.prog 21 #[v, .int .i64 i] w (NaP (namZ B.nck l i) w) := by
  obtain ⟨A, c, rfl, hc⟩ := hv
  obtain ⟨n, hn⟩ : ∃ n, l.length = n := ⟨_, rfl⟩
  rw [hn]
  by_cases h0 : 0 ≤ i
  · obtain ⟨k, rfl⟩ := Int.eq_ofNat_of_zero_le h0
    by_cases hk : k < n
    · obtain ⟨t, ht⟩ : ∃ t, l[k]? = some t := ⟨_, List.getElem?_eq_getElem (by rw [hn]; exact hk)⟩
      obtain ⟨b, o, rfl, hb, c0, c1⟩ := hc k t ht
      have hki : (k : Int) < (n : Int) := by omega
      have cC := B.refCk t.s w (hz t (List.mem_of_getElem? ht))
      obtain ⟨p, hp⟩ : ∃ p, B.nck t.s = p := ⟨_, rfl⟩
      rw [hp] at cC
      have HE : Hid (namZ B.nck l (k : Int) = if decide (t.k = 1) && p then some t.s else none) := Lib.hid (by unfold namZ; rw [if_pos h0, Int.toNat_natCast]; unfold nam; rw [ht, ← hp])
      rw [HE.out]
      clear hc ht hn HE hp hz
      by_cases h3 : t.k = 1
      · rw [decide_eq_true h3, Bool.true_and]
        cases p
        · go_enter Tryz.func21, Tryz.ntmps21
          go_wp2_with fail
          refine cC.mono ?_
          rintro e w1 ⟨rfl, u1⟩
          go_wp2_with fail
          go_ret2
          exact ⟨rfl, u1⟩
        · go_enter Tryz.func21, Tryz.ntmps21
          go_wp2_with fail
          refine cC.mono ?_
          rintro e w1 ⟨rfl, u1⟩
          have c1' := (show Up w w1 from u1).cell c1
          go_wp2_with fail
          go_ret2
          exact ⟨rfl, u1⟩
      · rw [decide_eq_false h3, Bool.false_and]
        go_enter Tryz.func21, Tryz.ntmps21
        go_wp2_with fail
        go_ret2
        exact ⟨rfl, Up.refl _⟩
    · have hki : ¬ (k : Int) < (n : Int) := by omega
      have HE : Hid (namZ B.nck l (k : Int) = none) := Lib.hid (by unfold namZ; rw [if_pos h0, Int.toNat_natCast, nam_end (by omega)])
      rw [HE.out]
      go_enter Tryz.func21, Tryz.ntmps21
      go_wp2_with fail
      go_ret2
      exact ⟨rfl, Up.refl _⟩
  · have HE : Hid (namZ B.nck l i = none) := Lib.hid (by unfold namZ; rw [if_neg h0])
    rw [HE.out]
    go_enter Tryz.func21, Tryz.ntmps21
    go_wp2_with fail
    go_ret2
    exact ⟨rfl, Up.refl _⟩
end Go.Proofs.YthonaeigacfmbaaGreatDoor
namespace Go.Proofs.YthonaeigacfmbaaGreatDoor
open Go.RowKit

section
variable {nk lg : ByteArray → Bool}
def LeOk {α : Type} (N : Nat) (R : Rs α) : Prop := pl R ≤ N ∧ ∀ p e, R = .inr (p, e) → ¬ e = 0
theorem St.leok {α : Type} {N : Nat} {R R' : Rs α} (h : St N R R') : LeOk N R := ⟨h.le, fun p e he => by rcases h.bad p e he with h | ⟨h, _⟩ <;> omega⟩
theorem typL_le (l : List Tk) (i : Nat) (hi : i ≤ l.length) : LeOk l.length (typL nk lg l i) := ((st_all l [] _).1 i hi).leok
theorem prodL_le (l : List Tk) (i : Nat) (hi : i ≤ l.length) : LeOk l.length (prodL nk lg l i) := ((st_all l [] _).2.1 i hi).leok
theorem atomL_le (l : List Tk) (i : Nat) (hi : i ≤ l.length) : LeOk l.length (atomL nk lg l i) := ((st_all l [] _).2.2.1 i hi).leok
theorem consL_le (l : List Tk) (i : Nat) (acc : Fr) (hi : i ≤ l.length) : LeOk l.length (consL nk lg l i acc) := ((st_all l [] _).2.2.2 i acc hi).leok
end
def NewS (W w : World) (q : Nat) : Prop := W.heap.size ≤ q ∧ q < w.heap.size
def NewT (W w : World) (v : Value) (t : Tr) : Prop := InT w (NewS W w) v t
theorem NewT.up {W a w : World} {v : Value} {t : Tr} (h : NewT W a v t) (u : Up a w) : NewT W w v t := InT.keep h (fun _ hq => ⟨hq.1, Nat.lt_of_lt_of_le hq.2 u.size⟩) fun b hb => Below.block u b hb.2
theorem NewT.base {W a w : World} {v : Value} {t : Tr} (h : NewT a w v t) (u : W.heap.size ≤ a.heap.size) : NewT W w v t := InT.keep h (fun _ hq => ⟨Nat.le_trans u hq.1, hq.2⟩) fun _ _ => rfl
theorem NewT.has {W w : World} {v : Value} {t : Tr} (h : NewT W w v t) : HasT w v (some t) := InT.keep h (fun _ hq => hq.2) fun _ _ => rfl
theorem new_at (w : World) (o : Obj) {n : Nat} (h : w.heap.size = n) : (w.alloc o).heap[n]? = some o := by rw [← h]; exact heap_alloc_new w o
theorem old_row {w : World} {b : Nat} {o : Obj} (o' : Obj) (h : w.heap[b]? = some o) : (w.alloc o').heap[b]? = some o := (Below.heap_alloc _ _ _ (heap_lt h)).trans h
theorem node_has {w : World} {S : Nat → Prop} {b g n c : Nat} {x : Nod} {f : Fr} (h : w.heap[b]? = some (.cells #[.int .i64 x.k, .int .i64 x.n, .string x.a, .string x.m, .slice (some ⟨g, 0, none⟩) n c] 66 (0, 0))) (hn : f.len = n) (hc : n ≤ c) (hS : S b) (hg : S g) (hf : InF w S f g 0) : InT w S (.pointer (some ⟨b, 0, none⟩)) (x, f) := by
  subst hn
  exact ⟨b, 0, some ⟨g, 0, none⟩, c, rfl, hS, ⟨_, _, h⟩, cell_of_row w b 0 _ _ _ h, cell_of_row w b 1 _ _ _ h, cell_of_row w b 2 _ _ _ h, cell_of_row w b 3 _ _ _ h, cell_of_row w b 4 _ _ _ h, hc, fun _ => ⟨g, 0, rfl, hg, hf⟩⟩
theorem leaf_has {w : World} {S : Nat → Prop} {b : Nat} {x : Nod} (h : w.heap[b]? = some (.cells #[.int .i64 x.k, .int .i64 x.n, .string x.a, .string x.m, .slice none 0 0] 66 (0, 0))) (hS : S b) : InT w S (.pointer (some ⟨b, 0, none⟩)) (x, .nil) :=
  ⟨b, 0, none, 0, rfl, hS, ⟨_, _, h⟩, cell_of_row w b 0 _ _ _ h, cell_of_row w b 1 _ _ _ h, cell_of_row w b 2 _ _ _ h, cell_of_row w b 3 _ _ _ h, cell_of_row w b 4 _ _ _ h, Nat.le_refl _, fun hn => absurd hn (by simp [Fr.len])⟩
end Go.Proofs.YthonaeigacfmbaaGreatDoor
namespace Go.Proofs.YthonaeigacfmbaaGreatDoor

def rowF (l : List Tk) (m : ByteArray) (part : Fr → Nat → Rs Tr) : Nat → Fr → Nat → Rs Fr
  | 0, _, i => .inr (i, 6)
  | n + 1, acc, i => match part acc i with
    | .inr e => .inr e
    | .inl (t, j) => if key l j m then rowF l m part n (acc.app (fr1 t)) (j + 1) else .inl (acc.app (fr1 t), j)
def rowS (l : List Tk) (m : ByteArray) (r : Rs Tr) (acc : Fr) (R : Fr → Nat → Rs Fr) : Rs Fr := match r with
  | .inr e => .inr e
  | .inl (t, j) => if key l j m then R (acc.app (fr1 t)) (j + 1) else .inl (acc.app (fr1 t), j)
theorem rowF_s (l : List Tk) (m : ByteArray) (part : Fr → Nat → Rs Tr) (n : Nat) (acc : Fr) (i : Nat) : rowF l m part (n + 1) acc i = rowS l m (part acc i) acc (rowF l m part n) := by rw [rowF]; rfl
theorem rowF_more {l : List Tk} {m : ByteArray} {part : Fr → Nat → Rs Tr} (ha : ∀ acc i, Ahead i (part acc i)) : ∀ (n : Nat) (acc : Fr) (i : Nat), i ≤ l.length → l.length + 1 - i ≤ n → rowF l m part (n + 1) acc i = rowF l m part n acc i
  | 0, acc, i, hi, hn => by omega
  | n + 1, acc, i, hi, hn => by
    rw [rowF_s, rowF_s]
    unfold rowS
    have h1 := ha acc i
    cases h : part acc i with
    | inr e => rfl
    | inl r =>
      obtain ⟨t, j⟩ := r
      rw [h] at h1
      have h1 : i < j := h1
      simp only
      split
      · rename_i hk
        have := key_lt hk
        exact rowF_more ha n _ _ (by omega) (by omega)
      · rfl
theorem rowF_le {l : List Tk} {m : ByteArray} {part : Fr → Nat → Rs Tr} (ha : ∀ acc i, Ahead i (part acc i)) {n : Nat} {acc : Fr} {i : Nat} (hi : i ≤ l.length) (hn : l.length + 1 - i ≤ n) : ∀ d, rowF l m part (n + d) acc i = rowF l m part n acc i
  | 0 => rfl
  | d + 1 => by rw [← Nat.add_assoc, rowF_more ha _ _ _ hi (by omega), rowF_le ha hi hn d]
def rowL (l : List Tk) (m : ByteArray) (part : Fr → Nat → Rs Tr) (acc : Fr) (i : Nat) : Rs Fr := rowF l m part (l.length + 1) acc i
theorem rowL_eq {l : List Tk} {m : ByteArray} {part : Fr → Nat → Rs Tr} (ha : ∀ acc i, Ahead i (part acc i)) (acc : Fr) (i : Nat) (hi : i ≤ l.length) : rowL l m part acc i = rowS l m (part acc i) acc (rowL l m part) := by
  have h : rowL l m part acc i = rowF l m part (l.length + 1 + 1) acc i := (rowF_le ha hi (by omega) 1).symm
  rw [h, rowF_s]
  rfl
def foldK (k : Int) : Fr → Tr
  | .nil => nd k nob .nil
  | .cons x f r => if r.len = 0 then (x, f) else nd k nob (fr2 (x, f) (foldK k r))
theorem foldK_two (k : Int) (t : Tr) {r : Fr} (h : 0 < r.len) : foldK k ((fr1 t).app r) = nd k nob (fr2 t (foldK k r)) := by
  show (if (Fr.app .nil r).len = 0 then _ else _) = _
  rw [if_neg (by show ¬ r.len = 0; omega)]
  rfl
def toT (k : Int) : Rs Fr → Rs Tr
  | .inr e => .inr e
  | .inl (f, j) => .inl (foldK k f, j)
def mapF (a : Fr) : Rs Fr → Rs Fr
  | .inr e => .inr e
  | .inl (f, j) => .inl (a.app f, j)
section
variable {l : List Tk} {m : ByteArray} {P : Nat → Rs Tr}
theorem rowL_acc (ha : ∀ i, Ahead i (P i)) : ∀ (d : Nat) (acc : Fr) (i : Nat), l.length - i ≤ d → i ≤ l.length → rowL l m (fun _ => P) acc i = mapF acc (rowL l m (fun _ => P) .nil i)
  | d, acc, i, hd, hi => by
    have h1 := ha i
    rw [rowL_eq (fun _ => ha) acc i hi, rowL_eq (fun _ => ha) .nil i hi]
    unfold rowS
    cases h : P i with
    | inr e => rfl
    | inl r =>
      obtain ⟨t, j⟩ := r
      rw [h] at h1
      have h1 : i < j := h1
      simp only
      split
      · rename_i hk
        have := key_lt hk
        cases d with
        | zero => omega
        | succ d =>
          rw [rowL_acc ha d _ (j + 1) (by omega) (by omega), rowL_acc ha d (Fr.app .nil (fr1 t)) (j + 1) (by omega) (by omega)]
          cases rowL l m (fun _ => P) .nil (j + 1) with
          | inr e => rfl
          | inl q => show Sum.inl (_, _) = Sum.inl (_, _); rw [Fr.app_assoc]; rfl
      · rfl
theorem rowL_ne (ha : ∀ i, Ahead i (P i)) : ∀ (d : Nat) (i : Nat), l.length - i ≤ d → i ≤ l.length → ∀ f j, rowL l m (fun _ => P) .nil i = .inl (f, j) → 0 < f.len
  | d, i, hd, hi, f, j, h => by
    have h1 := ha i
    rw [rowL_eq (fun _ => ha) .nil i hi] at h
    unfold rowS at h
    cases hp : P i with
    | inr e => rw [hp] at h; cases h
    | inl r =>
      obtain ⟨t, q⟩ := r
      rw [hp] at h h1
      have h1 : i < q := h1
      simp only at h
      split at h
      · rename_i hk
        have := key_lt hk
        rw [rowL_acc ha (l.length - (q + 1)) _ (q + 1) (Nat.le_refl _) (by omega)] at h
        cases hr : rowL l m (fun _ => P) .nil (q + 1) with
        | inr e => rw [hr] at h; cases h
        | inl s =>
          rw [hr] at h
          have h := Sum.inl.inj h
          have h := congrArg Prod.fst h
          have h : (Fr.app .nil (fr1 t)).app s.1 = f := h
          rw [← h, Fr.len_app]
          show 0 < 1 + _
          omega
      · have h := congrArg Prod.fst (Sum.inl.inj h)
        have h : Fr.app .nil (fr1 t) = f := h
        rw [← h]
        exact Nat.succ_pos _
theorem toT_row {k : Int} {T : Nat → Rs Tr} (ha : ∀ i, Ahead i (P i)) (hT : ∀ i, T i = typS m k l (P i) T) : ∀ (d : Nat) (i : Nat), l.length - i ≤ d → i ≤ l.length → toT k (rowL l m (fun _ => P) .nil i) = T i
  | d, i, hd, hi => by
    have h1 := ha i
    rw [rowL_eq (fun _ => ha) .nil i hi, hT i]
    unfold rowS typS
    cases h : P i with
    | inr e => rfl
    | inl r =>
      obtain ⟨t, j⟩ := r
      rw [h] at h1
      have h1 : i < j := h1
      simp only
      split
      · rename_i hk
        have := key_lt hk
        cases d with
        | zero => omega
        | succ d =>
          have ih := toT_row (k := k) ha hT d (j + 1) (by omega) (by omega)
          rw [rowL_acc ha d _ (j + 1) (by omega) (by omega), ← ih]
          cases hr : rowL l m (fun _ => P) .nil (j + 1) with
          | inr e => rfl
          | inl q =>
            obtain ⟨f, q⟩ := q
            have hne := rowL_ne ha d (j + 1) (by omega) (by omega) f q hr
            show Sum.inl (foldK k ((fr1 t).app f), q) = Sum.inl (nd k nob (fr2 t (foldK k f)), q)
            rw [foldK_two k t hne]
      · rfl
end
section
variable {nk lg : ByteArray → Bool}
theorem typL_row (l : List Tk) (i : Nat) (hi : i ≤ l.length) : toT 5 (rowL l kArrow (fun _ => prodL nk lg l) .nil i) = typL nk lg l i := toT_row (prodL_ahead l) (typL_eq l) _ i (Nat.le_refl _) hi
theorem prodL_row (l : List Tk) (i : Nat) (hi : i ≤ l.length) : toT 6 (rowL l kStar (fun _ => atomL nk lg l) .nil i) = prodL nk lg l i := toT_row (atomL_ahead l) (prodL_eq l) _ i (Nat.le_refl _) hi
def conS (nk lg : ByteArray → Bool) (l : List Tk) (acc : Fr) (i : Nat) : Rs Tr := match nam nk l i with
  | none => .inr (i, 6)
  | some s => if hasN acc s then .inr (i, 9) else if key l (i + 1) kOf then (match typL nk lg l (i + 2) with
    | .inr e => .inr e
    | .inl (t, j) => .inl (nd 8 s (fr1 t), j)) else .inr (i + 1, 6)
theorem conS_ahead (l : List Tk) (acc : Fr) (i : Nat) : Ahead i (conS nk lg l acc i) := by
  have h1 := typL_ahead (nk := nk) (lg := lg) l (i + 2)
  unfold conS
  split
  · exact Nat.le_refl _
  · split
    · exact Nat.le_refl _
    · split
      · cases h : typL nk lg l (i + 2) with
        | inr e => rw [h] at h1; have h1 : i + 2 ≤ e.1 := h1; show i ≤ e.1; omega
        | inl r => rw [h] at h1; have h1 : i + 2 < r.2 := h1; show i < r.2; omega
      · show i ≤ i + 1; omega
theorem consL_step (l : List Tk) (acc : Fr) (i : Nat) : consL nk lg l i acc = rowS l kBar (conS nk lg l acc i) acc fun a j => consL nk lg l j a := by
  rw [consL_eq]
  unfold consS conS rowS
  cases nam nk l i with
  | none => rfl
  | some s =>
    simp only
    split
    · rfl
    · split
      · cases typL nk lg l (i + 2) with
        | inr e => rfl
        | inl r => rfl
      · rfl
end
end Go.Proofs.YthonaeigacfmbaaGreatDoor
