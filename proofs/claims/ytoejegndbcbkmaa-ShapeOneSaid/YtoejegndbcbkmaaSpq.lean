/-
  Layer 5: what the program's measure tells of a node that has a nil in it.
-/
import Derived.Test.YtoejegndbcbkmaaArM
import Derived.Test.YtoejegndbcbkmaaUp
namespace Go.Proofs.Ytoejegndbcbkmaa
open Go.RowKit

def HolePost (gb : Nat) (w : World) (e : Ending) (w' : World) : Prop := ∃ s d : Nat, e = .returned (.agg #[.int .i64 (s : Int), .int .i64 (d : Int), .bool true]) ∧ s ≤ 10 ∧ w.grownBy w' (some gb)
set_option maxHeartbeats 3200000 in
set_option maxRecDepth 100000 in
theorem of_hole (w : World) (q g gb mb k : Nat) (a b c d : Value) (hqc : w.heap[q]? = some (.cells #[a, b, c, d, .slice (some ⟨g, 0, none⟩) 1 1] 37 (0, 0))) (hgc : w.heap[g]? = some (.cells #[.pointer none] 25 (0, 0))) (hgg : Gg w gb mb k) (hmg : mb ≠ gb) (hqg : q ≠ gb) (hggb : g ≠ gb) (hk : k ≤ 1000) :
    Calls Try.prog 58 #[.pointer (some ⟨gb, 0, none⟩), .pointer (some ⟨q, 0, none⟩)] w (HolePost gb w) := by
    obtain ⟨N, hN⟩ : ∃ N, N = 1 := ⟨_, rfl⟩
    have c4 : w.cell? ⟨q, 4, none⟩ = some (.slice (some ⟨g, 0, none⟩) N N) := by rw [hN]; exact cell_of_row w q 4 _ _ _ hqc
    have HN := Lib.hid hN
    have hN1 : N ≤ 1 := by omega
    clear hN
    have ck : w.cell? ⟨g, 0, none⟩ = some (.pointer none) := cell_of_row w g 0 _ _ _ hgc
    have hqw := cell_lt c4
    have hkw := cell_lt ck
    have g0 := cell_of_row w gb 0 _ _ _ hgg.1
    have g1 := cell_of_row w gb 1 _ _ _ hgg.1
    have gf := frozen_of_row w gb 0 _ _ hgg.1
    have hgw := heap_lt hgg.1
    have hmw := heap_lt hgg.2
    have hlk := fun W (hW : W.heap[mb]? = some (.map #[] 0)) => look_empty (w := W) (.pointer (some ⟨q, 0, none⟩)) hW
    have hlk1 := hlk (w.alloc (.cells #[.int .i64 0, .int .i64 0, .bool false] 62)) (block_alloc _ hgg.2)
    have HG := Lib.hid hgg
    clear hgg hlk
    go_enter Try.func58, Try.ntmps58
    go_wp2_with fail
    obtain ⟨H, hH⟩ : ∃ H, w.heap.size = H := ⟨_, rfl⟩
    obtain ⟨W3, hW3⟩ : ∃ W3, W3 = ((w.setCell ⟨gb, 0, none⟩ (.int .i64 ((k : Int) + 1))).alloc (.cells #[.int .i64 0, .int .i64 0, .bool false] 62)).alloc (.cells #[.int .i64 0, .int .i64 0, .bool false] 62) := ⟨_, rfl⟩
    have hs0 : (w.setCell ⟨gb, 0, none⟩ (.int .i64 ((k : Int) + 1))).heap.size = H := by simp [World.setCell, hH]
    have hgg3 : Gg W3 gb mb (k + 1) := by
      rw [hW3]
      have h1 := HG.out.store (m := k + 1) hmg (z := (k : Int) + 1) (by omega)
      exact ⟨block_alloc _ (block_alloc _ h1.1), block_alloc _ (block_alloc _ h1.2)⟩
    have hR3 : W3.heap[H]? = some (.cells #[.int .i64 0, .int .i64 0, .bool false] 62 (0, 0)) := by
      rw [hW3, ← hs0]
      exact block_alloc _ (heap_alloc_new _ _)
    have hgb3 : w.grownBy W3 (some gb) := by rw [hW3]; exact gb_alloc (gb_alloc (gb_set (gb_refl w _) _ _ (.inr rfl)) _) _
    have hs3 : W3.heap.size = H + 2 := by rw [hW3]; simp; omega
    rw [← hW3]
    have HGG3 := Lib.hid hgg3
    have cK1 := keep_any gb mb (k + 1) (.pointer (some ⟨q, 0, none⟩)) #[.int .i64 9223372036854775807, .int .i64 9223372036854775807, .bool false] W3 hgg3 (by omega)
    clear hgg3 hW3
    refine cK1.mono ?_
    rintro e w1 ⟨rfl, hb1⟩
    have hgg1 := HGG3.out.grown hb1
    have hR1 := heap_below hR3 hb1
    have hgb1 : w.grownBy w1 (some gb) := gb_trans hgb3 (gb_below hb1 (Nat.le_refl _))
    have hs1 := hb1.size
    rw [hs3] at hs1
    have c41 := gb_cell hgb1 c4 hqg
    have hqX : q < w1.heap.size := cell_lt c41
    obtain ⟨X, hX⟩ : ∃ X, w1.heap.size = X := ⟨_, rfl⟩
    rw [hX] at hs1
    have HCK := Lib.hid ck
    have HGG1 := Lib.hid hgg1
    have HR1 := Lib.hid hR1
    have HGB1 := Lib.hid hgb1
    have HX := Lib.hid hX
    have HH := Lib.hid hH
    clear hlk1 cK1 HGG3 hb1 hgb3 hR3 hgg1 hR1 hgb1 hX ck c4 g0 g1 gf hs0 hs3 hH hqc hgc
    go_wp2_with fail
    have hXb : (w1.alloc (.cells #[.int .i64 1, .int .i64 0, .bool false] 62)).heap[X]? = some (.cells #[.int .i64 1, .int .i64 0, .bool false] 62 (0, 0)) := by rw [← HX.out]; exact heap_alloc_new w1 _
    have HXB := Lib.hid hXb
    rw [HX.out, HH.out]
    clear hXb
    go_loopw [9, 10, 42] (fun _ _ i wr => ∃ (j : Nat), j ≤ 1 ∧ i = .int .i64 j ∧ Gg wr gb mb (k + 1) ∧ wr.heap[X]? = some (.cells #[.int .i64 1, .int .i64 0, .bool (decide (j = 1))] 62 (0, 0)) ∧
      wr.heap[H]? = some (.cells #[.int .i64 0, .int .i64 0, .bool false] 62 (0, 0)) ∧ w.grownBy wr (some gb)) (fun _ _ i _ => N - (intOf i).toNat)
    case atStart => exact ⟨0, by omega, rfl, HGG1.out.grown ((Below.refl _ _).alloc (Nat.le_refl _) _), HXB.out, block_alloc _ HR1.out, gb_alloc HGB1.out _⟩
    case round =>
      obtain ⟨j, hj, rfl, hgg, hxb, hrb, hgw⟩ := hrel
      have hXr := heap_lt hxb
      have hrw := hgw.size
      have hXg : X ≠ gb := by have := HX.out; have := HGB1.out.size; have := HH.out; omega
      have hXm : X ≠ mb := by have := HX.out; have := HGB1.out.size; have := HH.out; omega
      have HHG : Hid (H ≠ gb) := Lib.hid (by have := HH.out; omega)
      rcases (by omega : j = 0 ∨ j = 1) with rfl | rfl
      · have hjz : (0 : Int) < (N : Int) := by have := HN.out; omega
        have hjN : 0 < N := by have := HN.out; omega
        have hcell := gb_cell hgw HCK.out hggb
        have cI := of_nil gb wr
        have HRB := Lib.hid hrb
        have HXBR := Lib.hid hxb
        have HGW := Lib.hid hgw
        have HGG := Lib.hid hgg
        have cS := fun W => sum_any 1 0 W (by omega) (by omega)
        clear hgg hxb hrb hgw
        go_wp2_with fail
        refine cI.mono ?_
        rintro e w2 ⟨rfl, hb2⟩
        have hs2 := hb2.size
        have hx2 : X < w2.heap.size := by omega
        have hxb2 := heap_below HXBR.out hb2
        have HXB2 := Lib.hid hxb2
        have HB2 := Lib.hid hb2
        have cx0 := cell3_0 hxb2
        have cx1 := cell3_1 hxb2
        have cx2 := cell3_2 hxb2
        have fx := fun i => frozen_of_row w2 X i _ _ hxb2
        have fx0 := fx 0
        have fx1 := fx 1
        have fx2 := fx 2
        clear hb2 hxb2 fx
        go_wp2_with fail
        refine (cS _).mono ?_
        rintro e w3 ⟨rfl, rfl⟩
        go_wp2_with fail
        have hset := set3 HXB2.out (.int .i64 1) (.int .i64 0) (.bool true)
        have hX' : w.heap.size ≤ X := by rw [HH.out]; omega
        have hHX : H ≠ X := by omega
        refine ⟨⟨1, by omega, rfl, ?_, block_alloc _ hset, block_alloc _ (block_far _ (block_far _ (block_far _ (heap_below HRB.out HB2.out) hHX) hHX) hHX), gb_alloc (gb_set (gb_set (gb_set (gb_trans HGW.out (gb_below HB2.out (Nat.le_refl _))) _ _ (.inl hX')) _ _ (.inl hX')) _ _ (.inl hX')) _⟩, by simp [intOf]; omega⟩
        exact ((((HGG.out.grown HB2.out).far _ (Ne.symm hXg) (Ne.symm hXm)).far _ (Ne.symm hXg) (Ne.symm hXm)).far _ (Ne.symm hXg) (Ne.symm hXm)).grown ((Below.refl _ _).alloc (Nat.le_refl _) _)
      · have hjz : ¬ (1 : Int) < (N : Int) := by omega
        have hjN : ¬ 1 < N := by omega
        have hxt : wr.heap[X]? = some (.cells #[.int .i64 1, .int .i64 0, .bool true] 62 (0, 0)) := hxb
        have cx0 := cell3_0 hxt
        have cx1 := cell3_1 hxt
        have cx2 := cell3_2 hxt
        have fx := fun i => frozen_of_row wr X i _ _ hxt
        have fx0 := fx 0
        have fx1 := fx 1
        have fx2 := fx 2
        have HRB := Lib.hid hrb
        have HXBR := Lib.hid hxt
        have HGW := Lib.hid hgw
        have HGG := Lib.hid hgg
        have cS := fun W => sum_any 0 1 W (by omega) (by omega)
        clear hxb hxt hrb hgg hgw fx
        go_wp2_with fail
        refine (cS _).mono ?_
        rintro e w3 ⟨rfl, rfl⟩
        go_wp2_with fail
        have hggK : Gg (wr.setCell ⟨X, 1, none⟩ (.int .i64 1)) gb mb (k + 1) := HGG.out.far _ (Ne.symm hXg) (Ne.symm hXm)
        have hxbK : (wr.setCell ⟨X, 1, none⟩ (.int .i64 1)).heap[X]? = some (.cells #[.int .i64 1, .int .i64 1, .bool true] 62 (0, 0)) := by
          rw [block_set _ HXBR.out]
          rfl
        have hrbK : (wr.setCell ⟨X, 1, none⟩ (.int .i64 1)).heap[H]? = some (.cells #[.int .i64 0, .int .i64 0, .bool false] 62 (0, 0)) := block_far _ HRB.out (by simp only; omega)
        have hgwK : w.grownBy (wr.setCell ⟨X, 1, none⟩ (.int .i64 1)) (some gb) := gb_set HGW.out _ _ (.inl (by rw [HH.out]; simp only; omega))
        have cK := keep_any gb mb (k + 1) (.pointer (some ⟨q, 0, none⟩)) #[.int .i64 1, .int .i64 1, .bool true] _ hggK (by omega)
        have HGGK := Lib.hid hggK
        have HXBK := Lib.hid hxbK
        have HRBK := Lib.hid hrbK
        have HGWK := Lib.hid hgwK
        clear hggK hxbK hrbK hgwK
        refine cK.mono ?_
        rintro e w5 ⟨rfl, hb5⟩
        have HB5 := Lib.hid hb5
        have hxb5 := heap_below HXBK.out hb5
        have hrb5 := heap_below HRBK.out hb5
        have dx0 := cell3_0 hxb5
        have dx1 := cell3_1 hxb5
        have dx2 := cell3_2 hxb5
        have dr0 := cell3_0 hrb5
        have dr1 := cell3_1 hrb5
        have dr2 := cell3_2 hrb5
        have gx := fun i => frozen_of_row w5 H i _ _ hrb5
        have gx0 := gx 0
        have gx1 := gx 1
        have gx2 := gx 2
        have hHX : H < X := by omega
        clear cK cx0 cx1 cx2 fx0 fx1 fx2 hb5 hxb5 hrb5 gx
        go_wp2_with fail
        have hgwF : w.grownBy (((w5.setCell ⟨H, 0, none⟩ (.int .i64 1)).setCell ⟨H, 1, none⟩ (.int .i64 1)).setCell ⟨H, 2, none⟩ (.bool true)) (some gb) := by
          have hX' : w.heap.size ≤ H := by rw [HH.out]; omega
          exact gb_set (gb_set (gb_set (gb_trans HGWK.out (gb_below HB5.out (Nat.le_refl _))) _ _ (.inl hX')) _ _ (.inl hX')) _ _ (.inl hX')
        exact bodyPost_ret (v := .agg #[.int .i64 1, .int .i64 1, .bool true]) (by simp [results, Try.results58, go_sem, dr0, dr1, dr2]) rfl ⟨1, 1, rfl, by omega, hgwF⟩
/-- What the program's measure tells of a node with a nil: that there is one. -/
def MhPost (w : World) (e : Ending) (w' : World) : Prop := ∃ s d : Nat, e = .returned (.agg #[.int .i64 (s : Int), .int .i64 (d : Int), .bool true]) ∧ s ≤ 10 ∧ Below w.heap.size w w'
set_option maxHeartbeats 1600000 in
set_option maxRecDepth 100000 in
theorem measured_hole (w : World) (q g : Nat) (a b c d : Value) (hqc : w.heap[q]? = some (.cells #[a, b, c, d, .slice (some ⟨g, 0, none⟩) 1 1] 37 (0, 0))) (hgc : w.heap[g]? = some (.cells #[.pointer none] 25 (0, 0))) :
    Calls Try.prog 36 #[.pointer (some ⟨q, 0, none⟩)] w (MhPost w) := by
  have hmm := @run_makeMap Try.prog
  have three := three_blocks w (.cells #[.int .i64 0, .int .i64 0, .bool false] 62) (.map #[] 0) (.cells #[.int .i64 0, .map (some (w.heap.size + 1))] 80) rfl
  have hql := heap_lt hqc
  have hgl := heap_lt hgc
  obtain ⟨H, hH⟩ : ∃ H, w.heap.size = H := ⟨_, rfl⟩
  rw [hH] at three hql hgl
  have HT := Lib.hid three
  have HH := Lib.hid hH
  have HQ := Lib.hid hqc
  have HGC := Lib.hid hgc
  clear three hH hqc hgc
  go_enter Try.func36, Try.ntmps36
  go_wp2_with fail
  rw [HH.out]
  obtain ⟨W, hW⟩ : ∃ W, W = ((w.alloc (.cells #[.int .i64 0, .int .i64 0, .bool false] 62)).alloc (.map #[] 0)).alloc (.cells #[.int .i64 0, .map (some (H + 1))] 80) := ⟨_, rfl⟩
  have ht := HT.out
  rw [← hW] at ht ⊢
  obtain ⟨t1, t2, t3, hb1, hs1⟩ := ht
  have hgg : Gg W (H + 2) (H + 1) 0 := ⟨t3, t2⟩
  have hqW := (hb1.block q (by omega)).trans HQ.out
  have hgW := (hb1.block g (by omega)).trans HGC.out
  have key := of_hole W q g (H + 2) (H + 1) 0 a b c d hqW hgW hgg (by omega) (by omega) (by omega) (by omega)
  have HT1 := Lib.hid t1
  have HB1 := Lib.hid hb1
  have HHs := Lib.hid hs1
  clear t1 t2 t3 hgg hW hb1 hs1 HT hqW hgW
  refine key.mono ?_
  rintro e w1 ⟨S, D, rfl, hS10, hg1⟩
  have hr1 := gb_block hg1 HT1.out (by omega)
  have dr0 := cell3_0 hr1
  have dr1 := cell3_1 hr1
  have dr2 := cell3_2 hr1
  have gx := fun i => frozen_of_row w1 H i _ _ hr1
  have gx0 := gx 0
  have gx1 := gx 1
  have gx2 := gx 2
  have HG1 := Lib.hid hg1
  clear key hr1 gx hg1
  go_wp2_with fail
  have hbF : Below H w (((w1.setCell ⟨H, 0, none⟩ (.int .i64 (S : Int))).setCell ⟨H, 1, none⟩ (.int .i64 (D : Int))).setCell ⟨H, 2, none⟩ (.bool true)) :=
    (((gb_base HB1.out HG1.out (by have := HHs.out; omega) (fun g hg => by injection hg with hg; omega)).setCell (Nat.le_refl _) _).setCell (Nat.le_refl _) _).setCell (Nat.le_refl _) _
  exact bodyPost_ret (v := .agg #[.int .i64 (S : Int), .int .i64 (D : Int), .bool true]) (by simp [results, Try.results36, go_sem, dr0, dr1, dr2]) rfl ⟨S, D, rfl, hS10, by rw [HH.out]; exact hbF⟩
end Go.Proofs.Ytoejegndbcbkmaa
