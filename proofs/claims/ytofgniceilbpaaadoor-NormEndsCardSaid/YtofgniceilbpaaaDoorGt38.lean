/-
  Layer 11: the size of what is too large; all normal forms; Equal.
-/
import Derived.Test.YtofgniceilbpaaaDoorGt34
import Derived.Test.YtofgniceilbpaaaDoorGt37
namespace Go.Proofs.YtofgniceilbpaaaDoor
open Go.RowKit

set_option maxHeartbeats 1600000 in
set_option maxRecDepth 100000 in
theorem measuredG (t : Tr) (w : World) (v : Value) (hin : HasT w v (some t)) (hsz : szT t ≤ 1000000) : Calls Tryd.prog 45 #[v] w (MePost (szT t) (dpT t) false w) := by
  have hmm := @run_makeMap Tryd.prog
  have three := three_blocks w (.cells #[.int .i64 0, .int .i64 0, .bool false] 81) (.map #[] 0) (.cells #[.int .i64 0, .map (some (w.heap.size + 1))] 119) rfl
  obtain ⟨H, hH⟩ : ∃ H, w.heap.size = H := ⟨_, rfl⟩
  rw [hH] at three
  have HT := Lib.hid three
  have HH := Lib.hid hH
  clear three
  obtain ⟨S, hS⟩ : ∃ S, szT t = S := ⟨_, rfl⟩
  obtain ⟨D, hD⟩ : ∃ D, dpT t = D := ⟨_, rfl⟩
  have HS := Lib.hid hS
  have HD := Lib.hid hD
  have HIN := Lib.hid hin
  have HZ := Lib.hid hsz
  rw [hS, hD]
  clear hH hin hS hD hsz
  go_enter Tryd.func45, Tryd.ntmps45
  go_wp2_with fail
  rw [HH.out]
  obtain ⟨W, hW⟩ : ∃ W, W = ((w.alloc (.cells #[.int .i64 0, .int .i64 0, .bool false] 81)).alloc (.map #[] 0)).alloc (.cells #[.int .i64 0, .map (some (H + 1))] 119) := ⟨_, rfl⟩
  have ht := HT.out
  rw [← hW] at ht ⊢
  obtain ⟨t1, t2, t3, hb1, hs1⟩ := ht
  have hbq : Bel (fun q => q < w.heap.size) W.heap.size := fun q h => by rw [hs1]; rw [HH.out] at h; omega
  have uW : Up w W := by unfold Up; rw [HH.out]; exact hb1
  have key : Calls Tryd.prog 74 #[.pointer (some ⟨H + 1 + 1, 0, none⟩), v] W (fun e w' => e = .returned (.agg #[.int .i64 (S : Int), .int .i64 (D : Int), .bool false]) ∧ Gs (Two (H + 2) (H + 1)) W w') := by
    rw [← HS.out, ← HD.out]
    refine (ofG (szT t) HZ.out t (Nat.le_refl _) W (fun q => q < w.heap.size) v (H + 2) (H + 1) 0 #[] 0 (fun _ => False) hbq (by rw [HH.out]; omega) (by rw [HH.out]; omega) (InT.keep (t := t) HIN.out (fun _ h => h) fun b hb => uW.block b hb) ⟨t3, t2⟩ (by omega) (by have := HZ.out; omega) (Ents.nil _ _ _) (fun u t' h => h.elim)).mono ?_
    rintro e w' ⟨rfl, _, _, _, _, _, _, _, hg⟩
    exact ⟨rfl, hg⟩
  have HT1 := Lib.hid t1
  have HUW := Lib.hid uW
  clear t1 t2 t3 hW hb1 hs1 HT uW hbq
  refine key.mono ?_
  rintro e w1 ⟨rfl, hg1⟩
  have hr1 := hg1.row HT1.out (fun e => by rcases e with e | e <;> omega)
  have dr0 := cell3_0 hr1
  have dr1 := cell3_1 hr1
  have dr2 := cell3_2 hr1
  have gx := fun i => frozen_of_row w1 H i _ _ hr1
  have gx0 := gx 0
  have gx1 := gx 1
  have gx2 := gx 2
  have HG1 := Lib.hid hg1
  clear key hr1 gx hg1
  go_wp2_with fail
  have hbF : Below w.heap.size w (((w1.setCell ⟨H, 0, none⟩ (.int .i64 (S : Int))).setCell ⟨H, 1, none⟩ (.int .i64 (D : Int))).setCell ⟨H, 2, none⟩ (.bool false)) := by
    have h1 : Up w w1 := HG1.out.up HUW.out (fun k hk => by rw [HH.out]; rcases hk with hk | hk <;> omega)
    unfold Up at h1
    rw [HH.out] at h1 ⊢
    exact ((h1.setCell (Nat.le_refl _) _).setCell (Nat.le_refl _) _).setCell (Nat.le_refl _) _
  exact bodyPost_ret (v := .agg #[.int .i64 (S : Int), .int .i64 (D : Int), .bool false]) (by simp [results, Tryd.results45, go_sem, dr0, dr1, dr2]) rfl ⟨rfl, hbF⟩
theorem sizeG (t : Tr) (w : World) (v : Value) (hin : HasT w v (some t)) (hsz : szT t ≤ 1000000) : Calls Tryd.prog 28 #[v] w (NuP (szT t) w) := by
  have cM := measuredG t w v hin hsz
  obtain ⟨S, hS⟩ : ∃ S, szT t = S := ⟨_, rfl⟩
  obtain ⟨D, hD⟩ : ∃ D, dpT t = D := ⟨_, rfl⟩
  rw [hS, hD] at cM
  rw [hS]
  clear hin hS hD hsz
  go_enter Tryd.func28, Tryd.ntmps28
  go_wp2_with fail
  refine cM.mono ?_
  rintro e w1 ⟨rfl, hb⟩
  have hf := field0 (.int .i64 (S : Int)) (.int .i64 (D : Int)) (.bool false) w1
  go_wp2_with fail
  go_ret
  exact ⟨rfl, hb⟩
theorem sz_big : SzBig := fun w v m h _ h2 => sizeG m w v h (by omega)
set_option maxHeartbeats 12800000 in
set_option maxRecDepth 100000 in
theorem pEqual (o p : Option Tr) {w : World} {v u : Value} (h : HasT w v o) (hz : szO o ≤ 65536) (h' : HasT w u p) (hz' : szO p ≤ 65536) : Calls Tryd.prog 15 #[v, u] w (EqP o p w) := by
  have c1 := pNormal o h hz (.inl sz_big)
  have H' := Lib.hid (fun (W : World) (hu : Up w W) => pNormal p (HasT.up h' hu) hz' (.inl sz_big))
  rcases nmR_form o with ⟨x, hx, hxs⟩ | ⟨e1, he1, hx⟩
  · rw [hx] at c1
    have HX := Lib.hid hx
    have hxz := nf_sz hxs
    rcases nmR_form p with ⟨y, hy, hys⟩ | ⟨e2, he2, hy⟩
    · rw [hy] at H'
      have HY := Lib.hid hy
      obtain ⟨b, hb⟩ : ∃ b : Bool, b = true ↔ some x = some y := by
        classical exact ⟨decide (some x = some y), by simp⟩
      have HB := Lib.hid hb
      have HXZ := Lib.hid hxz
      clear hx hxs hy hys hz hz' h h' hxz hb
      go_enter Tryd.func15, Tryd.ntmps15
      go_wp2_with fail
      refine c1.mono ?_
      rintro e w1 ⟨v1, rfl, hv1, u1⟩
      have U1 := Lib.hid u1
      have T1 : Hid (HasT w1 v1 (some x)) := Lib.hid hv1
      have c2 := H'.out w1 u1
      clear c1 u1 hv1
      go_wp2_with fail
      refine c2.mono ?_
      rintro e w2 ⟨v2, rfl, hv2, u2⟩
      have U2 := Lib.hid (U1.out.trans u2)
      have T2 : Hid (HasT w2 v2 (some y)) := Lib.hid hv2
      have T12 := Lib.hid (T1.out.up u2)
      clear c2 u2 hv2
      have c3 := uSame (some x) (some y) T12.out T2.out HXZ.out b HB.out (Up.refl w2)
      go_wp2_with fail
      refine c3.mono ?_
      rintro e w3 ⟨rfl, u3⟩
      have U3 := Lib.hid (U2.out.trans u3)
      clear c3 u3
      go_wp2_with fail
      go_ret2
      exact ⟨b, 0, rfl, .inr ⟨x, HX.out, .inr ⟨y, HY.out, rfl, HB.out.trans (by rw [Option.some.injEq])⟩⟩, U3.out⟩
    · rw [hy] at H'
      have HY := Lib.hid hy
      have h9 : (e2 != 0) = true := by rw [bne_iff_ne]; exact he2
      clear hx hxs hy hz hz' h h' hxz
      go_enter Tryd.func15, Tryd.ntmps15
      go_wp2_with fail
      refine c1.mono ?_
      rintro e w1 ⟨v1, rfl, -, u1⟩
      have U1 := Lib.hid u1
      have c2 := H'.out w1 u1
      clear c1 u1
      go_wp2_with fail
      refine c2.mono ?_
      rintro e w2 ⟨v2, rfl, -, u2⟩
      have U2 := Lib.hid (U1.out.trans u2)
      clear c2 u2
      go_wp2_with fail
      go_ret2
      exact ⟨false, e2, rfl, .inr ⟨x, HX.out, .inl ⟨e2, he2, HY.out, rfl, rfl⟩⟩, U2.out⟩
  · rw [hx] at c1
    have HX := Lib.hid hx
    have h9 : (e1 != 0) = true := by rw [bne_iff_ne]; exact he1
    clear hx hz hz' h h' H'
    go_enter Tryd.func15, Tryd.ntmps15
    go_wp2_with fail
    refine c1.mono ?_
    rintro e w1 ⟨v1, rfl, -, u1⟩
    have U1 := Lib.hid u1
    clear c1 u1
    go_wp2_with fail
    go_ret2
    exact ⟨false, e1, rfl, .inl ⟨e1, he1, HX.out, rfl, rfl⟩, U1.out⟩
theorem nm_two : NmTwo := {
  normal := fun _ o _ h hz => pNormal o h hz (.inl sz_big)
  equal := fun _ o p _ _ h hz h' hz' => pEqual o p h hz h' hz' }
end Go.Proofs.YtofgniceilbpaaaDoor
