/-
  The program's sum, keep, gauge.of, measured, Size, Deep: what they tell of trees.
-/
import Derived.Test.YtmiicfdigkkbdaaDoorGt03
import Derived.Carry
import Derived.MapKept
namespace Go.Proofs.YtmiicfdigkkbdaaDoor
open Go.RowKit

/-! ### one block that was there may have turned -/
theorem gb_refl (w : World) (r : Option Nat) : w.grownBy w r := ⟨rfl, rfl, rfl, Nat.le_refl _, fun _ _ _ => rfl⟩
theorem gb_trans {a b c : World} {r : Option Nat} (h : a.grownBy b r) (k : b.grownBy c r) : a.grownBy c r :=
  ⟨k.os.trans h.os, k.tape.trans h.tape, k.output.trans h.output, Nat.le_trans h.size k.size, fun i hi hr => (k.block i (Nat.lt_of_lt_of_le hi h.size) hr).trans (h.block i hi hr)⟩
theorem gb_below {a b : World} {B : Nat} {r : Option Nat} (h : Below B a b) (hB : a.heap.size ≤ B) : a.grownBy b r := ⟨h.os, h.tape, h.output, h.size, fun i hi _ => h.block i (by omega)⟩
theorem gb_alloc {a b : World} {r : Option Nat} (h : a.grownBy b r) (o : Obj) : a.grownBy (b.alloc o) r := gb_trans h (gb_below ((Below.refl b.heap.size b).alloc (Nat.le_refl _) o) (Nat.le_refl _))
theorem gb_drew {a b : World} {r : Option Nat} (h : a.grownBy b r) (n : Nat) : a.grownBy (b.drewN n) r := gb_trans h ⟨rfl, rfl, rfl, Nat.le_refl _, fun _ _ _ => rfl⟩
theorem gb_set {a b : World} {r : Option Nat} (h : a.grownBy b r) (p : Addr) (u : Value) (hp : a.heap.size ≤ p.block ∨ r = some p.block) : a.grownBy (b.setCell p u) r :=
  ⟨h.os, h.tape, h.output, by have := h.size; simpa [World.setCell] using this, fun i hi hr => (Below.heap_setCell _ _ _ _ (by
    rcases hp with hp | hp
    · omega
    · intro e; exact hr (by rw [hp, e]))).trans (h.block i hi hr)⟩
theorem gb_base {a b c : World} {r : Option Nat} {B : Nat} (h : Below B a b) (k : b.grownBy c r) (hB : B ≤ b.heap.size) (hr : ∀ g, r = some g → B ≤ g) : Below B a c := h.grown k hB hr
theorem block_set {w : World} {b i : Nat} {cs : Array Value} {e : TypeId} {z : Nat × Nat} (u : Value) (h : w.heap[b]? = some (.cells cs e z)) : (w.setCell ⟨b, i, none⟩ u).heap[b]? = some (.cells (cs.setIfInBounds i u) e z) := by
  simp [World.setCell, Array.getElem?_modify, h]
theorem block_far {w : World} {b : Nat} {a : Addr} {o : Obj} (u : Value) (h : w.heap[b]? = some o) (hne : b ≠ a.block) : (w.setCell a u).heap[b]? = some o := (Below.heap_setCell _ _ _ _ hne).trans h
theorem block_alloc {w : World} {b : Nat} {o : Obj} (ob : Obj) (h : w.heap[b]? = some o) : (w.alloc ob).heap[b]? = some o := (Below.heap_alloc _ _ _ (heap_lt h)).trans h

/-! ### sum, keep -/
theorem sum_any (a b : Nat) (w : World) (ha : a ≤ 1000000000) (hb : b ≤ 1000000000) : Calls Tryd.prog 94 #[.int .i64 (a : Int), .int .i64 (b : Int)] w fun e w' => e = .returned (.int .i64 ((a : Int) + (b : Int))) ∧ w = w' := by
  have h1 : ¬ (9223372036854775807 - (b : Int)) < (a : Int) := by omega
  go_enter Tryd.func94, Tryd.ntmps94
  go_wp2_with fail
  go_ret
  exact ⟨rfl, rfl⟩
def Gg (w : World) (gb mb k : Nat) : Prop := w.heap[gb]? = some (.cells #[.int .i64 (k : Int), .map (some mb)] 131 (0, 0)) ∧ w.heap[mb]? = some (.map #[] 0)
theorem keep_any (gb mb k : Nat) (v : Value) (x : Array Value) (w : World) (h : Gg w gb mb k) (hk : k ≤ 65536) :
    Calls Tryd.prog 93 #[.pointer (some ⟨gb, 0, none⟩), v, .agg x] w fun e w' => e = .returned (.tuple #[]) ∧ Below w.heap.size w w' := by
  have c0 := cell_of_row w gb 0 _ _ _ h.1
  have h1 : ¬ (65536 : Int) < (k : Int) := by omega
  have hg := heap_lt h.1
  clear h
  go_enter Tryd.func93, Tryd.ntmps93
  go_wp2_with fail
  go_end0
  exact ⟨rfl, (Below.refl _ _).alloc (Nat.le_refl _) _⟩
theorem check_ptr (n : Nat) (v : Value) (w : World) : (Instr.checkKey true (n + 1) 25 v).run Tryd.prog w = .ok () w := by
  rw [Instr.checkKey]
  simp [run_underlying Tryd.underlying25, Result.andThen]
theorem look_empty {w : World} {mb : Nat} (v : Value) (h : w.heap[mb]? = some (.map #[] 0)) :
    (Instr.lookup 129 (.map (some mb)) v true).run Tryd.prog w = .ok (.tuple #[.agg #[.int .i64 0, .int .i64 0, .bool false], .bool false]) w := by
  have hz : (zeroValue 102).run Tryd.prog w = .ok (.agg #[.int .i64 0, .int .i64 0, .bool false]) w := by kernel_rfl
  have hc := check_ptr 9999 v w
  simp only [Nat.reduceAdd] at hc
  simp [Instr.lookup, run_underlying Tryd.underlying129, run_underlying Tryd.underlying25, MapKept.run_getObj_map h, hc, Instr.findKey, Instr.findNow, hz, Result.andThen]

/-! ### of -/
def GgPost (t : Tr) (gb mb k : Nat) (w : World) (e : Ending) (w' : World) : Prop := e = .returned (.agg #[.int .i64 (szT t : Int), .int .i64 (dpT t : Int), .bool false]) ∧ Gg w' gb mb (k + szT t) ∧ w.grownBy w' (some gb)
theorem Gg.grown {w w' : World} {gb mb k : Nat} (h : Gg w gb mb k) (hb : Below w.heap.size w w') : Gg w' gb mb k := ⟨heap_below h.1 hb, heap_below h.2 hb⟩
theorem Gg.store {w : World} {gb mb k : Nat} {z : Int} {m : Nat} (h : Gg w gb mb k) (hne : mb ≠ gb) (hz : z = (m : Int)) : Gg (w.setCell ⟨gb, 0, none⟩ (.int .i64 z)) gb mb m := by
  subst hz
  exact ⟨by rw [block_set _ h.1]; rfl, block_far _ h.2 hne⟩
theorem Gg.far {w : World} {gb mb k b i : Nat} (h : Gg w gb mb k) (u : Value) (h1 : gb ≠ b) (h2 : mb ≠ b) : Gg (w.setCell ⟨b, i, none⟩ u) gb mb k := ⟨block_far _ h.1 h1, block_far _ h.2 h2⟩
theorem Gg.kept {w w' : World} {gb mb k k' : Nat} (h : Gg w gb mb k) (hne : mb ≠ gb) (hg : w.grownBy w' (some gb)) (h' : w'.heap[gb]? = some (.cells #[.int .i64 (k' : Int), .map (some mb)] 131 (0, 0))) : Gg w' gb mb k' :=
  ⟨h', (hg.block mb (heap_lt h.2) (fun e => hne (by injection e))).trans h.2⟩
theorem gb_cell {w w' : World} {gb : Nat} (h : w.grownBy w' (some gb)) {p : Addr} {v : Value} (hc : w.cell? p = some v) (hne : p.block ≠ gb) : w'.cell? p = some v := h.cell hc fun e => hne (by injection e)
theorem InT.gb {w w' : World} {S : Nat → Prop} {v : Value} {t : Tr} {gb : Nat} (h : InT w S v t) (hS : Bel S w.heap.size) (hg : ¬ S gb) (hw : w.grownBy w' (some gb)) : InT w' S v t :=
  h.keep (fun _ h => h) fun pp hp => hw.block pp (hS _ hp) fun e => by injection e with e; exact hg (by rw [← e]; exact hp)
theorem Kid.gb {w w' : World} {S : Nat → Prop} {A : Option Addr} {r : Fr} {i gb : Nat} (h : Kid w S A r i) (hS : Bel S w.heap.size) (hg : ¬ S gb) (hw : w.grownBy w' (some gb)) : Kid w' S A r i :=
  h.keep (fun _ h => h) fun pp hp => hw.block pp (hS _ hp) fun e => by injection e with e; exact hg (by rw [← e]; exact hp)
theorem gb_block {w w' : World} {gb b : Nat} {o : Obj} (h : w.grownBy w' (some gb)) (hb : w.heap[b]? = some o) (hne : b ≠ gb) : w'.heap[b]? = some o := (h.block b (heap_lt hb) fun e => hne (by injection e)).trans hb
theorem cell3_0 {w : World} {b : Nat} {u v s : Value} {e : TypeId} {z : Nat × Nat} (h : w.heap[b]? = some (.cells #[u, v, s] e z)) : w.cell? ⟨b, 0, none⟩ = some u := cell_of_row w b 0 _ _ _ h
theorem cell3_1 {w : World} {b : Nat} {u v s : Value} {e : TypeId} {z : Nat × Nat} (h : w.heap[b]? = some (.cells #[u, v, s] e z)) : w.cell? ⟨b, 1, none⟩ = some v := cell_of_row w b 1 _ _ _ h
theorem cell3_2 {w : World} {b : Nat} {u v s : Value} {e : TypeId} {z : Nat × Nat} (h : w.heap[b]? = some (.cells #[u, v, s] e z)) : w.cell? ⟨b, 2, none⟩ = some s := cell_of_row w b 2 _ _ _ h
theorem set3 {w : World} {b : Nat} {u v s : Value} {e : TypeId} {z : Nat × Nat} (h : w.heap[b]? = some (.cells #[u, v, s] e z)) (u' v' s' : Value) : (((w.setCell ⟨b, 0, none⟩ u').setCell ⟨b, 1, none⟩ v').setCell ⟨b, 2, none⟩ s').heap[b]? = some (.cells #[u', v', s'] e z) := by
  rw [block_set _ (block_set _ (block_set _ h))]
  rfl
set_option maxHeartbeats 3200000 in
set_option maxRecDepth 100000 in
theorem of_any : ∀ (n : Nat) (t : Tr), szT t ≤ n → n ≤ 65536 → ∀ (w : World) (Sq : Nat → Prop) (v : Value) (gb mb k : Nat), Bel Sq w.heap.size → ¬ Sq gb → InT w Sq v t → Gg w gb mb k → mb ≠ gb → k + szT t ≤ 65536 →
    Calls Tryd.prog 83 #[.pointer (some ⟨gb, 0, none⟩), v] w (GgPost t gb mb k w)
  | 0, t, h, _, _, _, _, _, _, _, _, _, _, _, _, _ => absurd h (by unfold szT; omega)
  | n + 1, (x, ks), hn, hbig, w, Sq, v, gb, mb, k, hbel, hgS, hin, hgg, hmg, hk => by
    have ih := of_any n
    obtain ⟨q, p, A, c, rfl, hq1, c0, c1, c2, c3, c4, hc, hkid⟩ := hin.open
    have hqw := cell_lt c4
    have hqg : q ≠ gb := fun e => hgS (by rw [← e]; exact hq1)
    have g0 := cell_of_row w gb 0 _ _ _ hgg.1
    have g1 := cell_of_row w gb 1 _ _ _ hgg.1
    have gf := frozen_of_row w gb 0 _ _ hgg.1
    have hgw := heap_lt hgg.1
    have hmw := heap_lt hgg.2
    have hlk := fun W (hW : W.heap[mb]? = some (.map #[] 0)) => look_empty (w := W) (.pointer (some ⟨q, p, none⟩)) hW
    have hlk1 := hlk (w.alloc (.cells #[.int .i64 0, .int .i64 0, .bool false] 102)) (block_alloc _ hgg.2)
    have HG := Lib.hid hgg
    clear hgg hlk
    go_enter Tryd.func83, Tryd.ntmps83
    go_wp2_with fail
    obtain ⟨H, hH⟩ : ∃ H, w.heap.size = H := ⟨_, rfl⟩
    have hsz : szT (x, ks) = 1 + ks.sz := rfl
    have hdp : dpT (x, ks) = 1 + ks.dp := rfl
    have hll := Fr.len_le ks
    obtain ⟨W3, hW3⟩ : ∃ W3, W3 = ((w.setCell ⟨gb, 0, none⟩ (.int .i64 ((k : Int) + 1))).alloc (.cells #[.int .i64 0, .int .i64 0, .bool false] 102)).alloc (.cells #[.int .i64 0, .int .i64 0, .bool false] 102) := ⟨_, rfl⟩
    have hs0 : (w.setCell ⟨gb, 0, none⟩ (.int .i64 ((k : Int) + 1))).heap.size = H := by simp [World.setCell, hH]
    have hgg3 : Gg W3 gb mb (k + 1) := by
      rw [hW3]
      have h1 := HG.out.store (m := k + 1) hmg (z := (k : Int) + 1) (by omega)
      exact ⟨block_alloc _ (block_alloc _ h1.1), block_alloc _ (block_alloc _ h1.2)⟩
    have hR3 : W3.heap[H]? = some (.cells #[.int .i64 0, .int .i64 0, .bool false] 102 (0, 0)) := by
      rw [hW3, ← hs0]
      exact block_alloc _ (heap_alloc_new _ _)
    have hgb3 : w.grownBy W3 (some gb) := by rw [hW3]; exact gb_alloc (gb_alloc (gb_set (gb_refl w _) _ _ (.inr rfl)) _) _
    have hs3 : W3.heap.size = H + 2 := by rw [hW3]; simp; omega
    rw [← hW3]
    have HGG3 := Lib.hid hgg3
    have cK1 := keep_any gb mb (k + 1) (.pointer (some ⟨q, p, none⟩)) #[.int .i64 9223372036854775807, .int .i64 9223372036854775807, .bool false] W3 hgg3 (by omega)
    clear hgg3 hW3
    refine cK1.mono ?_
    rintro e w1 ⟨rfl, hb1⟩
    have hgg1 := HGG3.out.grown hb1
    have hR1 := heap_below hR3 hb1
    have hgb1 : w.grownBy w1 (some gb) := gb_trans hgb3 (gb_below hb1 (Nat.le_refl _))
    have hs1 := hb1.size
    rw [hs3] at hs1
    have c41 := gb_cell hgb1 c4 hqg
    obtain ⟨X, hX⟩ : ∃ X, w1.heap.size = X := ⟨_, rfl⟩
    rw [hX] at hs1
    have hqX : q < w1.heap.size := by omega
    obtain ⟨N, hN⟩ : ∃ N, ks.len = N := ⟨_, rfl⟩
    rw [hN] at c41 hll
    have hN1 : N ≤ 1000000 := by omega
    have HK : Hid (Kid (w1.alloc (.cells #[.int .i64 1, .int .i64 0, .bool false] 102)) Sq A ks 0) := Lib.hid (hkid.gb hbel hgS (gb_alloc hgb1 _))
    have HGG1 := Lib.hid hgg1
    have HR1 := Lib.hid hR1
    have HGB1 := Lib.hid hgb1
    have HNN := Lib.hid hN
    have HSZ := Lib.hid hsz
    have HDP := Lib.hid hdp
    have HX := Lib.hid hX
    have HH := Lib.hid hH
    have HN0 := Lib.hid hn
    have HIH := Lib.hid ih
    have HBEL := Lib.hid hbel
    have HGS := Lib.hid hgS
    clear hlk1 cK1 HGG3 hb1 hgb3 hR3 hgg1 hR1 hgb1 hN hsz hdp hX hkid hin c0 c1 c2 c3 c4 g0 g1 gf hs0 hs3 hH hn ih hbel hgS
    go_wp2_with fail
    have hXb : (w1.alloc (.cells #[.int .i64 1, .int .i64 0, .bool false] 102)).heap[X]? = some (.cells #[.int .i64 1, .int .i64 0, .bool false] 102 (0, 0)) := by rw [← HX.out]; exact heap_alloc_new w1 _
    have HXB := Lib.hid hXb
    rw [HX.out, HH.out]
    clear hXb
    go_loopw [9, 10, 42] (fun _ _ i wr => ∃ (j : Nat) (done rest : Fr), i = .int .i64 j ∧ j = done.len ∧ ks = done.app rest ∧ Kid wr Sq A rest j ∧ Gg wr gb mb (k + 1 + done.sz) ∧ wr.heap[X]? = some (.cells #[.int .i64 ((1 + done.sz : Nat) : Int), .int .i64 (done.dp : Int), .bool false] 102 (0, 0)) ∧
      wr.heap[H]? = some (.cells #[.int .i64 0, .int .i64 0, .bool false] 102 (0, 0)) ∧ w.grownBy wr (some gb)) (fun _ _ i _ => N - (intOf i).toNat)
    case atStart => exact ⟨0, .nil, ks, rfl, rfl, rfl, HK.out, HGG1.out.grown ((Below.refl _ _).alloc (Nat.le_refl _) _), HXB.out, block_alloc _ HR1.out, gb_alloc HGB1.out _⟩
    case round =>
      obtain ⟨j, done, rest, rfl, hj, hks, hkid, hgg, hxb, hrb, hgw⟩ := hrel
      have hl : N = done.len + rest.len := by rw [← HNN.out, hks, Fr.len_app]
      have hs : ks.sz = done.sz + rest.sz := by rw [hks, Fr.sz_app]
      have hsz := HSZ.out
      have hn := HN0.out
      have hddp := Fr.dp_le done
      have hXr := heap_lt hxb
      have hrw := hgw.size
      have HKS := Lib.hid hks
      by_cases hlt : 0 < rest.len
      · obtain ⟨y, l, r, rfl⟩ := Fr.cut hlt
        obtain ⟨kb, ko, u, rfl, hkb, hcell, hu, hnext⟩ := hkid.next
        have hyl : szT (y, l) = 1 + l.sz := rfl
        have hyd : dpT (y, l) = 1 + l.dp := rfl
        have hld := Fr.dp_le l
        have hsr : (Fr.cons y l r).sz = 1 + l.sz + r.sz := rfl
        have hlr : (Fr.cons y l r).len = r.len + 1 := rfl
        have hbelr : Bel Sq wr.heap.size := fun q' h' => by have := HBEL.out q' h'; omega
        have cI := HIH.out (y, l) (by omega) (by omega) wr Sq u gb mb (k + 1 + done.sz) hbelr HGS.out hu hgg hmg (by omega)
        have HNX : Hid (∀ w2, wr.grownBy w2 (some gb) → Kid w2 Sq (some ⟨kb, ko, none⟩) r (j + 1)) := Lib.hid fun w2 hw2 => hnext.gb hbelr HGS.out hw2
        have hjz : (j : Int) < (N : Int) := by omega
        obtain ⟨Z, hZ⟩ : ∃ Z, szT (y, l) = Z := ⟨_, rfl⟩
        obtain ⟨D, hD⟩ : ∃ D, dpT (y, l) = D := ⟨_, rfl⟩
        obtain ⟨S, hS⟩ : ∃ S, 1 + done.sz = S := ⟨_, rfl⟩
        obtain ⟨E, hE⟩ : ∃ E, done.dp = E := ⟨_, rfl⟩
        rw [hS, hE] at hxb
        have hSb : S ≤ 65536 ∧ Z ≤ 65536 ∧ E ≤ 65536 ∧ D ≤ 65536 := by omega
        have HSN : Hid (1 + (done.app (.cons y l .nil)).sz = S + Z) := Lib.hid (by rw [Fr.sz_app]; simp only [Fr.sz]; omega)
        have HEN : Hid ((done.app (.cons y l .nil)).dp = max E D) := Lib.hid (by rw [Fr.dp_app]; simp only [Fr.dp]; omega)
        have HLN : Hid (j + 1 = (done.app (.cons y l .nil)).len) := Lib.hid (by rw [Fr.len_app]; simp only [Fr.len]; omega)
        have HKN : Hid (k + 1 + done.sz + szT (y, l) = k + 1 + (done.app (.cons y l .nil)).sz) := Lib.hid (by rw [Fr.sz_app]; simp only [Fr.sz]; omega)
        have HZ := Lib.hid hZ
        have HD := Lib.hid hD
        have HRB := Lib.hid hrb
        have HXBR := Lib.hid hxb
        have HGW := Lib.hid hgw
        have hXg : X ≠ gb := by have := HX.out; have := HGB1.out.size; have := HH.out; omega
        have hXm : X ≠ mb := by have := HX.out; have := HGB1.out.size; have := HH.out; omega
        have HHG : Hid (H ≠ gb) := Lib.hid (by have := HH.out; omega)
        have cS := fun W => sum_any S Z W (by omega) (by omega)
        have hjN : j < N := by omega
        clear hkid hnext hu hks hj hl hlr hsr hsz hyl hyd hld hZ hD hE hS hbelr hgg hgw hn hddp hxb hrb hs
        go_wp2_with fail
        refine cI.mono ?_
        rintro e w2 ⟨rfl, hgg2, hgw2⟩
        rw [HZ.out, HD.out]
        have HGG2 := Lib.hid hgg2
        have HGW2 := Lib.hid hgw2
        have hs2 := hgw2.size
        have hx2 : X < w2.heap.size := by omega
        have hxb2 := gb_block hgw2 HXBR.out hXg
        have HXB2 := Lib.hid hxb2
        have cx0 := cell3_0 hxb2
        have cx1 := cell3_1 hxb2
        have cx2 := cell3_2 hxb2
        have fx := fun i => frozen_of_row w2 X i _ _ hxb2
        have fx0 := fx 0
        have fx1 := fx 1
        have fx2 := fx 2
        clear hgg2 hgw2 hxb2 fx
        go_wp2_with fail
        refine (cS _).mono ?_
        rintro e w3 ⟨rfl, rfl⟩
        go_wp2_with fail
        go_roundw
        case rel =>
          have hmx : max (E : Int) (D : Int) = (if E < D then (D : Int) else (E : Int)) := by split <;> omega
          try rw [hmx]
          clear hmx
          have hset := set3 HXB2.out (.int .i64 ((S : Int) + (Z : Int))) (.int .i64 (if E < D then (D : Int) else (E : Int))) (.bool false)
          have hgbw : w.grownBy ((((w2.setCell ⟨X, 0, none⟩ (.int .i64 ((S : Int) + (Z : Int)))).setCell ⟨X, 1, none⟩ (.int .i64 (if E < D then (D : Int) else (E : Int)))).setCell ⟨X, 2, none⟩ (.bool false)).alloc (.cells #[.int .i64 (Z : Int), .int .i64 (D : Int), .bool false] 102)) (some gb) := by
            have hX' : w.heap.size ≤ X := by rw [HH.out]; omega
            exact gb_alloc (gb_set (gb_set (gb_set (gb_trans HGW.out HGW2.out) _ _ (.inl hX')) _ _ (.inl hX')) _ _ (.inl hX')) _
          refine ⟨j + 1, done.app (.cons y l .nil), r, by go_num, HLN.out, by rw [HKS.out, Fr.app_cons], ?_, ?_, ?_, ?_, hgbw⟩
          · refine (HNX.out w2 HGW2.out).keep (fun _ h => h) fun pp hp => ?_
            have hpw : pp < w.heap.size := HBEL.out _ hp
            have h1 := HH.out
            rw [Below.heap_alloc _ _ _ (by simp [World.setCell]; omega), Below.heap_setCell _ _ _ _ (by simp only; omega), Below.heap_setCell _ _ _ _ (by simp only; omega), Below.heap_setCell _ _ _ _ (by simp only; omega)]
          · rw [← HKN.out]
            exact (((HGG2.out.far _ (Ne.symm hXg) (Ne.symm hXm)).far _ (Ne.symm hXg) (Ne.symm hXm)).far _ (Ne.symm hXg) (Ne.symm hXm)).grown ((Below.refl _ _).alloc (Nat.le_refl _) _)
          · rw [HSN.out, HEN.out]
            have e1 : ((S + Z : Nat) : Int) = (S : Int) + (Z : Int) := by omega
            have e2 : ((max E D : Nat) : Int) = if E < D then (D : Int) else (E : Int) := by split <;> omega
            rw [e1, e2]
            exact block_alloc _ hset
          · have hHX : H ≠ X := by omega
            exact block_alloc _ (block_far _ (block_far _ (block_far _ (gb_block HGW2.out HRB.out HHG.out) hHX) hHX) hHX)
        case measure => simp [intOf]; omega
      · have h0 : rest = .nil := by
          cases rest with
          | nil => rfl
          | cons y l r => exact absurd (Nat.succ_pos _) hlt
        subst h0
        have hjz : ¬ (j : Int) < (N : Int) := by have : (Fr.nil).len = 0 := rfl; omega
        have hfin : ks = done := by rw [hks, Fr.app_nil]
        obtain ⟨S, hS⟩ : ∃ S, 1 + done.sz = S := ⟨_, rfl⟩
        obtain ⟨D, hD⟩ : ∃ D, done.dp = D := ⟨_, rfl⟩
        have hsn : (Fr.nil).sz = 0 := rfl
        have hSb : S ≤ 65536 ∧ D ≤ 65536 ∧ k + S ≤ 65536 := by omega
        rw [hS, hD] at hxb
        have HSZ' : Hid (szT (x, ks) = S) := Lib.hid (by omega)
        have HDP' : Hid (dpT (x, ks) = D + 1) := Lib.hid (by rw [HDP.out, hfin, hD]; omega)
        have HGGR : Hid (Gg wr gb mb (k + S)) := Lib.hid (by rw [← hS]; have e : k + (1 + done.sz) = k + 1 + done.sz := by omega
                                                             rw [e]; exact hgg)
        have cx0 := cell3_0 hxb
        have cx1 := cell3_1 hxb
        have cx2 := cell3_2 hxb
        have fx := fun i => frozen_of_row wr X i _ _ hxb
        have fx0 := fx 0
        have fx1 := fx 1
        have fx2 := fx 2
        have HRB := Lib.hid hrb
        have HXBR := Lib.hid hxb
        have HGW := Lib.hid hgw
        have cS := fun W => sum_any D 1 W (by omega) (by omega)
        clear hkid hks hj hl hsz hS hD hn hddp hxb hrb hs hgg hgw hfin hsn fx
        go_wp2_with fail
        refine (cS _).mono ?_
        rintro e w3 ⟨rfl, rfl⟩
        go_wp2_with fail
        have hggK : Gg (wr.setCell ⟨X, 1, none⟩ (.int .i64 ((D : Int) + 1))) gb mb (k + S) := HGGR.out.far _ (by have := HX.out; have := HGB1.out.size; have := HH.out; omega) (by have := HX.out; have := HGB1.out.size; have := HH.out; omega)
        have hxbK : (wr.setCell ⟨X, 1, none⟩ (.int .i64 ((D : Int) + 1))).heap[X]? = some (.cells #[.int .i64 (S : Int), .int .i64 ((D : Int) + 1), .bool false] 102 (0, 0)) := by
          rw [block_set _ HXBR.out]
          rfl
        have hrbK : (wr.setCell ⟨X, 1, none⟩ (.int .i64 ((D : Int) + 1))).heap[H]? = some (.cells #[.int .i64 0, .int .i64 0, .bool false] 102 (0, 0)) := block_far _ HRB.out (by simp only; omega)
        have hgwK : w.grownBy (wr.setCell ⟨X, 1, none⟩ (.int .i64 ((D : Int) + 1))) (some gb) := gb_set HGW.out _ _ (.inl (by rw [HH.out]; simp only; omega))
        have cK := keep_any gb mb (k + S) (.pointer (some ⟨q, p, none⟩)) #[.int .i64 (S : Int), .int .i64 ((D : Int) + 1), .bool false] _ hggK (by omega)
        have HGGK := Lib.hid hggK
        have HXBK := Lib.hid hxbK
        have HRBK := Lib.hid hrbK
        have HGWK := Lib.hid hgwK
        clear hggK hxbK hrbK hgwK
        refine cK.mono ?_
        rintro e w5 ⟨rfl, hb5⟩
        have HB5 := Lib.hid hb5
        have hxb5 := heap_below HXBK.out hb5
        have hrb5 := heap_below HRBK.out hb5
        have dx0 := cell3_0 hxb5
        have dx1 := cell3_1 hxb5
        have dx2 := cell3_2 hxb5
        have dr0 := cell3_0 hrb5
        have dr1 := cell3_1 hrb5
        have dr2 := cell3_2 hrb5
        have gx := fun i => frozen_of_row w5 H i _ _ hrb5
        have gx0 := gx 0
        have gx1 := gx 1
        have gx2 := gx 2
        have hHX : H < X := by omega
        clear cK cx0 cx1 cx2 fx0 fx1 fx2 hb5 hxb5 hrb5 gx
        go_wp2_with fail
        have hgwF : w.grownBy (((w5.setCell ⟨H, 0, none⟩ (.int .i64 (S : Int))).setCell ⟨H, 1, none⟩ (.int .i64 ((D : Int) + 1))).setCell ⟨H, 2, none⟩ (.bool false)) (some gb) := by
          have hX' : w.heap.size ≤ H := by rw [HH.out]; omega
          exact gb_set (gb_set (gb_set (gb_trans HGWK.out (gb_below HB5.out (Nat.le_refl _))) _ _ (.inl hX')) _ _ (.inl hX')) _ _ (.inl hX')
        have hHg : gb ≠ H := by have := HH.out; omega
        have hHm : mb ≠ H := by have := HH.out; omega
        have hggF := (((HGGK.out.grown HB5.out).far (b := H) (i := 0) (.int .i64 (S : Int)) hHg hHm).far (b := H) (i := 1) (.int .i64 ((D : Int) + 1)) hHg hHm).far (b := H) (i := 2) (.bool false) hHg hHm
        exact bodyPost_ret (v := .agg #[.int .i64 (S : Int), .int .i64 ((D : Int) + 1), .bool false]) (by simp [results, Tryd.results83, go_sem, dr0, dr1, dr2]) rfl ⟨by rw [HSZ'.out, HDP'.out]; rfl, by rw [HSZ'.out]; exact hggF, hgwF⟩
theorem of_nil (gb : Nat) (w : World) :
    Calls Tryd.prog 83 #[.pointer (some ⟨gb, 0, none⟩), .pointer none] w fun e w' => e = .returned (.agg #[.int .i64 0, .int .i64 0, .bool true]) ∧ Below w.heap.size w w' := by
  go_enter Tryd.func83, Tryd.ntmps83
  go_wp2_with fail
  exact bodyPost_ret (v := .agg #[.int .i64 0, .int .i64 0, .bool true]) (by simp [results, Tryd.results83, go_sem]) rfl ⟨rfl, ((Below.refl _ _).alloc (Nat.le_refl _) _)⟩

/-! ### measured, Size, Deep, endless -/
def MePost (s d : Nat) (g : Bool) (w : World) (e : Ending) (w' : World) : Prop := e = .returned (.agg #[.int .i64 (s : Int), .int .i64 (d : Int), .bool g]) ∧ Below w.heap.size w w'
def NbPost (n : Nat) (w : World) (e : Ending) (w' : World) : Prop := e = .returned (.int .i64 (n : Int)) ∧ Below w.heap.size w w'
set_option maxHeartbeats 1600000 in
set_option maxRecDepth 100000 in
theorem measured_any (o : Option Tr) (w : World) (Sq : Nat → Prop) (v : Value) (hbel : Bel Sq w.heap.size) (hin : InO w Sq v o) (hsz : szO o ≤ 65536) :
    Calls Tryd.prog 60 #[v] w (MePost (szO o) (dpO o) (o.isNone) w) := by
  have hmm := @run_makeMap Tryd.prog
  have three := three_blocks w (.cells #[.int .i64 0, .int .i64 0, .bool false] 102) (.map #[] 0) (.cells #[.int .i64 0, .map (some (w.heap.size + 1))] 131) rfl
  obtain ⟨H, hH⟩ : ∃ H, w.heap.size = H := ⟨_, rfl⟩
  rw [hH] at three hbel
  have HT := Lib.hid three
  have HH := Lib.hid hH
  clear three
  obtain ⟨S, hS⟩ : ∃ S, szO o = S := ⟨_, rfl⟩
  obtain ⟨D, hD⟩ : ∃ D, dpO o = D := ⟨_, rfl⟩
  obtain ⟨G, hG⟩ : ∃ G, o.isNone = G := ⟨_, rfl⟩
  have HS := Lib.hid hS
  have HD := Lib.hid hD
  have HG := Lib.hid hG
  have HBEL := Lib.hid hbel
  have HIN := Lib.hid hin
  rw [hS, hD, hG]
  clear hH hbel hin hS hD hG
  go_enter Tryd.func60, Tryd.ntmps60
  go_wp2_with fail
  rw [HH.out]
  obtain ⟨W, hW⟩ : ∃ W, W = ((w.alloc (.cells #[.int .i64 0, .int .i64 0, .bool false] 102)).alloc (.map #[] 0)).alloc (.cells #[.int .i64 0, .map (some (H + 1))] 131) := ⟨_, rfl⟩
  have ht := HT.out
  rw [← hW] at ht ⊢
  obtain ⟨t1, t2, t3, hb1, hs1⟩ := ht
  have hgg : Gg W (H + 2) (H + 1) 0 := ⟨t3, t2⟩
  have key : Calls Tryd.prog 83 #[.pointer (some ⟨H + 1 + 1, 0, none⟩), v] W fun e w' => e = .returned (.agg #[.int .i64 (S : Int), .int .i64 (D : Int), .bool G]) ∧ W.grownBy w' (some (H + 2)) := by
    rw [← HS.out, ← HD.out, ← HG.out]
    cases o with
    | none =>
      have hv : v = .pointer none := HIN.out
      subst hv
      refine (of_nil (H + 2) W).mono ?_
      rintro e w' ⟨rfl, hb⟩
      exact ⟨rfl, gb_below hb (Nat.le_refl _)⟩
    | some t =>
      refine (of_any (szT t) t (Nat.le_refl _) hsz W Sq v (H + 2) (H + 1) 0 (fun q h => by have := HBEL.out q h; omega) (fun h => by have := HBEL.out _ h; omega) (InT.below HIN.out HBEL.out hb1) hgg (by omega) (by have : szO (some t) = szT t := rfl; omega)).mono ?_
      rintro e w' ⟨rfl, _, hb⟩
      exact ⟨rfl, hb⟩
  have HT1 := Lib.hid t1
  have HB1 := Lib.hid hb1
  have HHs := Lib.hid hs1
  clear t1 t2 t3 hgg hW hb1 hs1 HT
  refine key.mono ?_
  rintro e w1 ⟨rfl, hg1⟩
  have hr1 := gb_block hg1 HT1.out (by omega)
  have dr0 := cell3_0 hr1
  have dr1 := cell3_1 hr1
  have dr2 := cell3_2 hr1
  have gx := fun i => frozen_of_row w1 H i _ _ hr1
  have gx0 := gx 0
  have gx1 := gx 1
  have gx2 := gx 2
  have HG1 := Lib.hid hg1
  clear key hr1 gx hg1
  go_wp2_with fail
  have hbF : Below H w (((w1.setCell ⟨H, 0, none⟩ (.int .i64 (S : Int))).setCell ⟨H, 1, none⟩ (.int .i64 (D : Int))).setCell ⟨H, 2, none⟩ (.bool G)) :=
    (((gb_base HB1.out HG1.out (by have := HHs.out; omega) (fun g hg => by injection hg with hg; omega)).setCell (Nat.le_refl _) _).setCell (Nat.le_refl _) _).setCell (Nat.le_refl _) _
  exact bodyPost_ret (v := .agg #[.int .i64 (S : Int), .int .i64 (D : Int), .bool G]) (by simp [results, Tryd.results60, go_sem, dr0, dr1, dr2]) rfl ⟨rfl, by rw [HH.out]; exact hbF⟩
theorem field0 (a b g : Value) (w : World) : (Instr.field 102 (.agg #[a, b, g]) 0).run Tryd.prog w = (.ok a w : Result Value) := by kernel_rfl
theorem arSize (o : Option Tr) (w : World) (Sq : Nat → Prop) (v : Value) (hbel : Bel Sq w.heap.size) (hin : InO w Sq v o) (hsz : szO o ≤ 65536) :
    Calls Tryd.prog 32 #[v] w (NbPost (szO o) w) := by
  have cM := measured_any o w Sq v hbel hin hsz
  obtain ⟨S, hS⟩ : ∃ S, szO o = S := ⟨_, rfl⟩
  obtain ⟨D, hD⟩ : ∃ D, dpO o = D := ⟨_, rfl⟩
  obtain ⟨G, hG⟩ : ∃ G, o.isNone = G := ⟨_, rfl⟩
  rw [hS, hD, hG] at cM
  rw [hS]
  clear hbel hin hS hD hG
  go_enter Tryd.func32, Tryd.ntmps32
  go_wp2_with fail
  refine cM.mono ?_
  rintro e w1 ⟨rfl, hb⟩
  have hf := field0 (.int .i64 (S : Int)) (.int .i64 (D : Int)) (.bool G) w1
  go_wp2_with fail
  go_ret
  exact ⟨rfl, hb⟩
end Go.Proofs.YtmiicfdigkkbdaaDoor
