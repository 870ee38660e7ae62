/-
  Layer 5, the library's Grow, Concat and Repeat at lists of checks: what they make.
-/
import Derived.Test.YtoejegndbcbkmaaMgA
import Derived.Test.YtoejegndbcbkmaaShelf
import Derived.Test.YtoejegndbcbkmaaMgJ
import Derived.Test.YtoejegndbcbkmaaSpbM
import Derived.Laws.AppendOwnNone
import Derived.Laws.CopyOwn
import Derived.Lib.AppendZeros
namespace Go.Proofs.Ytoejegndbcbkmaa
open Go.RowKit

theorem infoCk : (Try.prog.info? 71).map (fun i => (i.zero, i.size, i.bytes)) = some (some .nilFunc, 1, 8) := by kernel_rfl
/-- A list of function values of the call's own. -/
def OwnCk (w : World) (B : Nat) (v : Value) (vs : List Value) : Prop := w.ownsRow B 71 1 v vs.length vs
def RowPost (vs : List Value) (w : World) (e : Ending) (w' : World) : Prop := ∃ v, e = .returned v ∧ OwnCk w' w.heap.size v vs ∧ Below w.heap.size w w'
set_option maxHeartbeats 3200000 in
set_option maxRecDepth 100000 in
theorem grow_any (n : Nat) (w : World) (hn : n ≤ 1000000) : Calls Try.prog 81 #[.slice none 0 0, .int .i64 (n : Int)] w (RowPost [] w) := by
  by_cases h0 : n = 0
  · subst h0
    go_enter Try.func81, Try.ntmps81
    go_wp2_with fail
    go_ret
    exact ⟨_, rfl, World.ownsRow_nil _ _ _ _, Below.refl _ _⟩
  · obtain ⟨i0, hi, hz0, hz1, hz2⟩ := info_parts infoCk
    have hrun := Lib.run_append_nil_zeros (P := Try.prog) w 84 3 84 71 i0 _ .i64 .i64 Try.underlying84 Try.underlying3 hi hz0 n (by omega) (by omega) (by omega) (by rw [hz2]; omega)
    obtain ⟨C, hC⟩ : ∃ C, Go.grownCap w n 0 71 = C := ⟨_, rfl⟩
    have hge : n ≤ C := by rw [← hC]; exact grownCap_ge _ _ _ _
    have hle : C ≤ maxLen := by rw [← hC]; exact grownCap_le_maxLen _ _ _ _ (by unfold maxLen; omega)
    rw [hC] at hrun
    obtain ⟨cs, hcs⟩ : ∃ cs, Go.Builtin.zeroCells Value.nilFunc.cells n ++ Go.Builtin.zeroCells Value.nilFunc.cells (C - n) = cs := ⟨_, rfl⟩
    have hsz : cs.size = C * 1 := by rw [← hcs, Array.size_append, size_zeroCells, size_zeroCells]; show n * 1 + (C - n) * 1 = C * 1; omega
    rw [hcs] at hrun
    have h1 : ¬ (n : Int) < 0 := by omega
    have h2 : 0 < (n : Int) := by omega
    have hb : Below w.heap.size w (w.drew.alloc (.cells cs 71)) := (Below.refl w.heap.size w).drew.alloc (Nat.le_refl _) _
    have ho := World.ownsRow_made (base := w.heap.size) (e := 71) (size := 1) w.drew cs C (Nat.le_refl _) hle hsz
    have HO := Lib.hid ho
    have HB := Lib.hid hb
    clear hi hz0 hz1 hz2 hC hcs hsz ho hb
    go_enter Try.func81, Try.ntmps81
    go_wp2_with (at_builtin; refine Lib.wpList_append_run _ rfl _ _ _ _ rfl _ _ rfl rfl _ _ hrun ?_)
    go_ret
    exact ⟨_, rfl, HO.out, HB.out⟩
/-- A value that reads as a list of function values. -/
def Rds (w : World) (v : Value) (vs : List Value) : Prop := (v = .slice none 0 0 ∧ vs = []) ∨ ∃ g o c, v = .slice (some ⟨g, o, none⟩) vs.length c ∧ g < w.heap.size ∧ ∀ (j : Nat) u, vs[j]? = some u → w.cell? ⟨g, o + j, none⟩ = some u
theorem Rds.below {w w' : World} {v : Value} {vs : List Value} (h : Rds w v vs) (hb : Below w.heap.size w w') : Rds w' v vs := by
  rcases h with h | ⟨g, o, c, rfl, hg, h⟩
  · exact .inl h
  · exact .inr ⟨g, o, c, rfl, Nat.lt_of_lt_of_le hg hb.size, fun j u hu => hb.cell hg |>.trans (h j u hu)⟩
def Fv (vs : List Value) : Prop := ∀ u ∈ vs, u.oneCell' = true
theorem wpList_appC {w : World} {ops : Array Oper} {rest : List Oper} {o : Oper} {a : Act} {Q : Exit → Act → World → Prop} (hgd : o.guard = none) (s x : Operand)
    (ho : o.op = .call { callee := .builtin .append, args := #[s, x], argTypes := #[84, 84] }) {B : Nat} {v u : Value} {vs us : List Value} (hs : a.eval s = v) (hown : OwnCk w B v vs)
    (hx : a.eval x = u) (hr : Rds w u us) (h1 : Fv us) (hl : vs.length + us.length ≤ 2000000) (hB : B ≤ w.heap.size)
    (h : ∀ v' w', OwnCk w' B v' (vs ++ us) → w.grownBy w' v.ownBlock → wpList Try.prog ops Q rest (a.put o.dst v') w') : wpList Try.prog ops Q (o :: rest) a w := by
  obtain ⟨i0, hi, hz0, hz1, hz2⟩ := info_parts infoCk
  rcases hr with ⟨rfl, rfl⟩ | ⟨g, p, c, rfl, hg, hc⟩
  · refine wpList_append_own_none hgd s x 84 ho B 71 i0 1 Try.underlying84 hi v vs.length vs hs hown hx (h v w ?_ (gb_refl _ _))
    rw [List.append_nil]
    exact hown
  · refine wpList_append_own w hgd s x 84 ho B 71 i0 _ 1 8 Try.underlying84 hi hz0 hz1 hz2 rfl (by omega) v vs.length vs hs hown ⟨g, p, none⟩ us.length c us hx (by omega) (fun j u hu => ?_) h1 (by unfold maxLen; omega) (by omega) hB ?_
    · rw [addAt]
      exact hc j u hu
    · intro v' w' ho' hg' _
      refine h v' w' ?_ hg'
      unfold OwnCk
      rw [List.length_append]
      exact ho'
theorem own_ge {w : World} {B : Nat} {v : Value} {vs : List Value} (h : OwnCk w B v vs) : ∀ g, v.ownBlock = some g → B ≤ g := fun g hg => (World.ownsRow.lt h g hg).1
set_option maxHeartbeats 3200000 in
set_option maxRecDepth 100000 in
theorem concat_any (g0 : Nat) (u1 u2 : Value) (n1 n2 c1 c2 : Nat) (A1 A2 : Option Addr) (l1 l2 : List Value) (w : World) (h1 : u1 = .slice A1 n1 c1) (h2 : u2 = .slice A2 n2 c2) (hn1 : l1.length = n1) (hn2 : l2.length = n2)
    (hg : w.heap[g0]? = some (.cells #[u1, u2] 84 (0, 0))) (r1 : Rds w u1 l1) (r2 : Rds w u2 l2) (f1 : Fv l1) (f2 : Fv l2) (hl1 : n1 ≤ 400000) (hl2 : n2 ≤ 400000) :
    Calls Try.prog 69 #[.slice (some ⟨g0, 0, none⟩) 2 2] w (RowPost (l1 ++ l2) w) := by
  have k1 : w.cell? ⟨g0, 0, none⟩ = some u1 := cell_of_row w g0 0 _ _ _ hg
  have k2 : w.cell? ⟨g0, 1, none⟩ = some u2 := cell_of_row w g0 1 _ _ _ hg
  have hgl := heap_lt hg
  obtain ⟨N, hN⟩ : ∃ N, n1 + n2 = N := ⟨_, rfl⟩
  have cG := fun W => grow_any N W (by omega)
  have R1 := Lib.hid r1
  have R2 := Lib.hid r2
  have K1 := Lib.hid k1
  have K2 := Lib.hid k2
  have U1 := Lib.hid h1
  have U2 := Lib.hid h2
  have F1 := Lib.hid f1
  have F2 := Lib.hid f2
  have CG := Lib.hid cG
  clear r1 r2 hg h1 h2 f1 f2 cG k1 k2
  go_enter Try.func69, Try.ntmps69
  go_wp2_with fail
  go_loopw [3, 5, 11] (fun sz _ i wr => ∃ k : Nat, k ≤ 2 ∧ i = .int .i64 k ∧ sz = .int .i64 ((if k = 0 then 0 else if k = 1 then n1 else N : Nat) : Int) ∧ wr = w) (fun _ _ i _ => 2 - (intOf i).toNat)
  case atStart => exact ⟨0, by omega, rfl, rfl, rfl⟩
  case round =>
    obtain ⟨k, hk, rfl, rfl, rfl⟩ := hrel
    rcases (by omega : k = 0 ∨ k = 1 ∨ k = 2) with rfl | rfl | rfl
    · have e1 := K1.out
      rw [U1.out] at e1
      have e2 : ¬ (n1 : Int) < 0 := by omega
      go_wp2_with fail
      go_roundw
      case rel => exact ⟨1, by omega, by go_num, by simp, by trivial⟩
      case measure => simp [intOf]
    · have e1 := K2.out
      rw [U2.out] at e1
      have e2 : ¬ (n1 : Int) + (n2 : Int) < 0 := by omega
      go_wp2_with fail
      go_roundw
      case rel => exact ⟨2, by omega, by go_num, i64_eq (by simp; omega), by trivial⟩
      case measure => simp [intOf]
    · go_wp2_with fail
      refine (CG.out _).mono ?_
      rintro e w1 ⟨v1, rfl, o1, b1⟩
      have O1 := Lib.hid o1
      have B1 := Lib.hid b1
      clear o1 b1
      go_wp2_with fail
      obtain ⟨L, hL⟩ : ∃ L : Nat → List Value, L = fun k => if k = 0 then [] else if k = 1 then l1 else l1 ++ l2 := ⟨_, rfl⟩
      have L0 : L 0 = [] := by rw [hL]; rfl
      have L1 : L 1 = l1 := by rw [hL]; rfl
      have L2 : L 2 = l1 ++ l2 := by rw [hL]; rfl
      clear hL
      go_loopw [6, 8, 27] (fun nv _ i w2 => ∃ k : Nat, k ≤ 2 ∧ i = .int .i64 k ∧ OwnCk w2 wr.heap.size nv (L k) ∧ Below wr.heap.size wr w2) (fun _ _ i _ => 2 - (intOf i).toNat)
      case atStart => exact ⟨0, by omega, rfl, by rw [L0]; exact O1.out, B1.out⟩
      case round =>
        obtain ⟨k, hk2, rfl, ho, hb⟩ := hrel
        have HO := Lib.hid ho
        have HB := Lib.hid hb
        have hbs := hb.size
        clear ho hb hk
        rename_i w2
        rcases (by omega : k = 0 ∨ k = 1 ∨ k = 2) with rfl | rfl | rfl
        · have e1 := HB.out.cell (p := ⟨g0, 0, none⟩) hgl |>.trans K1.out
          go_wp2_with (at_builtin; refine wpList_appC rfl _ _ rfl rfl HO.out rfl (R1.out.below HB.out) F1.out (by rw [L0, hn1]; simp; omega) hbs ?_; intro v3 w3 o3 g3)
          go_roundw
          case rel => exact ⟨1, by omega, by go_num, by rw [L1]; rw [L0] at o3; exact o3, HB.out.grown g3 hbs (own_ge HO.out)⟩
          case measure => simp [intOf]
        · have e1 := HB.out.cell (p := ⟨g0, 1, none⟩) hgl |>.trans K2.out
          go_wp2_with (at_builtin; refine wpList_appC rfl _ _ rfl rfl HO.out rfl (R2.out.below HB.out) F2.out (by rw [L1, hn1, hn2]; omega) hbs ?_; intro v3 w3 o3 g3)
          go_roundw
          case rel => exact ⟨2, by omega, by go_num, by rw [L2]; rw [L1] at o3; exact o3, HB.out.grown g3 hbs (own_ge HO.out)⟩
          case measure => simp [intOf]
        · go_wp2_with fail
          go_ret
          exact ⟨_, rfl, by rw [← L2]; exact HO.out, HB.out⟩
end Go.Proofs.Ytoejegndbcbkmaa
/-
  Layer 5, the library's Repeat at lists of checks: what it makes.
-/
namespace Go.Proofs.Ytoejegndbcbkmaa
open Go.RowKit

theorem splice_len {α : Type} (L : List α) (k : Nat) (cs : List α) (h : k + cs.length ≤ L.length) : (splice L k cs).length = L.length := length_splice L k cs h
theorem splice_more {fv : Value} {L : List Value} {k m : Nat} (h : k + m ≤ L.length) (hL : ∀ (j : Nat), j < k → L[j]? = some fv) : ∀ (j : Nat), j < k + m → (splice L k (List.replicate m fv))[j]? = some fv := by
  intro j hj
  unfold splice
  by_cases h1 : j < k
  · rw [List.getElem?_append_left (by rw [List.length_take]; omega), List.getElem?_take_of_lt h1]
    exact hL j h1
  · rw [List.getElem?_append_right (by rw [List.length_take]; omega), List.length_take, Nat.min_eq_left (by omega), List.getElem?_append_left (by rw [List.length_replicate]; omega), List.getElem?_replicate, if_pos (by omega)]
theorem fv_rep {fv : Value} (h : fv.oneCell' = true) (m : Nat) : ∀ v ∈ List.replicate m fv, v.oneCell' = true := fun v hv => by rw [List.eq_of_mem_replicate hv]; exact h
def RepPost (fv : Value) (n : Nat) (w : World) (e : Ending) (w' : World) : Prop := ∃ v, e = .returned v ∧ (∃ A c, v = .slice A n c) ∧ Rds w' v (List.replicate n fv) ∧ Below w.heap.size w w'
theorem rep_ret {fv : Value} {n H : Nat} {w w' : World} {L : List Value} (_hH : w.heap.size = H) (hr : w'.heap[H]? = some (.cells L.toArray 71 (0, 0))) (_hl : L.length = n) (hL : ∀ (j : Nat), j < n → L[j]? = some fv) (hb : Below w.heap.size w w') :
    RepPost fv n w (.returned (.slice (some ⟨H, 0, none⟩) n n)) w' := by
  refine ⟨_, rfl, ⟨_, _, rfl⟩, .inr ⟨H, 0, n, by rw [List.length_replicate], heap_lt hr, fun j u hu => ?_⟩, hb⟩
  rw [Nat.zero_add, cell_of_row w' H j _ _ _ hr]
  rw [List.getElem?_replicate] at hu
  by_cases h : j < n
  · rw [if_pos h] at hu
    rw [← hu, List.getElem?_toArray]
    exact hL j h
  · rw [if_neg h] at hu; cases hu
set_option maxHeartbeats 3200000 in
set_option maxRecDepth 100000 in
theorem repeat_any (gx c : Nat) (fv : Value) (n : Nat) (w : World) (hx : w.cell? ⟨gx, 0, none⟩ = some fv) (h1 : fv.oneCell' = true) (hn : n ≤ 400000) :
    Calls Try.prog 70 #[.slice (some ⟨gx, 0, none⟩) 1 c, .int .i64 (n : Int)] w (RepPost fv n w) := by
  have cM : ∀ W, Calls Try.prog 82 #[.int .u64 1, .int .u64 (n : Int)] W fun e w' => e = .returned (.tuple #[.int .u64 0, .int .u64 (n : Int)]) ∧ w' = W := fun W => by
    have := Try.bits_Mul 1 n (by omega) (by omega) W
    rw [Nat.one_mul, Nat.div_eq_of_lt (by omega), Nat.mod_eq_of_lt (by omega)] at this
    exact this
  have hxl : gx < w.heap.size := cell_lt hx
  obtain ⟨i0, hi, hz0, hz1, hz2⟩ := info_parts infoCk
  obtain ⟨H, hH⟩ : ∃ H, w.heap.size = H := ⟨_, rfl⟩
  have hrun := fun (W : World) => run_make (P := Try.prog) W 84 71 i0 _ Try.underlying84 hi hz0 .i64 .i64 (n : Int) (n : Int) (by omega) (Int.le_refl _) (by rw [hz2]; omega) (by omega)
  obtain ⟨Z, hZ⟩ : ∃ Z : List Value, (madeCells Value.nilFunc.cells ((n : Int).toNat * i0.size)) = Z.toArray := ⟨_, (Array.toArray_toList).symm⟩
  have hZl : Z.length = n := by
    have := congrArg Array.size hZ
    rw [size_madeCells] at this
    simp only [List.size_toArray, Int.toNat_natCast, hz1] at this
    omega
  rw [hZ] at hrun
  simp only [Int.toNat_natCast] at hrun
  have hb0 : Below w.heap.size w (w.alloc (.cells Z.toArray 71)) := (Below.refl _ _).alloc (Nat.le_refl _) _
  have hr0 : (w.alloc (.cells Z.toArray 71)).heap[H]? = some (.cells Z.toArray 71 (0, 0)) := by rw [← hH]; exact heap_alloc_new w _
  have hx0 := hb0.cell hxl |>.trans hx
  have hrw := hrun w
  have hbig : ¬ (9223372036854775807 : Int) < (n : Int) := by omega
  have hcu : IntKind.u64.wrap (n : Int) = n := by show (n : Int) % 18446744073709551616 = n; omega
  have hci : IntKind.i64.wrap (n : Int) = n := by rw [IntKind.wrap_i64]; omega
  rw [hH] at hrw
  have HH := Lib.hid hH
  have HR0 := Lib.hid hr0
  have HB0 := Lib.hid hb0
  have HBH : Hid (Below H w (w.alloc (.cells Z.toArray 71))) := Lib.hid (by rw [← hH]; exact hb0)
  have HX0 := Lib.hid hx0
  have HZL := Lib.hid hZl
  clear hi hz0 hz1 hz2 hZ hZl hrun hr0 hb0 hx0 hH
  by_cases h0 : n = 0
  · subst h0
    have hrw0 : (Instr.makeSlice 84 (.int .i64 0) (.int .i64 0)).run Try.prog w = .ok (.slice (some ⟨H, 0, none⟩) 0 0) (w.alloc (.cells Z.toArray 71)) := hrw
    clear hrw
    go_enter Try.func70, Try.ntmps70
    have hcp : ∀ W, (Builtin.copy_ #[84, 84] 3 #[.slice (some ⟨H, 0, none⟩) 0 0, .slice (some ⟨gx, 0, none⟩) 1 c]).run Try.prog W = .ok (goInt 0) W := fun W =>
      run_copy_none (P := Try.prog) W _ _ _ 71 _ _ _ _ _ _ Try.underlying84 (by kernel_rfl) (by decide)
    go_wp2_with (go_at_call 82; refine (cM _).mono ?_; rintro e w1 ⟨rfl, he⟩; obtain rfl := he.symm)
    go_loopw [8] (fun i wr => i = .int .i64 0 ∧ wr = w.alloc (.cells Z.toArray 71)) (fun _ _ => 0)
    case atStart => exact ⟨rfl, rfl⟩
    case round =>
      obtain ⟨rfl, rfl⟩ := hrel
      go_wp2_with fail
      go_ret
      exact rep_ret HH.out HR0.out HZL.out (fun j hj => absurd hj (Nat.not_lt_zero _)) HB0.out
  · have h0' : 0 < n := by omega
    have hpos : ¬ (n : Int) = 0 := by omega
    obtain ⟨w2, hcp, hr2, hb2⟩ : ∃ w2, (Builtin.copy_ #[84, 84] 3 #[.slice (some ⟨H, 0, none⟩) n n, .slice (some ⟨gx, 0, none⟩) 1 c]).run Try.prog (w.alloc (.cells Z.toArray 71)) = .ok (.int .i64 1) w2 ∧
        w2.heap[H]? = some (.cells (splice Z 0 (List.replicate 1 fv)).toArray 71 (0, 0)) ∧ Below H w w2 := by
      refine ⟨_, run_copy_row (P := Try.prog) _ _ _ _ 71 H 0 n n ⟨gx, 0, none⟩ 1 c Z.toArray 71 (List.replicate 1 fv) Try.underlying84 (by kernel_rfl) HR0.out (by rw [List.length_replicate]; exact (Nat.min_eq_left h0').symm) (fun j v hj => ?_) (by rw [List.length_replicate, List.size_toArray, HZL.out]; omega) (fv_rep h1 1), ?_, ?_⟩
      · rw [addAt, Nat.zero_add]
        rw [List.getElem?_replicate] at hj
        by_cases h : j < 1
        · rw [if_pos h] at hj
          obtain rfl : j = 0 := by omega
          injection hj with hj
          rw [← hj]
          exact HX0.out
        · rw [if_neg h] at hj; cases hj
      · simpa [splice] using setRow_heap _ H _ _ 71 _ HR0.out
      · exact below_setRow HBH.out (Nat.le_refl _) _
    have HR2 := Lib.hid hr2
    have HB2 := Lib.hid hb2
    clear hr2 hb2
    go_enter Try.func70, Try.ntmps70
    go_wp2_with (go_at_call 82; refine (cM _).mono ?_; rintro e w1 ⟨rfl, he⟩; obtain rfl := he.symm)
    clear hcp hrw cM hcu hci hx
    go_loopw [8] (fun i wr => ∃ k : Nat, 0 < k ∧ k ≤ n ∧ i = .int .i64 k ∧ Below H w wr ∧ ∃ L : List Value, wr.heap[H]? = some (.cells L.toArray 71 (0, 0)) ∧ L.length = n ∧ ∀ (j : Nat), j < k → L[j]? = some fv) (fun i _ => n - (intOf i).toNat)
    case atStart =>
      refine ⟨1, by omega, h0', rfl, HB2.out, _, HR2.out, by rw [splice_len _ _ _ (by rw [List.length_replicate, HZL.out]; omega), HZL.out], ?_⟩
      exact splice_more (k := 0) (m := 1) (by rw [HZL.out]; omega) (fun j hj => absurd hj (Nat.not_lt_zero _))
    case round =>
      obtain ⟨k, hk0, hk, rfl, hbw, L, hr, hl, hall⟩ := hrel
      rename_i wr
      have HR := Lib.hid hr
      have HBW := Lib.hid hbw
      have HL := Lib.hid hl
      have HALL := Lib.hid hall
      clear hr hbw hl hall
      by_cases hlt : k < n
      · obtain ⟨m, hm⟩ : ∃ m, Nat.min k (n - k) = m := ⟨_, rfl⟩
        have hm1 : 0 < m ∧ k + m ≤ n := by
          have a : m ≤ n - k := by rw [← hm]; exact Nat.min_le_right _ _
          have b : 0 < m := by rw [← hm]; exact Nat.lt_min.2 ⟨hk0, by omega⟩
          omega
        have hkz : (k : Int) ≤ (n : Int) := by omega
        have hkl : (k : Int) < (n : Int) := by omega
        have hk00 : ¬ (k : Int) < 0 := by omega
        have ekn : ¬ n = k := by omega
        have hmk : m ≤ k := by rw [← hm]; exact Nat.min_le_left _ _
        go_wp2_with fail
        have hsrc : ∀ (j : Nat) v, (List.replicate m fv)[j]? = some v → wr.drew.cell? ((⟨H, 0, none⟩ : Addr).add j) = some v := fun j v hj => by
          rw [addAt, Nat.zero_add]
          rw [List.getElem?_replicate] at hj
          by_cases h : j < m
          · rw [if_pos h] at hj
            injection hj with hj
            rw [← hj]
            exact (cell_of_row wr H j _ _ _ HR.out).trans (by rw [List.getElem?_toArray]; exact HALL.out j (by omega))
          · rw [if_neg h] at hj; cases hj
        have HSRC := Lib.hid hsrc
        obtain ⟨L', hL'⟩ : ∃ L', splice L k (List.replicate m fv) = L' := ⟨_, rfl⟩
        have HA : Hid (L'.length = n) := Lib.hid (by rw [← hL']; exact (splice_len L k (List.replicate m fv) (by rw [List.length_replicate, HL.out]; exact hm1.2)).trans HL.out)
        have HB : Hid (∀ (j : Nat), j < k + m → L'[j]? = some fv) := Lib.hid (by rw [← hL']; exact splice_more (L := L) (k := k) (m := m) (by rw [HL.out]; exact hm1.2) HALL.out)
        have HL' := Lib.hid hL'
        clear hsrc hL'
        obtain ⟨w4, hcp4, hg4, hb4⟩ : ∃ w4, (Builtin.copy_ #[84, 84] 3 #[.slice (some ⟨H, k, none⟩) (n - k) (n - k), .slice (some ⟨H, 0, none⟩) k n]).run Try.prog wr.drew = .ok (.int .i64 (m : Int)) w4 ∧
            w4.heap[H]? = some (.cells L'.toArray 71 (0, 0)) ∧ Below H w w4 := by
          have hc := run_copy_row (P := Try.prog) wr.drew 84 84 3 71 H k (n - k) (n - k) ⟨H, 0, none⟩ k n L.toArray 71 (List.replicate m fv) Try.underlying84 (by kernel_rfl) HR.out (by rw [List.length_replicate]; exact hm.symm) HSRC.out (by rw [List.length_replicate, List.size_toArray, HL.out]; exact hm1.2) (fv_rep h1 m)
          have e1 : goInt (List.replicate m fv).length = .int .i64 (m : Int) := by rw [List.length_replicate]; rfl
          rw [e1] at hc
          refine ⟨_, hc, ?_, below_setRow (below_drewN' HBW.out 1) (Nat.le_refl _) _⟩
          rw [← HL'.out]
          simpa [splice] using setRow_heap wr.drew H _ _ 71 _ HR.out
        have HB4 := Lib.hid hb4
        have HG4 := Lib.hid hg4
        clear hg4 hb4
        go_region
        go_wp2_with fail
        go_roundw
        case rel => exact ⟨k + m, by omega, hm1.2, by go_num, HB4.out, L', HG4.out, HA.out, HB.out⟩
        case measure => simp [intOf]; omega
      · have hkn : k = n := by omega
        subst hkn
        go_wp2_with fail
        go_ret
        exact rep_ret HH.out HR.out HL.out HALL.out (by rw [HH.out]; exact HBW.out)
end Go.Proofs.Ytoejegndbcbkmaa
/-
  Layer 5, the program's row: the first kids pass their own checks, those behind them another one.
-/
namespace Go.Proofs.Ytoejegndbcbkmaa
open Go.RowKit

def fnV (y : FuncId × Array Value) : Value := .func (.func y.1) #[] y.2
theorem fnV_one (y : FuncId × Array Value) : (fnV y).oneCell' = true := rfl
theorem fv_map (l : List (FuncId × Array Value)) : Fv (l.map fnV) := fun u hu => by
  obtain ⟨y, _, rfl⟩ := List.mem_map.1 hu
  rfl
theorem own_fns {w : World} {B n c : Nat} {A : Option Addr} {fs : List (FuncId × Array Value)} {X : Option Nat} (h : OwnCk w B (.slice A n c) (fs.map fnV)) (hX : ∀ m, X = some m → m < B) : n = fs.length ∧ Fns w X A fs := by
  unfold OwnCk at h
  rw [List.length_map] at h
  obtain ⟨h0, h⟩ := h
  rcases h with ⟨h, h1⟩ | ⟨g, cap, cur, h, hB, hg, _, _, hcs, hxs⟩
  · injection h with h2 h3
    refine ⟨by omega, fun j k cp hj => ?_⟩
    rw [List.length_eq_zero_iff.1 h1] at hj
    cases hj
  · injection h with h2 h3
    refine ⟨h3, fun j k cp hj => ⟨g, 0, h2, fun e => by have := hX g e; omega, ?_⟩⟩
    rw [Nat.zero_add, cell_of_row w g j _ _ _ hg]
    have hm : (fs.map fnV)[j]? = some (.func (.func k) #[] cp) := by rw [List.getElem?_map, hj]; rfl
    rw [← hxs, List.getElem?_take] at hm
    split at hm
    · rw [← hm, Array.getElem?_toList]
    · cases hm
set_option maxHeartbeats 3200000 in
set_option maxRecDepth 100000 in
theorem prow_any (W w0 : World) (v : Value) (x : Nod) (f : Fr) (hv : HasT W v (some (x, f))) (hu : Up W w0) (hf : f.len ≤ 100000) (least : Nat) (hle : least ≤ 1) (o : FuncId × Array Value)
    (A1 : Option Addr) (c1 : Nat) (fs : List (FuncId × Array Value)) (hfs : fs.length ≤ 2) (r1 : Rds w0 (.slice A1 fs.length c1) (fs.map fnV)) (X : Option Nat) (hX : ∀ m, X = some m → W.heap.size ≤ m ∧ m < w0.heap.size)
    (bs : Nat → Bool) (J : Nat → World → Prop) (hJ : ∀ w, Below w0.heap.size w0 w → J 0 w)
    (hc : ∀ (i : Nat) (t : Tr) (kv : Value) (w : World) k cap, f.get i = some t → (fs ++ List.replicate (f.len - fs.length) o)[i]? = some (k, cap) → HasT W kv (some t) → Up W w → J i w →
      Ent k ∧ Calls Try.prog k (#[kv] ++ cap) w fun e w' => TelX (bs i) X w e w' ∧ (bs i = true → J (i + 1) w')) :
    Calls Try.prog 54 #[v, .int .i64 (least : Int), fnV o, .slice A1 fs.length c1] w0 (TelX (decide (fs.length + least ≤ f.len) && allB f.len bs) X w0) := by
  have hv0 := hv
  obtain ⟨q, p, A', c', rfl, hq, c0, k1, k2, k3, c4, hcc, hkid⟩ := InT.open hv
  have c4' := hu.cell c4
  obtain ⟨n1, hn1⟩ : ∃ n1, fs.length = n1 := ⟨_, rfl⟩
  obtain ⟨M, hM⟩ : ∃ M, f.len = M := ⟨_, rfl⟩
  rw [hn1] at r1 hfs ⊢
  rw [hM] at c4' hf ⊢
  have HC := Lib.hid hc
  have HU := Lib.hid hu
  have HV := Lib.hid hv0
  have HX := Lib.hid hX
  have HJ := Lib.hid hJ
  have HM := Lib.hid hM
  have HN := Lib.hid hn1
  have R1 := Lib.hid r1
  obtain ⟨ko, co⟩ := o
  have HFO : Hid (fnV (ko, co) = .func (.func ko) #[] co) := Lib.hid rfl
  rw [HFO.out]
  clear hc hu hv hv0 hX hJ c0 k1 k2 k3 c4 hcc hkid hq hn1 hM r1
  by_cases h : n1 + least ≤ M
  · obtain ⟨n, hn⟩ : ∃ n, M - n1 = n := ⟨_, rfl⟩
    have e1 : (M : Int) - (n1 : Int) = (n : Int) := by omega
    have e2 : (least : Int) ≤ (n : Int) := by omega
    have HB : Hid ((decide (n1 + least ≤ M) && allB M bs) = allB M bs) := Lib.hid (by rw [decide_eq_true h]; rfl)
    rw [HB.out]
    obtain ⟨H, hH⟩ : ∃ H, w0.heap.size = H := ⟨_, rfl⟩
    have hx1 : (w0.alloc (.cells #[.func (.func ko) #[] co] 71)).cell? ⟨H, 0, none⟩ = some (.func (.func ko) #[] co) := by rw [← hH]; exact cell_of_row _ w0.heap.size 0 _ _ _ (heap_alloc_new w0 _)
    have cR := repeat_any H 1 (.func (.func ko) #[] co) n _ hx1 rfl (by omega)
    go_enter Try.func54, Try.ntmps54
    go_wp2_with fail
    refine cR.mono ?_
    rintro e w2 ⟨v2, rfl, ⟨A2, c2, rfl⟩, r2, b2⟩
    go_wp2_with fail
    have hs1 : (w0.alloc (.cells #[.func (.func ko) #[] co] 71)).heap.size = w0.heap.size + 1 := by simp
    have b02 : Below w0.heap.size w0 w2 := ((Below.refl w0.heap.size w0).alloc (Nat.le_refl _) _).trans (b2.mono (by omega))
    have hs2 := b02.size
    obtain ⟨W3, hW3⟩ : ∃ W3, w2.alloc (.cells #[.slice A1 n1 c1, .slice A2 n c2] 84) = W3 := ⟨_, rfl⟩
    have b23 : Below w2.heap.size w2 W3 := by rw [← hW3]; exact (Below.refl _ _).alloc (Nat.le_refl _) _
    have b03 : Below w0.heap.size w0 W3 := b02.trans (b23.mono hs2)
    have hs3 := b03.size
    have hg3 : W3.heap[w2.heap.size]? = some (.cells #[.slice A1 n1 c1, .slice A2 n c2] 84 (0, 0)) := by rw [← hW3]; exact heap_alloc_new w2 _
    have hn2 : n1 + n = M := by omega
    have cC := concat_any w2.heap.size _ _ n1 n c1 c2 A1 A2 (fs.map fnV) (List.replicate n (.func (.func ko) #[] co)) W3 rfl rfl (by rw [List.length_map]; exact HN.out) List.length_replicate hg3 (R1.out.below b03) (r2.below b23) (fv_map fs) (fv_rep rfl n) (by omega) (by omega)
    have hmap : fs.map fnV ++ List.replicate n (.func (.func ko) #[] co) = (fs ++ List.replicate n (ko, co)).map fnV := by rw [List.map_append, List.map_replicate, HFO.out]
    have hlen : (fs ++ List.replicate n (ko, co)).length = M := by rw [List.length_append, List.length_replicate, HN.out]; exact hn2
    rw [hmap] at cC
    rw [hW3]
    clear r2 b2 hg3 cR hx1 hW3 b23 b02
    refine cC.mono ?_
    rintro e w4 ⟨v4, rfl, o4, b4⟩
    obtain ⟨A4, c4, rfl⟩ := own_slice o4
    obtain ⟨-, hfn⟩ := own_fns (X := X) o4 (fun m hm => by have := HX.out m hm; omega)
    rw [List.length_map, hlen]
    have b04 : Below w0.heap.size w0 w4 := b03.trans (b4.mono hs3)
    have cK := pkids_any W w4 _ x f HV.out (HU.out.trans b04) (by rw [HM.out]; omega) A4 c4 (fs ++ List.replicate n (ko, co)) (by rw [hlen]; omega) X hfn (fun m hm => (HX.out m hm).1) bs J (HJ.out w4 b04)
      (fun i t kv w k cap h1 h2 => HC.out i t kv w k cap h1 (by rw [HM.out, HN.out, hn]; exact h2))
    rw [hlen, HM.out, decide_eq_true rfl, Bool.true_and] at cK
    have B04 := Lib.hid b04
    clear b04 b4 b03 hfn o4 cC hmap
    go_wp2_with fail
    refine cK.mono ?_
    rintro e w5 ⟨rfl, g5⟩
    go_wp2_with fail
    go_ret
    exact telx_ret rfl (gb_trans (gb_below B04.out (Nat.le_refl _)) g5)
  · have HB : Hid ((decide (n1 + least ≤ M) && allB M bs) = false) := Lib.hid (by rw [decide_eq_false h]; rfl)
    rw [HB.out]
    have e2 : ¬ (least : Int) ≤ (M : Int) - (n1 : Int) := by omega
    go_enter Try.func54, Try.ntmps54
    go_wp2_with fail
    go_ret
    exact telx_ret rfl (gb_refl _ _)
end Go.Proofs.Ytoejegndbcbkmaa
/-
  Layer 5, the program's kids and row over the program's own checks: what they tell is what the table's signs ask of the kids.
-/
namespace Go.Proofs.Ytoejegndbcbkmaa
open Go.RowKit

/-! ### plain -/
def seqK : List Inf → List Int → Bool
  | l, [] => l.isEmpty
  | [], _ :: _ => false
  | i :: t, c :: r => i.is c && seqK t r
def rowB : List Int → Nat → (Inf → Bool) → List Inf → Bool
  | [], n, P, l => decide (n ≤ l.length) && l.all P
  | _ :: _, _, _, [] => false
  | c :: r, n, P, i :: t => i.is c && rowB r n P t
theorem allB_succ (n : Nat) (bs : Nat → Bool) : allB (n + 1) bs = (bs 0 && allB n fun i => bs (i + 1)) := by
  unfold allB
  rw [List.range_succ_eq_map, List.all_cons, List.all_map]
  rfl
theorem allB_congr {n : Nat} {bs cs : Nat → Bool} (h : ∀ i, i < n → bs i = cs i) : allB n bs = allB n cs := by
  cases hb : allB n cs with
  | true =>
    refine allB_yes fun j hj => ?_
    rw [h j hj]
    unfold allB at hb
    rw [List.all_eq_true] at hb
    exact hb j (List.mem_range.2 hj)
  | false =>
    unfold allB at hb
    rw [List.all_eq_false] at hb
    obtain ⟨j, hj, hjb⟩ := hb
    exact allB_no (List.mem_range.1 hj) (by rw [h j (List.mem_range.1 hj)]; exact Bool.eq_false_iff.2 hjb)
def atB (l : List Inf) (cs : List Int) (P : Inf → Bool) (i : Nat) : Bool := match l[i]?, cs[i]? with
  | some j, some c => j.is c
  | some j, none => P j
  | none, _ => true
theorem seqK_all : ∀ (cs : List Int) (l : List Inf) (P : Inf → Bool), (decide (l.length = cs.length) && allB cs.length (atB l cs P)) = seqK l cs
  | [], l, P => by
    cases l with
    | nil => rfl
    | cons i t => rfl
  | c :: r, [], P => by
    show (decide (0 = r.length + 1) && _) = false
    rw [decide_eq_false (by omega)]
    rfl
  | c :: r, i :: t, P => by
    show (decide (t.length + 1 = r.length + 1) && allB (r.length + 1) (atB (i :: t) (c :: r) P)) = (i.is c && seqK t r)
    rw [allB_succ, ← seqK_all r t P]
    have e : (fun j => atB (i :: t) (c :: r) P (j + 1)) = atB t r P := by funext j; rfl
    have e0 : atB (i :: t) (c :: r) P 0 = i.is c := rfl
    rw [e, e0]
    by_cases h : t.length = r.length
    · rw [decide_eq_true h, decide_eq_true (by omega : t.length + 1 = r.length + 1)]
      cases i.is c <;> rfl
    · rw [decide_eq_false h, decide_eq_false (by omega : ¬ t.length + 1 = r.length + 1)]
      cases i.is c <;> rfl
theorem allB_list (P : Inf → Bool) : ∀ (l : List Inf), allB l.length (atB l [] P) = l.all P
  | [] => rfl
  | i :: t => by
    rw [List.length_cons, allB_succ, List.all_cons, ← allB_list P t]
    rfl
theorem rowB_all (n : Nat) (P : Inf → Bool) : ∀ (cs : List Int) (l : List Inf), (decide (cs.length + n ≤ l.length) && allB l.length (atB l cs P)) = rowB cs n P l
  | [], l => by
    rw [allB_list, List.length_nil, Nat.zero_add]
    rfl
  | c :: r, [] => by
    show (decide (r.length + 1 + n ≤ 0) && _) = false
    rw [decide_eq_false (by omega)]
    rfl
  | c :: r, i :: t => by
    show (decide (r.length + 1 + n ≤ t.length + 1) && allB (t.length + 1) (atB (i :: t) (c :: r) P)) = (i.is c && rowB r n P t)
    rw [allB_succ, ← rowB_all n P r t]
    have e : (fun j => atB (i :: t) (c :: r) P (j + 1)) = atB t r P := by funext j; rfl
    have e0 : atB (i :: t) (c :: r) P 0 = i.is c := rfl
    rw [e, e0]
    by_cases h : r.length + n ≤ t.length
    · rw [decide_eq_true h, decide_eq_true (by omega : r.length + 1 + n ≤ t.length + 1)]
      cases i.is c <;> rfl
    · rw [decide_eq_false h, decide_eq_false (by omega : ¬ r.length + 1 + n ≤ t.length + 1)]
      cases i.is c <;> rfl
theorem seq_K : ∀ (ks : List UInt8) (l : List Inf), plainW ks = true → seqOk l ks = seqK l (ks.map catOf)
  | [], l, _ => by
    unfold seqOk seqK
    rfl
  | c :: r, l, h => by
    unfold plainW at h
    rw [List.all_cons, Bool.and_eq_true] at h
    have h1 := h.1
    simp only [Bool.and_eq_true, decide_eq_true_eq] at h1
    unfold seqOk
    rw [if_neg h1.1.1, if_neg h1.1.2, if_neg h1.2]
    cases l with
    | nil => rfl
    | cons i t =>
      show (i.is (catOf c) && seqOk t r) = (i.is (catOf c) && seqK t (r.map catOf))
      rw [seq_K r t h.2]
theorem not_empty (l : List Inf) : (!l.isEmpty) = decide (1 ≤ l.length) := by
  cases l with
  | nil => rfl
  | cons i t => rw [List.length_cons, decide_eq_true (by omega)]; rfl
theorem seq_arm (l : List Inf) : seqOk l [65] = (!l.isEmpty && l.all fun i => i.is 9) := by cases l <;> rfl
theorem seq_arms (l : List Inf) : seqOk l [101, 65] = rowB [2] 1 (fun i => i.is 9) l := by
  cases l with
  | nil => rfl
  | cons i t =>
    show (i.is 2 && seqOk t [65]) = (i.is 2 && (decide (1 ≤ t.length) && t.all fun i => i.is 9))
    rw [← not_empty, seq_arm]
theorem seq_arms2 (l : List Inf) : seqOk l [101, 116, 65] = rowB [2, 1] 1 (fun i => i.is 9) l := by
  cases l with
  | nil => rfl
  | cons i t =>
    cases t with
    | nil => rfl
    | cons j t =>
      show (i.is 2 && (j.is 1 && seqOk t [65])) = (i.is 2 && (j.is 1 && (decide (1 ≤ t.length) && t.all fun i => i.is 9)))
      rw [← not_empty, seq_arm]
theorem rowB_star (P : Inf → Bool) (l : List Inf) : rowB [] 0 P l = l.all P := by
  show (decide (0 ≤ l.length) && l.all P) = _
  rw [decide_eq_true (by omega)]
  rfl

/-! ### the calls -/
abbrev IT (t : Tr) : Inf := infT B.nck B.long t
abbrev IF (f : Fr) : List Inf := infF B.nck B.long f
def TelAt (k : FuncId) (b : Bool) (t : Tr) : Prop := ∀ (w : World) (v : Value), B.Nx w → HasT w v (some t) → Calls Try.prog k #[v] w (TelB b w)
def fnC (c : Int) : FuncId := if c = 1 then 37 else if c = 2 then 30 else if c = 3 then 38 else 39
theorem ent_C (c : Int) : Ent (fnC c) := by
  unfold fnC
  split
  · exact fun _ _ => by kernel_rfl
  · split
    · exact fun _ _ => by kernel_rfl
    · split
      · exact fun _ _ => by kernel_rfl
      · exact fun _ _ => by kernel_rfl
def fnsC (cs : List Int) : List (FuncId × Array Value) := cs.map fun c => (fnC c, #[])
theorem fnsC_len (cs : List Int) : (fnsC cs).length = cs.length := List.length_map _
theorem fnsC_get {cs : List Int} {i : Nat} {k : FuncId} {cap : Array Value} (h : (fnsC cs)[i]? = some (k, cap)) : ∃ c, cs[i]? = some c ∧ k = fnC c ∧ cap = #[] := by
  unfold fnsC at h
  rw [List.getElem?_map] at h
  obtain ⟨c, hc, he⟩ := Option.map_eq_some_iff.1 h
  injection he with h1 h2
  exact ⟨c, hc, h1.symm, h2.symm⟩
theorem tel_gb {w w' : World} (h : w.grownBy w' none) : Up w w' := (Below.refl w.heap.size w).grown h (Nat.le_refl _) fun g hg => by cases hg
theorem telx_tel {b : Bool} {P : Program} {k : FuncId} {args : Array Value} {w : World} (h : Calls P k args w (TelX b none w)) : Calls P k args w (TelB b w) := h.mono fun _ _ h => ⟨h.1, tel_gb h.2⟩
theorem atB_get {f : Fr} {cs : List Int} {P : Inf → Bool} {i : Nat} {t : Tr} (h : f.get i = some t) : atB (IF f) cs P i = match cs[i]? with | some c => (IT t).is c | none => P (IT t) := by
  unfold atB
  rw [infF_get, h]
  cases cs[i]? <;> rfl
theorem kids_seq (cs : List Int) (x : Nod) (f : Fr) (w : World) (v : Value) (A : Option Addr) (c : Nat) (hx : B.Nx w) (hv : HasT w v (some (x, f))) (hf : f.len ≤ 100000) (hcs : cs.length ≤ 3) (hA : Fns w none A (fnsC cs))
    (hI : ∀ (i : Nat) (t : Tr) (c : Int), f.get i = some t → c ∈ cs → TelAt (fnC c) (isT B.nck B.long t c) t) :
    Calls Try.prog 50 #[v, .slice A cs.length c] w (TelB (seqK (IF f) cs) w) := by
  have h := pkids_any w w v x f hv (Up.refl w) (by omega) A c (fnsC cs) (by rw [fnsC_len]; omega) none hA (fun m hm => by cases hm) (atB (IF f) cs fun _ => true) (fun _ _ => True) trivial
    (fun i t kv w' k cap h1 h2 h3 h4 _ => by
      obtain ⟨c, hc, rfl, rfl⟩ := fnsC_get h2
      refine ⟨ent_C c, ((hI i t c h1 (List.mem_of_getElem? hc)) w' kv (Nx.up hx h4) (HasT.up h3 h4)).mono fun e w'' h => ⟨⟨?_, gb_below h.2 (Nat.le_refl _)⟩, fun _ => trivial⟩⟩
      rw [h.1, atB_get h1, hc]
      rfl)
  rw [fnsC_len, ← infF_len (nk := B.nck) (lg := B.long), seqK_all] at h
  exact telx_tel h
theorem row_seq (cs : List Int) (least : Nat) (k : FuncId) (P : Inf → Bool) (x : Nod) (f : Fr) (w : World) (v : Value) (A : Option Addr) (c : Nat) (hk : Ent k) (hl : least ≤ 1) (hx : B.Nx w) (hv : HasT w v (some (x, f))) (hf : f.len ≤ 100000) (hcs : cs.length ≤ 2)
    (hA : Rds w (.slice A cs.length c) ((fnsC cs).map fnV)) (hI : ∀ (i : Nat) (t : Tr) (c : Int), f.get i = some t → c ∈ cs → TelAt (fnC c) (isT B.nck B.long t c) t)
    (hK : ∀ (i : Nat) (t : Tr), f.get i = some t → TelAt k (P (IT t)) t) :
    Calls Try.prog 54 #[v, .int .i64 (least : Int), .func (.func k) #[] #[], .slice A cs.length c] w (TelB (rowB cs least P (IF f)) w) := by
  have h := prow_any w w v x f hv (Up.refl w) hf least hl (k, #[]) A c (fnsC cs) (by rw [fnsC_len]; exact hcs) (by rw [fnsC_len]; exact hA) none (fun m hm => by cases hm) (atB (IF f) cs P) (fun _ _ => True) (fun _ _ => trivial)
    (fun i t kv w' k' cap h1 h2 h3 h4 _ => by
      rw [List.getElem?_append] at h2
      split at h2
      · obtain ⟨c, hc, rfl, rfl⟩ := fnsC_get h2
        refine ⟨ent_C c, ((hI i t c h1 (List.mem_of_getElem? hc)) w' kv (Nx.up hx h4) (HasT.up h3 h4)).mono fun e w'' h => ⟨⟨?_, gb_below h.2 (Nat.le_refl _)⟩, fun _ => trivial⟩⟩
        rw [h.1, atB_get h1, hc]
        rfl
      · rename_i hi
        rw [fnsC_len] at hi
        rw [List.getElem?_replicate] at h2
        split at h2
        · injection h2 with h2
          injection h2 with h5 h6
          subst h5; subst h6
          refine ⟨hk, ((hK i t h1) w' kv (Nx.up hx h4) (HasT.up h3 h4)).mono fun e w'' h => ⟨⟨?_, gb_below h.2 (Nat.le_refl _)⟩, fun _ => trivial⟩⟩
          rw [h.1, atB_get h1, List.getElem?_eq_none (by omega)]
        · cases h2)
  rw [fnsC_len, ← infF_len (nk := B.nck) (lg := B.long), rowB_all] at h
  exact telx_tel h
end Go.Proofs.Ytoejegndbcbkmaa
