/-
  Layer 5, the library's Grow, Concat and Repeat at lists of checks: what they make.
-/
import Derived.Test.YtklblhadhoppeaaGreatDoorGq09
import Derived.Test.YtklblhadhoppeaaGreatDoorGq18
import Derived.Test.YtklblhadhoppeaaGreatDoorGq23
import Derived.Below
import Derived.BigQuiet
import Derived.Carry
import Derived.Deep.AppendLies
import Derived.Deep.DeepMust
import Derived.Deep.Onto
import Derived.Deep.QuietTactic
import Derived.Deep.RegionHeld3
import Derived.Deep.RegionLaw
import Derived.KernelRfl
import Derived.Laws.AppendOwnNone
import Derived.Laws.CopyOwn
import Derived.Laws.OwnMore
import Derived.Laws.Rows
import Derived.Laws.Tables
import Derived.Lib.AppendIntMem
import Derived.Lib.AppendZeros
import Derived.Lib.AtoiAll
import Derived.Lib.AtoiErrMem
import Derived.Lib.CountLaws
import Derived.Lib.CutLaws
import Derived.Lib.Hide
import Derived.Lib.IndexBytes
import Derived.Lib.ItoaLen
import Derived.Lib.ItoaNum
import Derived.Lib.Join
import Derived.Lib.LaidTab
import Derived.Lib.OthersKept
import Derived.Lib.Replace
import Derived.Lib.RuneCount
import Derived.Lib.Split
import Derived.Lib.Strings
import Derived.Lib.ValidLaws
import Derived.MapKept
import Derived.Maps.AppendAt
import Derived.Outline
import Derived.OwnWalk
import Derived.Shelf.Bits.Mul64
import Derived.Shelf.LaysC
import Derived.Shelf.LaysM
import Derived.Shelf.Slices.Turned
import Derived.Shelf.Small.Utf8
import Derived.Shelf.Strconv.Atoi
import Derived.Shelf.Strconv.AtoiAll
import Derived.Shelf.Strconv.AtoiErr
import Derived.Shelf.Strconv.AtoiErrFast
import Derived.Shelf.Strconv.AtoiFail
import Derived.Shelf.Strconv.AtoiInnerAll
import Derived.Shelf.Strconv.AtoiLong
import Derived.Shelf.Strconv.Clone
import Derived.Shelf.Strconv.ErrVarAll
import Derived.Shelf.Strconv.Itoa0
import Derived.Shelf.Strconv.Itoa1
import Derived.Shelf.Strconv.Itoa2
import Derived.Shelf.Strconv.Itoa3
import Derived.Shelf.Strconv.Lower
import Derived.Shelf.Strconv.ParseInt10
import Derived.Shelf.Strconv.ParseIntEmpty
import Derived.Shelf.Strconv.ParseUint10
import Derived.Shelf.Strconv.ParseUint10Any
import Derived.Shelf.Strconv.ParseUint10Empty
import Derived.Shelf.Strconv.RangeError
import Derived.Shelf.Strconv.SyntaxError
import Derived.Shelf.Strconv.ToError
import Derived.Shelf.Strconv.ToErrorRange
import Derived.Shelf.Strings.Builder1
import Derived.Shelf.Strings.Builder2
import Derived.Shelf.Strings.Count
import Derived.Shelf.Strings.Cut
import Derived.Shelf.Strings.OnBuilder
import Derived.Shelf.Strings.Prefix
import Derived.Shelf.Strings.Replace
import Derived.Shelf.Strings.Search1
import Derived.Shelf.Strings.Search2
import Derived.Shelf.Strings.Search3
import Derived.Shelf.Strings.Shaped
import Derived.Shelf.Strings.Split
import Derived.Shelf.Strings.SplitShaped
import Derived.Shelf.Unicode.DecodeAny
import Derived.Shelf.Unicode.DecodeSlow
import Derived.Shelf.Utf8.RuneCount
import Derived.Test.YtklblhadhoppeaaGreatDoorProg
import Derived.Test.YtklblhadhoppeaaGreatDoorRows
import Derived.WalkKit
import Derived.WalkLawsBesides
import Derived.WalkSmall
import Derived.WalkSpells
namespace Go.Proofs.YtklblhadhoppeaaGreatDoor
open Go.RowKit

theorem infoCk : (Tryz.prog.info? 150).map (fun i => (i.zero, i.size, i.bytes)) = some (some .nilFunc, 1, 8) := by kernel_rfl
/-- A list of function values of the call's own. -/
def OwnCk (w : World) (B : Nat) (v : Value) (vs : List Value) : Prop := w.ownsRow B 150 1 v vs.length vs
def RowPost (vs : List Value) (w : World) (e : Ending) (w' : World) : Prop := ∃ v, e = .returned v ∧ OwnCk w' w.heap.size v vs ∧ Below w.heap.size w w'
set_option maxHeartbeats 3200000 in
set_option maxRecDepth 100000 in
theorem grow_any (n : Nat) (w : World) (hn : n ≤ 1000000) : Calls Tryz.prog 185 #[.slice none 0 0, .int .i64 (n : Int)] w (RowPost [] w) := by
  by_cases h0 : n = 0
  · subst h0
    go_enter Tryz.func185, Tryz.ntmps185
    go_wp2_with fail
    go_ret
    exact ⟨_, rfl, World.ownsRow_nil _ _ _ _, Below.refl _ _⟩
  · obtain ⟨i0, hi, hz0, hz1, hz2⟩ := info_parts infoCk
    have hrun := Lib.run_append_nil_zeros (P := Tryz.prog) w 176 3 176 150 i0 _ .i64 .i64 Tryz.underlying176 Tryz.underlying3 hi hz0 n (by omega) (by omega) (by omega) (by rw [hz2]; omega)
    obtain ⟨C, hC⟩ : ∃ C, Go.grownCap w n 0 150 = C := ⟨_, rfl⟩
    have hge : n ≤ C := by rw [← hC]; exact grownCap_ge _ _ _ _
    have hle : C ≤ maxLen := by rw [← hC]; exact grownCap_le_maxLen _ _ _ _ (by unfold maxLen; omega)
    rw [hC] at hrun
    obtain ⟨cs, hcs⟩ : ∃ cs, Go.Builtin.zeroCells Value.nilFunc.cells n ++ Go.Builtin.zeroCells Value.nilFunc.cells (C - n) = cs := ⟨_, rfl⟩
    have hsz : cs.size = C * 1 := by rw [← hcs, Array.size_append, size_zeroCells, size_zeroCells]; show n * 1 + (C - n) * 1 = C * 1; omega
    rw [hcs] at hrun
    have h1 : ¬ (n : Int) < 0 := by omega
    have h2 : 0 < (n : Int) := by omega
    have hb : Below w.heap.size w (w.drew.alloc (.cells cs 150)) := (Below.refl w.heap.size w).drew.alloc (Nat.le_refl _) _
    have ho := World.ownsRow_made (base := w.heap.size) (e := 150) (size := 1) w.drew cs C (Nat.le_refl _) hle hsz
    have HO := Lib.hid ho
    have HB := Lib.hid hb
    clear hi hz0 hz1 hz2 hC hcs hsz ho hb
    go_enter Tryz.func185, Tryz.ntmps185
    go_wp2_with (at_builtin; refine Lib.wpList_append_run _ rfl _ _ _ _ rfl _ _ rfl rfl _ _ hrun ?_)
    go_ret
    exact ⟨_, rfl, HO.out, HB.out⟩
/-- A value that reads as a list of function values. -/
def Rds (w : World) (v : Value) (vs : List Value) : Prop := (v = .slice none 0 0 ∧ vs = []) ∨ ∃ g o c, v = .slice (some ⟨g, o, none⟩) vs.length c ∧ g < w.heap.size ∧ ∀ (j : Nat) u, vs[j]? = some u → w.cell? ⟨g, o + j, none⟩ = some u
theorem Rds.below {w w' : World} {v : Value} {vs : List Value} (h : Rds w v vs) (hb : Below w.heap.size w w') : Rds w' v vs := by
  rcases h with h | ⟨g, o, c, rfl, hg, h⟩
  · exact .inl h
  · exact .inr ⟨g, o, c, rfl, Nat.lt_of_lt_of_le hg hb.size, fun j u hu => hb.cell hg |>.trans (h j u hu)⟩
def Fv (vs : List Value) : Prop := ∀ u ∈ vs, u.oneCell' = true
theorem wpList_appC {w : World} {ops : Array Oper} {rest : List Oper} {o : Oper} {a : Act} {Q : Exit → Act → World → Prop} (hgd : o.guard = none) (s x : Operand)
    (ho : o.op = .call { callee := .builtin .append, args := #[s, x], argTypes := #[176, 176] }) {B : Nat} {v u : Value} {vs us : List Value} (hs : a.eval s = v) (hown : OwnCk w B v vs)
    (hx : a.eval x = u) (hr : Rds w u us) (h1 : Fv us) (hl : vs.length + us.length ≤ 2000000) (hB : B ≤ w.heap.size)
    (h : ∀ v' w', OwnCk w' B v' (vs ++ us) → w.grownBy w' v.ownBlock → wpList Tryz.prog ops Q rest (a.put o.dst v') w') : wpList Tryz.prog ops Q (o :: rest) a w := by
  obtain ⟨i0, hi, hz0, hz1, hz2⟩ := info_parts infoCk
  rcases hr with ⟨rfl, rfl⟩ | ⟨g, p, c, rfl, hg, hc⟩
  · refine wpList_append_own_none hgd s x 176 ho B 150 i0 1 Tryz.underlying176 hi v vs.length vs hs hown hx (h v w ?_ (gb_refl _ _))
    rw [List.append_nil]
    exact hown
  · refine wpList_append_own w hgd s x 176 ho B 150 i0 _ 1 8 Tryz.underlying176 hi hz0 hz1 hz2 rfl (by omega) v vs.length vs hs hown ⟨g, p, none⟩ us.length c us hx (by omega) (fun j u hu => ?_) h1 (by unfold maxLen; omega) (by omega) hB ?_
    · rw [addAt]
      exact hc j u hu
    · intro v' w' ho' hg' _
      refine h v' w' ?_ hg'
      unfold OwnCk
      rw [List.length_append]
      exact ho'
theorem own_ge {w : World} {B : Nat} {v : Value} {vs : List Value} (h : OwnCk w B v vs) : ∀ g, v.ownBlock = some g → B ≤ g := fun g hg => (World.ownsRow.lt h g hg).1
set_option maxHeartbeats 3200000 in
set_option maxRecDepth 100000 in
theorem concat_any (g0 : Nat) (u1 u2 : Value) (n1 n2 c1 c2 : Nat) (A1 A2 : Option Addr) (l1 l2 : List Value) (w : World) (h1 : u1 = .slice A1 n1 c1) (h2 : u2 = .slice A2 n2 c2) (hn1 : l1.length = n1) (hn2 : l2.length = n2)
    (hg : w.heap[g0]? = some (.cells #[u1, u2] 176 (0, 0))) (r1 : Rds w u1 l1) (r2 : Rds w u2 l2) (f1 : Fv l1) (f2 : Fv l2) (hl1 : n1 ≤ 400000) (hl2 : n2 ≤ 400000) :
    Calls Tryz.prog 170 #[.slice (some ⟨g0, 0, none⟩) 2 2] w (RowPost (l1 ++ l2) w) := by
  have k1 : w.cell? ⟨g0, 0, none⟩ = some u1 := cell_of_row w g0 0 _ _ _ hg
  have k2 : w.cell? ⟨g0, 1, none⟩ = some u2 := cell_of_row w g0 1 _ _ _ hg
  have hgl := heap_lt hg
  obtain ⟨N, hN⟩ : ∃ N, n1 + n2 = N := ⟨_, rfl⟩
  have cG := fun W => grow_any N W (by omega)
  have R1 := Lib.hid r1
  have R2 := Lib.hid r2
  have K1 := Lib.hid k1
  have K2 := Lib.hid k2
  have U1 := Lib.hid h1
  have U2 := Lib.hid h2
  have F1 := Lib.hid f1
  have F2 := Lib.hid f2
  have CG := Lib.hid cG
  clear r1 r2 hg h1 h2 f1 f2 cG k1 k2
  go_enter Tryz.func170, Tryz.ntmps170
  go_wp2_with fail
  go_loopw [3, 5, 11] (fun sz _ i wr => ∃ k : Nat, k ≤ 2 ∧ i = .int .i64 k ∧ sz = .int .i64 ((if k = 0 then 0 else if k = 1 then n1 else N : Nat) : Int) ∧ wr = w) (fun _ _ i _ => 2 - (intOf i).toNat)
  case atStart => exact ⟨0, by omega, rfl, rfl, rfl⟩
  case round =>
    obtain ⟨k, hk, rfl, rfl, rfl⟩ := hrel
    rcases (by omega : k = 0 ∨ k = 1 ∨ k = 2) with rfl | rfl | rfl
    · have e1 := K1.out
      rw [U1.out] at e1
      have e2 : ¬ (n1 : Int) < 0 := by omega
      go_wp2_with fail
      go_roundw
      case rel => exact ⟨1, by omega, by go_num, by simp, by trivial⟩
      case measure => simp [intOf]
    · have e1 := K2.out
      rw [U2.out] at e1
      have e2 : ¬ (n1 : Int) + (n2 : Int) < 0 := by omega
      go_wp2_with fail
      go_roundw
      case rel => exact ⟨2, by omega, by go_num, i64_eq (by simp; omega), by trivial⟩
      case measure => simp [intOf]
    · go_wp2_with fail
      refine (CG.out _).mono ?_
      rintro e w1 ⟨v1, rfl, o1, b1⟩
      have O1 := Lib.hid o1
      have B1 := Lib.hid b1
      clear o1 b1
      go_wp2_with fail
      obtain ⟨L, hL⟩ : ∃ L : Nat → List Value, L = fun k => if k = 0 then [] else if k = 1 then l1 else l1 ++ l2 := ⟨_, rfl⟩
      have L0 : L 0 = [] := by rw [hL]; rfl
      have L1 : L 1 = l1 := by rw [hL]; rfl
      have L2 : L 2 = l1 ++ l2 := by rw [hL]; rfl
      clear hL
      go_loopw [6, 8, 27] (fun nv _ i w2 => ∃ k : Nat, k ≤ 2 ∧ i = .int .i64 k ∧ OwnCk w2 wr.heap.size nv (L k) ∧ Below wr.heap.size wr w2) (fun _ _ i _ => 2 - (intOf i).toNat)
      case atStart => exact ⟨0, by omega, rfl, by rw [L0]; exact O1.out, B1.out⟩
      case round =>
        obtain ⟨k, hk2, rfl, ho, hb⟩ := hrel
        have HO := Lib.hid ho
        have HB := Lib.hid hb
        have hbs := hb.size
        clear ho hb hk
        rename_i w2
        rcases (by omega : k = 0 ∨ k = 1 ∨ k = 2) with rfl | rfl | rfl
        · have e1 := HB.out.cell (p := ⟨g0, 0, none⟩) hgl |>.trans K1.out
          go_wp2_with (at_builtin; refine wpList_appC rfl _ _ rfl rfl HO.out rfl (R1.out.below HB.out) F1.out (by rw [L0, hn1]; simp; omega) hbs ?_; intro v3 w3 o3 g3)
          go_roundw
          case rel => exact ⟨1, by omega, by go_num, by rw [L1]; rw [L0] at o3; exact o3, HB.out.grown g3 hbs (own_ge HO.out)⟩
          case measure => simp [intOf]
        · have e1 := HB.out.cell (p := ⟨g0, 1, none⟩) hgl |>.trans K2.out
          go_wp2_with (at_builtin; refine wpList_appC rfl _ _ rfl rfl HO.out rfl (R2.out.below HB.out) F2.out (by rw [L1, hn1, hn2]; omega) hbs ?_; intro v3 w3 o3 g3)
          go_roundw
          case rel => exact ⟨2, by omega, by go_num, by rw [L2]; rw [L1] at o3; exact o3, HB.out.grown g3 hbs (own_ge HO.out)⟩
          case measure => simp [intOf]
        · go_wp2_with fail
          go_ret
          exact ⟨_, rfl, by rw [← L2]; exact HO.out, HB.out⟩
end Go.Proofs.YtklblhadhoppeaaGreatDoor
namespace Go.Proofs.YtklblhadhoppeaaGreatDoor
open Go.RowKit

theorem splice_len {α : Type} (L : List α) (k : Nat) (cs : List α) (h : k + cs.length ≤ L.length) : (splice L k cs).length = L.length := length_splice L k cs h
theorem splice_more {fv : Value} {L : List Value} {k m : Nat} (h : k + m ≤ L.length) (hL : ∀ (j : Nat), j < k → L[j]? = some fv) : ∀ (j : Nat), j < k + m → (splice L k (List.replicate m fv))[j]? = some fv := by
  intro j hj
  unfold splice
  by_cases h1 : j < k
  · rw [List.getElem?_append_left (by rw [List.length_take]; omega), List.getElem?_take_of_lt h1]
    exact hL j h1
  · rw [List.getElem?_append_right (by rw [List.length_take]; omega), List.length_take, Nat.min_eq_left (by omega), List.getElem?_append_left (by rw [List.length_replicate]; omega), List.getElem?_replicate, if_pos (by omega)]
theorem fv_rep {fv : Value} (h : fv.oneCell' = true) (m : Nat) : ∀ v ∈ List.replicate m fv, v.oneCell' = true := fun v hv => by rw [List.eq_of_mem_replicate hv]; exact h
def RepPost (fv : Value) (n : Nat) (w : World) (e : Ending) (w' : World) : Prop := ∃ v, e = .returned v ∧ (∃ A c, v = .slice A n c) ∧ Rds w' v (List.replicate n fv) ∧ Below w.heap.size w w'
theorem rep_ret {fv : Value} {n H : Nat} {w w' : World} {L : List Value} (_hH : w.heap.size = H) (hr : w'.heap[H]? = some (.cells L.toArray 150 (0, 0))) (_hl : L.length = n) (hL : ∀ (j : Nat), j < n → L[j]? = some fv) (hb : Below w.heap.size w w') :
    RepPost fv n w (.returned (.slice (some ⟨H, 0, none⟩) n n)) w' := by
  refine ⟨_, rfl, ⟨_, _, rfl⟩, .inr ⟨H, 0, n, by rw [List.length_replicate], heap_lt hr, fun j u hu => ?_⟩, hb⟩
  rw [Nat.zero_add, cell_of_row w' H j _ _ _ hr]
  rw [List.getElem?_replicate] at hu
  by_cases h : j < n
  · rw [if_pos h] at hu
    rw [← hu, List.getElem?_toArray]
    exact hL j h
  · rw [if_neg h] at hu; cases hu
set_option maxHeartbeats 3200000 in
set_option maxRecDepth 100000 in
theorem repeat_any (gx c : Nat) (fv : Value) (n : Nat) (w : World) (hx : w.cell? ⟨gx, 0, none⟩ = some fv) (h1 : fv.oneCell' = true) (hn : n ≤ 400000) :
    Calls Tryz.prog 171 #[.slice (some ⟨gx, 0, none⟩) 1 c, .int .i64 (n : Int)] w (RepPost fv n w) := by
  have cM : ∀ W, Calls Tryz.prog 186 #[.int .u64 1, .int .u64 (n : Int)] W fun e w' => e = .returned (.tuple #[.int .u64 0, .int .u64 (n : Int)]) ∧ w' = W := fun W => by
    have := Tryz.bits_Mul 1 n (by omega) (by omega) W
    rw [Nat.one_mul, Nat.div_eq_of_lt (by omega), Nat.mod_eq_of_lt (by omega)] at this
    exact this
  have hxl : gx < w.heap.size := cell_lt hx
  obtain ⟨i0, hi, hz0, hz1, hz2⟩ := info_parts infoCk
  obtain ⟨H, hH⟩ : ∃ H, w.heap.size = H := ⟨_, rfl⟩
  have hrun := fun (W : World) => run_make (P := Tryz.prog) W 176 150 i0 _ Tryz.underlying176 hi hz0 .i64 .i64 (n : Int) (n : Int) (by omega) (Int.le_refl _) (by rw [hz2]; omega) (by omega)
  obtain ⟨Z, hZ⟩ : ∃ Z : List Value, (madeCells Value.nilFunc.cells ((n : Int).toNat * i0.size)) = Z.toArray := ⟨_, (Array.toArray_toList).symm⟩
  have hZl : Z.length = n := by
    have := congrArg Array.size hZ
    rw [size_madeCells] at this
    simp only [List.size_toArray, Int.toNat_natCast, hz1] at this
    omega
  rw [hZ] at hrun
  simp only [Int.toNat_natCast] at hrun
  have hb0 : Below w.heap.size w (w.alloc (.cells Z.toArray 150)) := (Below.refl _ _).alloc (Nat.le_refl _) _
  have hr0 : (w.alloc (.cells Z.toArray 150)).heap[H]? = some (.cells Z.toArray 150 (0, 0)) := by rw [← hH]; exact heap_alloc_new w _
  have hx0 := hb0.cell hxl |>.trans hx
  have hrw := hrun w
  have hbig : ¬ (9223372036854775807 : Int) < (n : Int) := by omega
  have hcu : IntKind.u64.wrap (n : Int) = n := by show (n : Int) % 18446744073709551616 = n; omega
  have hci : IntKind.i64.wrap (n : Int) = n := by rw [IntKind.wrap_i64]; omega
  rw [hH] at hrw
  have HH := Lib.hid hH
  have HR0 := Lib.hid hr0
  have HB0 := Lib.hid hb0
  have HBH : Hid (Below H w (w.alloc (.cells Z.toArray 150))) := Lib.hid (by rw [← hH]; exact hb0)
  have HX0 := Lib.hid hx0
  have HZL := Lib.hid hZl
  clear hi hz0 hz1 hz2 hZ hZl hrun hr0 hb0 hx0 hH
  by_cases h0 : n = 0
  · subst h0
    have hrw0 : (Instr.makeSlice 176 (.int .i64 0) (.int .i64 0)).run Tryz.prog w = .ok (.slice (some ⟨H, 0, none⟩) 0 0) (w.alloc (.cells Z.toArray 150)) := hrw
    clear hrw
    go_enter Tryz.func171, Tryz.ntmps171
    have hcp : ∀ W, (Builtin.copy_ #[176, 176] 3 #[.slice (some ⟨H, 0, none⟩) 0 0, .slice (some ⟨gx, 0, none⟩) 1 c]).run Tryz.prog W = .ok (goInt 0) W := fun W =>
      run_copy_none (P := Tryz.prog) W _ _ _ 150 _ _ _ _ _ _ Tryz.underlying176 (by kernel_rfl) (by decide)
    go_wp2_with (go_at_call 186; refine (cM _).mono ?_; rintro e w1 ⟨rfl, he⟩; obtain rfl := he.symm)
    go_loopw [8] (fun i wr => i = .int .i64 0 ∧ wr = w.alloc (.cells Z.toArray 150)) (fun _ _ => 0)
    case atStart => exact ⟨rfl, rfl⟩
    case round =>
      obtain ⟨rfl, rfl⟩ := hrel
      go_wp2_with fail
      go_ret
      exact rep_ret HH.out HR0.out HZL.out (fun j hj => absurd hj (Nat.not_lt_zero _)) HB0.out
  · have h0' : 0 < n := by omega
    have hpos : ¬ (n : Int) = 0 := by omega
    obtain ⟨w2, hcp, hr2, hb2⟩ : ∃ w2, (Builtin.copy_ #[176, 176] 3 #[.slice (some ⟨H, 0, none⟩) n n, .slice (some ⟨gx, 0, none⟩) 1 c]).run Tryz.prog (w.alloc (.cells Z.toArray 150)) = .ok (.int .i64 1) w2 ∧
        w2.heap[H]? = some (.cells (splice Z 0 (List.replicate 1 fv)).toArray 150 (0, 0)) ∧ Below H w w2 := by
      refine ⟨_, run_copy_row (P := Tryz.prog) _ _ _ _ 150 H 0 n n ⟨gx, 0, none⟩ 1 c Z.toArray 150 (List.replicate 1 fv) Tryz.underlying176 (by kernel_rfl) HR0.out (by rw [List.length_replicate]; exact (Nat.min_eq_left h0').symm) (fun j v hj => ?_) (by rw [List.length_replicate, List.size_toArray, HZL.out]; omega) (fv_rep h1 1), ?_, ?_⟩
      · rw [addAt, Nat.zero_add]
        rw [List.getElem?_replicate] at hj
        by_cases h : j < 1
        · rw [if_pos h] at hj
          obtain rfl : j = 0 := by omega
          injection hj with hj
          rw [← hj]
          exact HX0.out
        · rw [if_neg h] at hj; cases hj
      · simpa [splice] using setRow_heap _ H _ _ 150 _ HR0.out
      · exact below_setRow HBH.out (Nat.le_refl _) _
    have HR2 := Lib.hid hr2
    have HB2 := Lib.hid hb2
    clear hr2 hb2
    go_enter Tryz.func171, Tryz.ntmps171
    go_wp2_with (go_at_call 186; refine (cM _).mono ?_; rintro e w1 ⟨rfl, he⟩; obtain rfl := he.symm)
    clear hcp hrw cM hcu hci hx
    go_loopw [8] (fun i wr => ∃ k : Nat, 0 < k ∧ k ≤ n ∧ i = .int .i64 k ∧ Below H w wr ∧ ∃ L : List Value, wr.heap[H]? = some (.cells L.toArray 150 (0, 0)) ∧ L.length = n ∧ ∀ (j : Nat), j < k → L[j]? = some fv) (fun i _ => n - (intOf i).toNat)
    case atStart =>
      refine ⟨1, by omega, h0', rfl, HB2.out, _, HR2.out, by rw [splice_len _ _ _ (by rw [List.length_replicate, HZL.out]; omega), HZL.out], ?_⟩
      exact splice_more (k := 0) (m := 1) (by rw [HZL.out]; omega) (fun j hj => absurd hj (Nat.not_lt_zero _))
    case round =>
      obtain ⟨k, hk0, hk, rfl, hbw, L, hr, hl, hall⟩ := hrel
      rename_i wr
      have HR := Lib.hid hr
      have HBW := Lib.hid hbw
      have HL := Lib.hid hl
      have HALL := Lib.hid hall
      clear hr hbw hl hall
      by_cases hlt : k < n
      · obtain ⟨m, hm⟩ : ∃ m, Nat.min k (n - k) = m := ⟨_, rfl⟩
        have hm1 : 0 < m ∧ k + m ≤ n := by
          have a : m ≤ n - k := by rw [← hm]; exact Nat.min_le_right _ _
          have b : 0 < m := by rw [← hm]; exact Nat.lt_min.2 ⟨hk0, by omega⟩
          omega
        have hkz : (k : Int) ≤ (n : Int) := by omega
        have hkl : (k : Int) < (n : Int) := by omega
        have hk00 : ¬ (k : Int) < 0 := by omega
        have ekn : ¬ n = k := by omega
        have hmk : m ≤ k := by rw [← hm]; exact Nat.min_le_left _ _
        go_wp2_with fail
        have hsrc : ∀ (j : Nat) v, (List.replicate m fv)[j]? = some v → wr.drew.cell? ((⟨H, 0, none⟩ : Addr).add j) = some v := fun j v hj => by
          rw [addAt, Nat.zero_add]
          rw [List.getElem?_replicate] at hj
          by_cases h : j < m
          · rw [if_pos h] at hj
            injection hj with hj
            rw [← hj]
            exact (cell_of_row wr H j _ _ _ HR.out).trans (by rw [List.getElem?_toArray]; exact HALL.out j (by omega))
          · rw [if_neg h] at hj; cases hj
        have HSRC := Lib.hid hsrc
        obtain ⟨L', hL'⟩ : ∃ L', splice L k (List.replicate m fv) = L' := ⟨_, rfl⟩
        have HA : Hid (L'.length = n) := Lib.hid (by rw [← hL']; exact (splice_len L k (List.replicate m fv) (by rw [List.length_replicate, HL.out]; exact hm1.2)).trans HL.out)
        have HB : Hid (∀ (j : Nat), j < k + m → L'[j]? = some fv) := Lib.hid (by rw [← hL']; exact splice_more (L := L) (k := k) (m := m) (by rw [HL.out]; exact hm1.2) HALL.out)
        have HL' := Lib.hid hL'
        clear hsrc hL'
        obtain ⟨w4, hcp4, hg4, hb4⟩ : ∃ w4, (Builtin.copy_ #[176, 176] 3 #[.slice (some ⟨H, k, none⟩) (n - k) (n - k), .slice (some ⟨H, 0, none⟩) k n]).run Tryz.prog wr.drew = .ok (.int .i64 (m : Int)) w4 ∧
            w4.heap[H]? = some (.cells L'.toArray 150 (0, 0)) ∧ Below H w w4 := by
          have hc := run_copy_row (P := Tryz.prog) wr.drew 176 176 3 150 H k (n - k) (n - k) ⟨H, 0, none⟩ k n L.toArray 150 (List.replicate m fv) Tryz.underlying176 (by kernel_rfl) HR.out (by rw [List.length_replicate]; exact hm.symm) HSRC.out (by rw [List.length_replicate, List.size_toArray, HL.out]; exact hm1.2) (fv_rep h1 m)
          have e1 : goInt (List.replicate m fv).length = .int .i64 (m : Int) := by rw [List.length_replicate]; rfl
          rw [e1] at hc
          refine ⟨_, hc, ?_, below_setRow (below_drewN' HBW.out 1) (Nat.le_refl _) _⟩
          rw [← HL'.out]
          simpa [splice] using setRow_heap wr.drew H _ _ 150 _ HR.out
        have HB4 := Lib.hid hb4
        have HG4 := Lib.hid hg4
        clear hg4 hb4
        go_region
        go_wp2_with fail
        go_roundw
        case rel => exact ⟨k + m, by omega, hm1.2, by go_num, HB4.out, L', HG4.out, HA.out, HB.out⟩
        case measure => simp [intOf]; omega
      · have hkn : k = n := by omega
        subst hkn
        go_wp2_with fail
        go_ret
        exact rep_ret HH.out HR.out HL.out HALL.out (by rw [HH.out]; exact HBW.out)
end Go.Proofs.YtklblhadhoppeaaGreatDoor
namespace Go.Proofs.YtklblhadhoppeaaGreatDoor
open Go.RowKit

def fnV (y : FuncId × Array Value) : Value := .func (.func y.1) #[] y.2
theorem fv_map (l : List (FuncId × Array Value)) : Fv (l.map fnV) := fun u hu => by
  obtain ⟨y, _, rfl⟩ := List.mem_map.1 hu
  rfl
theorem own_fns {w : World} {B n c : Nat} {A : Option Addr} {fs : List (FuncId × Array Value)} {X : Option Nat} (h : OwnCk w B (.slice A n c) (fs.map fnV)) (hX : ∀ m, X = some m → m < B) : n = fs.length ∧ Fns w X A fs := by
  unfold OwnCk at h
  rw [List.length_map] at h
  obtain ⟨h0, h⟩ := h
  rcases h with ⟨h, h1⟩ | ⟨g, cap, cur, h, hB, hg, _, _, hcs, hxs⟩
  · injection h with h2 h3
    refine ⟨by omega, fun j k cp hj => ?_⟩
    rw [List.length_eq_zero_iff.1 h1] at hj
    cases hj
  · injection h with h2 h3
    refine ⟨h3, fun j k cp hj => ⟨g, 0, h2, fun e => by have := hX g e; omega, ?_⟩⟩
    rw [Nat.zero_add, cell_of_row w g j _ _ _ hg]
    have hm : (fs.map fnV)[j]? = some (.func (.func k) #[] cp) := by rw [List.getElem?_map, hj]; rfl
    rw [← hxs, List.getElem?_take] at hm
    split at hm
    · rw [← hm, Array.getElem?_toList]
    · cases hm
set_option maxHeartbeats 3200000 in
set_option maxRecDepth 100000 in
theorem prow_any (W w0 : World) (v : Value) (x : Nod) (f : Fr) (hv : HasT W v (some (x, f))) (hu : Up W w0) (hf : f.len ≤ 100000) (least : Nat) (hle : least ≤ 1) (o : FuncId × Array Value)
    (A1 : Option Addr) (c1 : Nat) (fs : List (FuncId × Array Value)) (hfs : fs.length ≤ 2) (r1 : Rds w0 (.slice A1 fs.length c1) (fs.map fnV)) (X : Option Nat) (hX : ∀ m, X = some m → W.heap.size ≤ m ∧ m < w0.heap.size)
    (bs : Nat → Bool) (J : Nat → World → Prop) (hJ : ∀ w, Below w0.heap.size w0 w → J 0 w)
    (hc : ∀ (i : Nat) (t : Tr) (kv : Value) (w : World) k cap, f.get i = some t → (fs ++ List.replicate (f.len - fs.length) o)[i]? = some (k, cap) → HasT W kv (some t) → Up W w → J i w →
      Ent k ∧ Calls Tryz.prog k (#[kv] ++ cap) w fun e w' => TelX (bs i) X w e w' ∧ (bs i = true → J (i + 1) w')) :
    Calls Tryz.prog 147 #[v, .int .i64 (least : Int), fnV o, .slice A1 fs.length c1] w0 (TelX (decide (fs.length + least ≤ f.len) && allB f.len bs) X w0) := by
  have hv0 := hv
  obtain ⟨q, p, A', c', rfl, hq, c0, k1, k2, k3, c4, hcc, hkid⟩ := InT.open hv
  have c4' := hu.cell c4
  obtain ⟨n1, hn1⟩ : ∃ n1, fs.length = n1 := ⟨_, rfl⟩
  obtain ⟨M, hM⟩ : ∃ M, f.len = M := ⟨_, rfl⟩
  rw [hn1] at r1 hfs ⊢
  rw [hM] at c4' hf ⊢
  have HC := Lib.hid hc
  have HU := Lib.hid hu
  have HV := Lib.hid hv0
  have HX := Lib.hid hX
  have HJ := Lib.hid hJ
  have HM := Lib.hid hM
  have HN := Lib.hid hn1
  have R1 := Lib.hid r1
  obtain ⟨ko, co⟩ := o
  have HFO : Hid (fnV (ko, co) = .func (.func ko) #[] co) := Lib.hid rfl
  rw [HFO.out]
  clear hc hu hv hv0 hX hJ c0 k1 k2 k3 c4 hcc hkid hq hn1 hM r1
  by_cases h : n1 + least ≤ M
  · obtain ⟨n, hn⟩ : ∃ n, M - n1 = n := ⟨_, rfl⟩
    have e1 : (M : Int) - (n1 : Int) = (n : Int) := by omega
    have e2 : (least : Int) ≤ (n : Int) := by omega
    have HB : Hid ((decide (n1 + least ≤ M) && allB M bs) = allB M bs) := Lib.hid (by rw [decide_eq_true h]; rfl)
    rw [HB.out]
    obtain ⟨H, hH⟩ : ∃ H, w0.heap.size = H := ⟨_, rfl⟩
    have hx1 : (w0.alloc (.cells #[.func (.func ko) #[] co] 150)).cell? ⟨H, 0, none⟩ = some (.func (.func ko) #[] co) := by rw [← hH]; exact cell_of_row _ w0.heap.size 0 _ _ _ (heap_alloc_new w0 _)
    have cR := repeat_any H 1 (.func (.func ko) #[] co) n _ hx1 rfl (by omega)
    go_enter Tryz.func147, Tryz.ntmps147
    go_wp2_with fail
    refine cR.mono ?_
    rintro e w2 ⟨v2, rfl, ⟨A2, c2, rfl⟩, r2, b2⟩
    go_wp2_with fail
    have hs1 : (w0.alloc (.cells #[.func (.func ko) #[] co] 150)).heap.size = w0.heap.size + 1 := by simp
    have b02 : Below w0.heap.size w0 w2 := ((Below.refl w0.heap.size w0).alloc (Nat.le_refl _) _).trans (b2.mono (by omega))
    have hs2 := b02.size
    obtain ⟨W3, hW3⟩ : ∃ W3, w2.alloc (.cells #[.slice A1 n1 c1, .slice A2 n c2] 176) = W3 := ⟨_, rfl⟩
    have b23 : Below w2.heap.size w2 W3 := by rw [← hW3]; exact (Below.refl _ _).alloc (Nat.le_refl _) _
    have b03 : Below w0.heap.size w0 W3 := b02.trans (b23.mono hs2)
    have hs3 := b03.size
    have hg3 : W3.heap[w2.heap.size]? = some (.cells #[.slice A1 n1 c1, .slice A2 n c2] 176 (0, 0)) := by rw [← hW3]; exact heap_alloc_new w2 _
    have hn2 : n1 + n = M := by omega
    have cC := concat_any w2.heap.size _ _ n1 n c1 c2 A1 A2 (fs.map fnV) (List.replicate n (.func (.func ko) #[] co)) W3 rfl rfl (by rw [List.length_map]; exact HN.out) List.length_replicate hg3 (R1.out.below b03) (r2.below b23) (fv_map fs) (fv_rep rfl n) (by omega) (by omega)
    have hmap : fs.map fnV ++ List.replicate n (.func (.func ko) #[] co) = (fs ++ List.replicate n (ko, co)).map fnV := by rw [List.map_append, List.map_replicate, HFO.out]
    have hlen : (fs ++ List.replicate n (ko, co)).length = M := by rw [List.length_append, List.length_replicate, HN.out]; exact hn2
    rw [hmap] at cC
    rw [hW3]
    clear r2 b2 hg3 cR hx1 hW3 b23 b02
    refine cC.mono ?_
    rintro e w4 ⟨v4, rfl, o4, b4⟩
    obtain ⟨A4, c4, rfl⟩ := own_slice o4
    obtain ⟨-, hfn⟩ := own_fns (X := X) o4 (fun m hm => by have := HX.out m hm; omega)
    rw [List.length_map, hlen]
    have b04 : Below w0.heap.size w0 w4 := b03.trans (b4.mono hs3)
    have cK := pkids_any W w4 _ x f HV.out (HU.out.trans b04) (by rw [HM.out]; omega) A4 c4 (fs ++ List.replicate n (ko, co)) (by rw [hlen]; omega) X hfn (fun m hm => (HX.out m hm).1) bs J (HJ.out w4 b04)
      (fun i t kv w k cap h1 h2 => HC.out i t kv w k cap h1 (by rw [HM.out, HN.out, hn]; exact h2))
    rw [hlen, HM.out, decide_eq_true rfl, Bool.true_and] at cK
    have B04 := Lib.hid b04
    clear b04 b4 b03 hfn o4 cC hmap
    go_wp2_with fail
    refine cK.mono ?_
    rintro e w5 ⟨rfl, g5⟩
    go_wp2_with fail
    go_ret
    exact telx_ret rfl (gb_trans (gb_below B04.out (Nat.le_refl _)) g5)
  · have HB : Hid ((decide (n1 + least ≤ M) && allB M bs) = false) := Lib.hid (by rw [decide_eq_false h]; rfl)
    rw [HB.out]
    have e2 : ¬ (least : Int) ≤ (M : Int) - (n1 : Int) := by omega
    go_enter Tryz.func147, Tryz.ntmps147
    go_wp2_with fail
    go_ret
    exact telx_ret rfl (gb_refl _ _)
end Go.Proofs.YtklblhadhoppeaaGreatDoor
namespace Go.Proofs.YtklblhadhoppeaaGreatDoor
open Go.RowKit

section
variable (nk lg : ByteArray → Bool)
/-- Is tells what it should of trees of at most so many nodes. -/
def IsAt (n : Nat) : Prop := ∀ (t : Tr), szT t ≤ n → okST t → ∀ (c : Int) (W w : World) (v : Value), HasT W v (some t) → Up W w → Calls Tryz.prog 90 #[v, .int .i64 c] w (BoP (isT nk lg t c) W)
end
theorem bop_ret {a b : Bool} {W w' : World} (h : b = a) (u : Up W w') : BoP b W (.returned (.bool a)) w' := ⟨by rw [h], u⟩
/-- A slice of pointers that lead to these trees. -/
def HasK (w : World) (v : Value) (f : Fr) : Prop := ∃ A c, v = .slice A f.len c ∧ f.len ≤ c ∧ (0 < f.len → ∃ kb ko, A = some ⟨kb, ko, none⟩ ∧ kb < w.heap.size ∧ InF w (fun q => q < w.heap.size) f kb ko)
theorem HasK.up {W w : World} {v : Value} {f : Fr} (h : HasK W v f) (u : Up W w) : HasK w v f := by
  obtain ⟨A, c, hv, hc, hk⟩ := h
  refine ⟨A, c, hv, hc, fun h0 => ?_⟩
  obtain ⟨kb, ko, hA, h1, h2⟩ := hk h0
  exact ⟨kb, ko, hA, Nat.lt_of_lt_of_le h1 u.size, InF.keep (fun _ hq => Nat.lt_of_lt_of_le hq u.size) (fun b hb => u.block b hb) h1 h2⟩
/-- What a text of these bytes is to the walk. -/
theorem byt_facts (c : UInt8) (r : List UInt8) : ∃ T : ByteArray, byt (c :: r) = T ∧ T.toList.isEmpty = false ∧ (T.toList == []) = false ∧ 0 < T.size ∧ T.size = r.length + 1 ∧ (∀ h : 0 < T.size, T[0]'h = c) ∧ (∀ d r', r = d :: r' → ∀ h : 1 < T.size, T[1]'h = d) ∧ T.extract 1 T.size = byt r := by
  have hsz : (byt (c :: r)).size = r.length + 1 := by rw [Lib.size_eq]; rfl
  refine ⟨_, rfl, ?_, ?_, by omega, hsz, fun h => rfl, fun d r' e h => by subst e; rfl, ?_⟩
  · rw [Lib.toList_data]; rfl
  · rw [Lib.toList_data]; rfl
  · apply ba_eq
    rw [Lib.extract_data, hsz]
    show ((c :: r).drop 1).take _ = r
    simp
set_option maxHeartbeats 6400000 in
set_option maxRecDepth 100000 in
/-- Kids that are any number of one sort. -/
theorem kids_star {nk lg : ByteArray → Bool} {n : Nat} (ih : IsAt nk lg n) (d : UInt8) (r : List UInt8) (f : Fr) (hf : f.sz ≤ n) (hs : okS f) (hn : n ≤ 1000000) (W w : World) (v : Value) (hv : HasK W v f) (hu : Up W w) :
    Calls Tryz.prog 130 #[v, .string (byt (42 :: d :: r))] w (BoP (seqOk (infF nk lg f) (42 :: d :: r)) W) := by
  rw [seq_star]
  obtain ⟨T, hT, t1, t2, t3, t4, t5, t6, -⟩ := byt_facts 42 (d :: r)
  rw [hT]
  have h42 : ((T[0]'t3).toNat : Int) == 42 := by rw [t5 t3]; rfl
  have t7 : 1 < T.size := by rw [t4]; simp
  have hd : T[1]'t7 = d := t6 d r rfl t7
  have hcat := fun W => cat_any d W
  obtain ⟨A, cp, rfl, hc, hk⟩ := id hv
  have hlen := Fr.len_le f
  obtain ⟨N, hN⟩ : ∃ N, f.len = N := ⟨_, rfl⟩
  rw [hN] at hc hlen hk ⊢
  have hN6 : N ≤ 1000000 := by omega
  have HK := Lib.hid hk
  have HI := Lib.hid ih
  have HN := Lib.hid hN
  have HF := Lib.hid hf
  have HS := Lib.hid hs
  have HU := Lib.hid hu
  have HC := Lib.hid hcat
  clear hv hk ih hN hf hs hu hcat t2 t4 t5 t6 hT
  go_enter Tryz.func130, Tryz.ntmps130
  go_wp2_with fail
  go_loopw [5] (fun i wr => ∃ I : Nat, i = .int .i64 I ∧ I ≤ N ∧ (∀ (j : Nat) x, j < I → (infF nk lg f)[j]? = some x → starOk d x = true) ∧ Up W wr) (fun i _ => N - (intOf i).toNat)
  case atStart => exact ⟨0, rfl, Nat.zero_le _, fun j x hj => absurd hj (Nat.not_lt_zero _), HU.out⟩
  case round =>
    obtain ⟨I, rfl, hI, hall, hur⟩ := hrel
    have HALL := Lib.hid hall
    have HUR := Lib.hid hur
    clear hall hur
    by_cases hlt : I < N
    · have hiz : (I : Int) < (N : Int) := by omega
      obtain ⟨t, ht⟩ := Fr.get_some (f := f) (i := I) (by rw [HN.out]; exact hlt)
      obtain ⟨kb, ko, rfl, hkb, hin⟩ := HK.out (by omega)
      obtain ⟨u, hcell, hu⟩ := hin.at ht
      obtain ⟨q, p, rfl⟩ := hu.ptr
      obtain ⟨q', p', A', c', hv', -, c0, -⟩ := InT.open (x := t.1) (ks := t.2) hu
      injection hv' with hv'
      injection hv' with hv'
      injection hv' with hq hp
      subst hq hp
      have hgx : (infF nk lg f)[I]? = some (infT nk lg t) := by rw [infF_get, ht]; rfl
      have hsz := Fr.get_sz ht
      have hT : HasT W (.pointer (some ⟨q, p, none⟩)) (some t) := hu
      have cI := fun W' (h : Up W W') => HI.out t (by have := HF.out; omega) (okS_get HS.out ht) (catOf d) W W' _ hT h
      have HGX := Lib.hid hgx
      have CI := Lib.hid cI
      have HXK : Hid ((infT nk lg t).k = t.1.k) := Lib.hid rfl
      obtain ⟨b, hb⟩ : ∃ b, isT nk lg t (catOf d) = b := ⟨_, rfl⟩
      have HB : Hid ((infT nk lg t).is (catOf d) = b) := Lib.hid hb
      rw [hb] at cI
      have CI := Lib.hid cI
      have HCELL := Lib.hid hcell
      have HC0 := Lib.hid c0
      have hcr := HUR.out.cell hcell
      have c0r := HUR.out.cell c0
      have hcase : (b = false) ∨ (b = true ∧ d ≠ 105 ∧ ((d.toNat : Int) == 105) = false) ∨ (b = true ∧ d = 105 ∧ ((d.toNat : Int) == 105) = true ∧ ((t.1.k = 74 ∧ (t.1.k == 74) = true) ∨ (t.1.k = 75 ∧ (t.1.k == 74) = false ∧ (t.1.k == 75) = true) ∨ ((t.1.k == 74) = false ∧ (t.1.k == 75) = false ∧ t.1.k ≠ 74 ∧ t.1.k ≠ 75))) := by
        cases b with
        | false => exact .inl rfl
        | true =>
          by_cases h : d = 105
          · refine .inr (.inr ⟨rfl, h, u8_eq (d := 105) h, ?_⟩)
            by_cases h1 : t.1.k = 74
            · exact .inl ⟨h1, by rw [h1]; rfl⟩
            · by_cases h2 : t.1.k = 75
              · exact .inr (.inl ⟨h2, by rw [beq_eq_false_iff_ne]; exact h1, by rw [h2]; rfl⟩)
              · exact .inr (.inr ⟨by rw [beq_eq_false_iff_ne]; exact h1, by rw [beq_eq_false_iff_ne]; exact h2, h1, h2⟩)
          · exact .inr (.inl ⟨rfl, h, u8_ne (d := 105) h⟩)
      have HNX : Hid (starOk d (infT nk lg t) = true → ∀ (j : Nat) x, j < I + 1 → (infF nk lg f)[j]? = some x → starOk d x = true) := Lib.hid fun h j x hj hx => by
        by_cases e : j = I
        · subst e
          rw [HGX.out] at hx
          injection hx with hx
          rw [← hx]
          exact h
        · exact HALL.out j x (by omega) hx
      have HNO : Hid (starOk d (infT nk lg t) = false → (infF nk lg f).all (starOk d) = false) := Lib.hid fun h => all_no HGX.out h
      have HST : Hid (starOk d (infT nk lg t) = (b && !(decide (d = 105) && (decide (t.1.k = 74) || decide (t.1.k = 75))))) := Lib.hid (by unfold starOk; rw [HB.out, HXK.out])
      clear hin hu hcell c0 hgx hT cI ht hb hsz
      have hcu : ∀ u : Upw W, u.w.cell? ⟨kb, ko + I, none⟩ = some (.pointer (some ⟨q, p, none⟩)) := fun u => u.cell HCELL.out
      have c0u : ∀ u : Upw W, u.w.cell? ⟨q, p, none⟩ = some (.int .i64 t.1.k) := fun u => u.cell HC0.out
      rcases hcase with rfl | ⟨rfl, hd1, hd2⟩ | ⟨rfl, hd1, hd2, ⟨k1, k2⟩ | ⟨k1, k2, k3⟩ | ⟨k2, k3, k4, k5⟩⟩
      · have HE : Hid ((infF nk lg f).all (starOk d) = false) := Lib.hid (HNO.out (by rw [HST.out]; rfl))
        clear HNX HNO HST
        go_wp2_with fail
        refine wp_region_up HUR.out (by kernel_rfl) (by kernel_rfl) ?_
        repeat (go_big_quiet_step (first
            | (go_at_call 162; exact Calls.upw ((HC.out _).mono fun _ _ h => ⟨h.1, h.2 ▸ (by assumption : Upw W).h⟩))
            | (go_at_call 90; exact Calls.upw (CI.out _ (by assumption : Upw W).h))))
        refine wpQuiet_nil ?_
        rintro _ ⟨⟨w9, u9⟩, rfl⟩
        go_wp2_with fail
        go_ret
        exact bop_ret HE.out u9
      · have HX : Hid (starOk d (infT nk lg t) = true) := Lib.hid (by rw [HST.out, decide_eq_false hd1]; rfl)
        clear HNO HST hd1
        go_wp2_with fail
        refine wp_region_up HUR.out (by kernel_rfl) (by kernel_rfl) ?_
        repeat (go_big_quiet_step (first
            | (go_at_call 162; exact Calls.upw ((HC.out _).mono fun _ _ h => ⟨h.1, h.2 ▸ (by assumption : Upw W).h⟩))
            | (go_at_call 90; exact Calls.upw (CI.out _ (by assumption : Upw W).h))))
        refine wpQuiet_nil ?_
        rintro _ ⟨⟨w9, u9⟩, rfl⟩
        go_wp2_with fail
        go_roundw
        case rel => exact ⟨I + 1, by go_num, by omega, HNX.out HX.out, u9⟩
        case measure => simp [intOf]; omega
      · have HE : Hid ((infF nk lg f).all (starOk d) = false) := Lib.hid (HNO.out (by rw [HST.out, decide_eq_true hd1, decide_eq_true k1]; rfl))
        clear HNX HNO HST hd1 k1
        go_wp2_with fail
        refine wp_region_up HUR.out (by kernel_rfl) (by kernel_rfl) ?_
        repeat (go_big_quiet_step (first
            | (go_at_call 162; exact Calls.upw ((HC.out _).mono fun _ _ h => ⟨h.1, h.2 ▸ (by assumption : Upw W).h⟩))
            | (go_at_call 90; exact Calls.upw (CI.out _ (by assumption : Upw W).h))))
        refine wpQuiet_nil ?_
        rintro _ ⟨⟨w9, u9⟩, rfl⟩
        go_wp2_with fail
        go_ret
        exact bop_ret HE.out u9
      · have HE : Hid ((infF nk lg f).all (starOk d) = false) := Lib.hid (HNO.out (by rw [HST.out, decide_eq_true hd1, decide_eq_true k1, Bool.or_true]; rfl))
        clear HNX HNO HST hd1 k1
        go_wp2_with fail
        refine wp_region_up HUR.out (by kernel_rfl) (by kernel_rfl) ?_
        repeat (go_big_quiet_step (first
            | (go_at_call 162; exact Calls.upw ((HC.out _).mono fun _ _ h => ⟨h.1, h.2 ▸ (by assumption : Upw W).h⟩))
            | (go_at_call 90; exact Calls.upw (CI.out _ (by assumption : Upw W).h))))
        refine wpQuiet_nil ?_
        rintro _ ⟨⟨w9, u9⟩, rfl⟩
        go_wp2_with fail
        go_ret
        exact bop_ret HE.out u9
      · have HX : Hid (starOk d (infT nk lg t) = true) := Lib.hid (by rw [HST.out, decide_eq_true hd1, decide_eq_false k4, decide_eq_false k5]; rfl)
        clear HNO HST hd1 k4 k5
        go_wp2_with fail
        refine wp_region_up HUR.out (by kernel_rfl) (by kernel_rfl) ?_
        repeat (go_big_quiet_step (first
            | (go_at_call 162; exact Calls.upw ((HC.out _).mono fun _ _ h => ⟨h.1, h.2 ▸ (by assumption : Upw W).h⟩))
            | (go_at_call 90; exact Calls.upw (CI.out _ (by assumption : Upw W).h))))
        refine wpQuiet_nil ?_
        rintro _ ⟨⟨w9, u9⟩, rfl⟩
        go_wp2_with fail
        go_roundw
        case rel => exact ⟨I + 1, by go_num, by omega, HNX.out HX.out, u9⟩
        case measure => simp [intOf]; omega
    · have hiz : ¬ (I : Int) < (N : Int) := by omega
      have HE : Hid ((infF nk lg f).all (starOk d) = true) := Lib.hid (all_yes fun i j hij => HALL.out i j (by
        have := (List.getElem?_eq_some_iff.1 hij).1
        rw [infF_len, HN.out] at this
        omega) hij)
      go_wp2_with fail
      go_ret
      exact bop_ret HE.out HUR.out
end Go.Proofs.YtklblhadhoppeaaGreatDoor
