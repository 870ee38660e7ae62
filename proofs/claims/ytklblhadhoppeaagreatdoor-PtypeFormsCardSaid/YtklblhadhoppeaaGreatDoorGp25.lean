/-
  Layer 6, the program's writer: a type's texts, form by form.
-/
import Derived.Test.YtklblhadhoppeaaGreatDoorGp18
import Derived.Test.YtklblhadhoppeaaGreatDoorGp19
import Derived.Test.YtklblhadhoppeaaGreatDoorGp24
import Derived.Below
import Derived.BigQuiet
import Derived.Carry
import Derived.Deep.AppendLies
import Derived.Deep.DeepMust
import Derived.Deep.Onto
import Derived.Deep.QuietTactic
import Derived.Deep.RegionHeld3
import Derived.Deep.RegionLaw
import Derived.KernelRfl
import Derived.Laws.OwnMore
import Derived.Laws.Rows
import Derived.Laws.Tables
import Derived.Lib.AppendIntMem
import Derived.Lib.AtoiAll
import Derived.Lib.AtoiErrMem
import Derived.Lib.CountLaws
import Derived.Lib.CutLaws
import Derived.Lib.Hide
import Derived.Lib.IndexBytes
import Derived.Lib.ItoaLen
import Derived.Lib.ItoaNum
import Derived.Lib.Join
import Derived.Lib.LaidTab
import Derived.Lib.OthersKept
import Derived.Lib.Replace
import Derived.Lib.RuneCount
import Derived.Lib.Split
import Derived.Lib.Strings
import Derived.Lib.ValidLaws
import Derived.LoopIn
import Derived.LoopNIn
import Derived.MapKept
import Derived.Maps.AppendAt
import Derived.Outline
import Derived.OwnWalk
import Derived.OwnWalkIn
import Derived.RangeFuncBound
import Derived.RangeFuncBox
import Derived.RangeFuncCalls
import Derived.RangeFuncLeaves
import Derived.RangeFuncNested
import Derived.Shelf.Abstract
import Derived.Shelf.Bits.Mul64
import Derived.Shelf.LaysC
import Derived.Shelf.LaysM
import Derived.Shelf.Slices.Turned
import Derived.Shelf.Small.Utf8
import Derived.Shelf.Strconv.Atoi
import Derived.Shelf.Strconv.AtoiAll
import Derived.Shelf.Strconv.AtoiErr
import Derived.Shelf.Strconv.AtoiErrFast
import Derived.Shelf.Strconv.AtoiFail
import Derived.Shelf.Strconv.AtoiInnerAll
import Derived.Shelf.Strconv.AtoiLong
import Derived.Shelf.Strconv.Clone
import Derived.Shelf.Strconv.ErrVarAll
import Derived.Shelf.Strconv.Itoa0
import Derived.Shelf.Strconv.Itoa1
import Derived.Shelf.Strconv.Itoa2
import Derived.Shelf.Strconv.Itoa3
import Derived.Shelf.Strconv.Lower
import Derived.Shelf.Strconv.ParseInt10
import Derived.Shelf.Strconv.ParseIntEmpty
import Derived.Shelf.Strconv.ParseUint10
import Derived.Shelf.Strconv.ParseUint10Any
import Derived.Shelf.Strconv.ParseUint10Empty
import Derived.Shelf.Strconv.RangeError
import Derived.Shelf.Strconv.SyntaxError
import Derived.Shelf.Strconv.ToError
import Derived.Shelf.Strconv.ToErrorRange
import Derived.Shelf.Strings.Builder1
import Derived.Shelf.Strings.Builder2
import Derived.Shelf.Strings.Count
import Derived.Shelf.Strings.Cut
import Derived.Shelf.Strings.OnBuilder
import Derived.Shelf.Strings.Prefix
import Derived.Shelf.Strings.Replace
import Derived.Shelf.Strings.Search1
import Derived.Shelf.Strings.Search2
import Derived.Shelf.Strings.Search3
import Derived.Shelf.Strings.Shaped
import Derived.Shelf.Strings.Split
import Derived.Shelf.Strings.SplitShaped
import Derived.Shelf.Unicode.DecodeAny
import Derived.Shelf.Unicode.DecodeSlow
import Derived.Shelf.Utf8.RuneCount
import Derived.TacticsInMore
import Derived.Test.YtklblhadhoppeaaGreatDoorProg
import Derived.Test.YtklblhadhoppeaaGreatDoorRows
import Derived.WalkKit
import Derived.WalkLawsBesides
import Derived.WalkSmall
import Derived.WalkSpells
namespace Go.Proofs.YtklblhadhoppeaaGreatDoor
open Go.RowKit

def txt (l : List Tk) : List ByteArray := l.map (·.s)
theorem put_lit {W : World} {bw : Nat} {w : World} {ts : List ByteArray} (news : List ByteArray) (hB : W.heap.size ≤ bw) (hu : Up W w) (hw : Wr bw w ts) (hts : ts.length ≤ 1000000) (hn : news.length ≤ 10) (hn0 : 0 < news.length) :
    Calls Tryz.prog 82 #[.pointer (some ⟨bw, 0, none⟩), .slice (some ⟨w.heap.size, 0, none⟩) news.length news.length] (w.alloc (.cells (news.map Value.string).toArray 9)) (WrP W bw (ts ++ news)) :=
  put_any W bw hB _ (hu.alloc _) ts news (hw.up ((Up.refl w).alloc _)) hts hn hn0 w.heap.size fun j u h => by
    rw [Nat.zero_add, cell_of_row _ w.heap.size j _ _ _ (heap_alloc_new w _), List.getElem?_toArray]
    exact h
/-- The tightest rule that makes such a type. -/
def ruT (k : Int) : Int := if k = 5 then 0 else if k = 6 then 1 else 2
set_option maxHeartbeats 1600000 in
set_option maxRecDepth 100000 in
theorem ruleOf_any {W w : World} {v : Value} {x : Nod} {f : Fr} (hv : HasT W v (some (x, f))) (hu : Up W w) : Calls Tryz.prog 81 #[v] w fun e w' => e = .returned (.int .i64 (ruT x.k)) ∧ Up w w' := by
  obtain ⟨q, p, A, c, rfl, hq, c0, -⟩ := InT.open hv
  have k0 := hu.cell c0
  clear c0 hv
  by_cases h5 : x.k = 5
  · have HE : Hid (ruT x.k = 0) := Lib.hid (if_pos h5)
    rw [HE.out]
    rw [h5] at k0
    go_enter Tryz.func81, Tryz.ntmps81
    go_wp2_with fail
    go_ret
    exact ⟨rfl, Up.refl _⟩
  · by_cases h6 : x.k = 6
    · have HE : Hid (ruT x.k = 1) := Lib.hid (by unfold ruT; rw [if_neg h5, if_pos h6])
      rw [HE.out]
      rw [h6] at k0
      go_enter Tryz.func81, Tryz.ntmps81
      go_wp2_with fail
      go_ret
      exact ⟨rfl, Up.refl _⟩
    · have HE : Hid (ruT x.k = 2) := Lib.hid (by unfold ruT; rw [if_neg h5, if_neg h6])
      rw [HE.out]
      go_enter Tryz.func81, Tryz.ntmps81
      go_wp2_with fail
      go_ret
      exact ⟨rfl, Up.refl _⟩
set_option maxHeartbeats 6400000 in
set_option maxRecDepth 100000 in
theorem writePlain_any {W : World} {bw : Nat} {w : World} {ts : List ByteArray} (k : Nat) (hk : k < 3) (hB : W.heap.size ≤ bw) (hu : Up W w) (hw : Wr bw w ts) (hts : ts.length ≤ 1000000) (hp : Pl W) :
    Calls Tryz.prog 84 #[.pointer (some ⟨bw, 0, none⟩), .int .i64 ((k + 1 : Nat) : Int)] w (WrP W bw (ts ++ [plS k])) := by
  obtain ⟨tp, zp, hpl⟩ := hp.up hu
  have HW := Lib.hid hw
  have HU := Lib.hid hu
  obtain ⟨kk, hkk⟩ : ∃ kk, ((k + 1 : Nat) : Int) = kk := ⟨_, rfl⟩
  have HKK := Lib.hid hkk
  rw [hkk]
  clear hw hu hkk
  go_enter Tryz.func84, Tryz.ntmps84
  go_wp2_with (refine wpList_load_row rfl 161 (.global 0) rfl 0 rfl tp plV zp _ hpl Tryz.underlying161 rfl (by kernel_rfl) ?_)
  generalize hA : plV = AR
  have HAR := Lib.hid hA
  clear hA hpl
  go_loopw [7] (fun x wr => ∃ j : Nat, j ≤ 3 ∧ x = .int .i64 (j : Int) ∧ Up W wr ∧ Wr bw wr (if k < j then ts ++ [plS k] else ts)) (fun x _ => 4 - (intOf x).toNat)
  case atStart => exact ⟨0, Nat.zero_le _, rfl, HU.out, by rw [if_neg (by omega)]; exact HW.out⟩
  case round =>
    obtain ⟨j, hj, rfl, hur, hwr⟩ := hrel
    have HUR := Lib.hid hur
    have HWR := Lib.hid hwr
    clear hur hwr
    by_cases hlt : j < 3
    · have hix : ∀ W, (Instr.index 161 (.agg AR) (.int .i64 (j : Int))).run Tryz.prog W = .ok (.agg #[.string (plS j), .int .i64 ((j + 1 : Nat) : Int)]) W := fun W => by rw [← HAR.out]; exact pl_idx j hlt W
      have hw1 : IntKind.i64.wrap ((j : Int) + 1) = ((j + 1 : Nat) : Int) := by rw [IntKind.wrap_i64]; omega
      have hjz : (j : Int) < 3 := by omega
      obtain ⟨X, hX⟩ : ∃ X, plS j = X := ⟨_, rfl⟩
      obtain ⟨ka, hka⟩ : ∃ ka, ((j + 1 : Nat) : Int) = ka := ⟨_, rfl⟩
      rw [hX, hka] at hix
      rw [hka] at hw1
      have HX := Lib.hid hX
      have HKA := Lib.hid hka
      obtain ⟨Wr1, hWr1⟩ : ∃ Wr1, wr.alloc (.cells #[.string X, .int .i64 ka] 160) = Wr1 := ⟨_, rfl⟩
      have ur : Up wr Wr1 := by rw [← hWr1]; exact (Up.refl wr).alloc _
      have UR := Lib.hid ur
      have HW1 := Lib.hid hWr1
      by_cases he : ka = kk
      · have hjk : j = k := by have := HKK.out; omega
        have hw2 : Wr bw wr ts := by have h := HWR.out; rwa [if_neg (by omega)] at h
        have cP : Calls Tryz.prog 82 #[.pointer (some ⟨bw, 0, none⟩), .slice (some ⟨Wr1.heap.size, 0, none⟩) 1 1] (Wr1.alloc (.cells #[.string X] 9)) (WrP W bw (ts ++ [X])) := put_lit (W := W) [X] hB (HUR.out.trans ur) (hw2.up ur) hts (by show 1 ≤ 10; omega) Nat.one_pos
        have hz1 : Wr1.heap.size = wr.heap.size + 1 := by rw [← hWr1]; simp
        rw [hz1] at cP
        have cX : Wr1.cell? ⟨wr.heap.size, 0, none⟩ = some (.string X) := by rw [← hWr1]; exact cell_of_row _ wr.heap.size 0 _ _ _ (heap_alloc_new wr _)
        subst he
        have HJK := Lib.hid hjk
        clear hX hka hWr1 ur hw2 hjk hz1
        go_wp2_with fail
        rw [HW1.out]
        refine cP.mono ?_
        rintro en w2 ⟨⟨u, rfl⟩, u2, h2⟩
        have h2' := Lib.hid h2
        clear h2
        go_wp2_with fail
        go_roundw
        case rel => exact ⟨j + 1, by omega, i64_eq (by have := HKA.out; omega), u2, by have hjk := HJK.out; rw [if_pos (by omega), ← hjk, HX.out]; exact h2'.out⟩
        case measure => simp [intOf]; have := HKA.out; omega
      · have hne : ¬ j = k := fun e => he (by rw [← HKA.out, ← HKK.out, e])
        clear hX hka hWr1 ur
        go_wp2_with fail
        go_roundw
        case rel => exact ⟨j + 1, by omega, i64_eq (by have := HKA.out; omega), by rw [HW1.out]; exact HUR.out.trans UR.out, by
          rw [HW1.out]
          have h := HWR.out
          by_cases hkj : k < j
          · rw [if_pos hkj] at h; rw [if_pos (by omega)]; exact h.up UR.out
          · rw [if_neg hkj] at h; rw [if_neg (by omega)]; exact h.up UR.out⟩
        case measure => simp [intOf]; have := HKA.out; omega
    · obtain rfl : j = 3 := by omega
      go_wp2_with fail
      go_end0
      have h := HWR.out
      rw [if_pos (by omega)] at h
      exact ⟨⟨_, rfl⟩, HUR.out, h⟩
end Go.Proofs.YtklblhadhoppeaaGreatDoor
namespace Go.Proofs.YtklblhadhoppeaaGreatDoor
open Go.RowKit

/-- What is written of a tree where a rule is asked. -/
def wiR (r : Int) (t : Tr) : List Tk := wi (decide (ruT t.1.k < r)) (tkT t)
theorem wiR_0 (t : Tr) : wiR 0 t = tkT t := by
  unfold wiR
  have h : ¬ ruT t.1.k < 0 := by unfold ruT; split <;> (try split) <;> omega
  rw [decide_eq_false h]
  rfl
theorem wiR_1 (t : Tr) : wiR 1 t = wi (is5 t.1) (tkT t) := by
  unfold wiR is5
  congr 1
  have h : ruT t.1.k < 1 ↔ t.1.k = 5 := by unfold ruT; split <;> (try split) <;> omega
  exact decide_eq_decide.2 h
theorem wiR_2 (t : Tr) : wiR 2 t = wi (is56 t.1) (tkT t) := by
  unfold wiR is56
  congr 1
  have h : ruT t.1.k < 2 ↔ (t.1.k = 5 ∨ t.1.k = 6) := by unfold ruT; split <;> (try split) <;> omega
  rw [decide_eq_decide.2 h, Bool.decide_or]
theorem wiR_no {r : Int} {t : Tr} (h : ¬ ruT t.1.k < r) : wiR r t = tkT t := by unfold wiR; rw [decide_eq_false h]; rfl
theorem txt_app (a b : List Tk) : txt (a ++ b) = txt a ++ txt b := List.map_append
theorem txt_len (a : List Tk) : (txt a).length = a.length := List.length_map _
/-- What write does, of a tree at a rule. -/
def WriAt (W : World) (bw : Nat) (t : Tr) (r : Int) : Prop := ∀ (w : World) (ts : List ByteArray) (v : Value), HasT W v (some t) → Up W w → Wr bw w ts → ts.length + (wiR r t).length ≤ 1000000 → Calls Tryz.prog 52 #[.pointer (some ⟨bw, 0, none⟩), v, .int .i64 r] w (WrP W bw (ts ++ txt (wiR r t)))
section
variable {W : World} {bw : Nat}
theorem put_1 {w : World} {ts : List ByteArray} (x : ByteArray) (hB : W.heap.size ≤ bw) (hu : Up W w) (hw : Wr bw w ts) (hts : ts.length ≤ 1000000) :
    Calls Tryz.prog 82 #[.pointer (some ⟨bw, 0, none⟩), .slice (some ⟨w.heap.size, 0, none⟩) 1 1] (w.alloc (.cells #[.string x] 9)) (WrP W bw (ts ++ [x])) := put_lit [x] hB hu hw hts (by show 1 ≤ 10; omega) Nat.one_pos
set_option maxHeartbeats 6400000 in
set_option maxRecDepth 100000 in
theorem write_paren (t : Tr) (r : Int) (hB : W.heap.size ≤ bw) (h : ruT t.1.k < r) (c0 : WriAt W bw t 0) : WriAt W bw t r := fun w ts v hv hu hw hz => by
  obtain ⟨x, f⟩ := t
  have he : wiR r (x, f) = ky kOpen :: (tkT (x, f) ++ [ky kShut]) := by unfold wiR; rw [decide_eq_true h]; rfl
  have hzl : ts.length + (tkT (x, f)).length + 2 ≤ 1000000 := by rw [he] at hz; simp only [List.length_cons, List.length_append, List.length_nil] at hz; omega
  have HE : Hid (ts ++ txt (wiR r (x, f)) = ((ts ++ [kOpen]) ++ txt (wiR 0 (x, f))) ++ [kShut]) := Lib.hid (by rw [he, wiR_0]; show ts ++ kOpen :: txt (tkT (x, f) ++ [ky kShut]) = _; rw [txt_app]; simp [txt, ky])
  rw [HE.out]
  have cR := ruleOf_any hv hu
  have HV := Lib.hid hv
  have HU := Lib.hid hu
  have HW := Lib.hid hw
  have HC := Lib.hid c0
  have HZ := Lib.hid hzl
  have hq : (ruT x.k) < r := h
  obtain ⟨q, hqq⟩ : ∃ q, ruT x.k = q := ⟨_, rfl⟩
  rw [hqq] at cR hq
  clear hv hu hw c0 he hz hzl h hqq
  go_enter Tryz.func52, Tryz.ntmps52
  go_wp2_with fail
  refine cR.mono ?_
  rintro en w1 ⟨rfl, u1⟩
  have cP := put_1 (W := W) kOpen hB (HU.out.trans u1) (HW.out.up u1) (by have := HZ.out; omega)
  have U1 := Lib.hid (HU.out.trans u1)
  clear u1
  go_wp2_with fail
  refine cP.mono ?_
  rintro en w2 ⟨⟨u, rfl⟩, u2, h2⟩
  have cW := HC.out w2 (ts ++ [kOpen]) v HV.out u2 h2 (by rw [wiR_0, List.length_append]; have := HZ.out; simp only [List.length_cons, List.length_nil]; omega)
  clear u2 h2 cP
  go_wp2_with fail
  refine cW.mono ?_
  rintro en w3 ⟨⟨u, rfl⟩, u3, h3⟩
  have cP := put_1 (W := W) kShut hB u3 h3 (by rw [wiR_0]; simp only [List.length_append, txt_len, List.length_cons, List.length_nil]; have := HZ.out; omega)
  clear u3 h3 cW
  go_wp2_with fail
  refine cP.mono ?_
  rintro en w4 ⟨⟨u, rfl⟩, u4, h4⟩
  have H4 := Lib.hid h4
  clear h4
  go_wp2_with fail
  go_end0
  exact ⟨⟨_, rfl⟩, u4, H4.out⟩
set_option maxHeartbeats 6400000 in
set_option maxRecDepth 100000 in
theorem write_leaf (k : Nat) (hk : k < 3) (r : Int) (hB : W.heap.size ≤ bw) (hp : Pl W) (hr : ¬ ruT ((k + 1 : Nat) : Int) < r) : WriAt W bw (nd ((k + 1 : Nat) : Int) nob .nil) r := fun w ts v hv hu hw hz => by
  have he : wiR r (nd ((k + 1 : Nat) : Int) nob .nil) = tkT (nd ((k + 1 : Nat) : Int) nob .nil) := wiR_no hr
  have ht : txt (tkT (nd ((k + 1 : Nat) : Int) nob .nil)) = [plS k] := by obtain rfl | rfl | rfl : k = 0 ∨ k = 1 ∨ k = 2 := (by omega) <;> rfl
  have HE : Hid (ts ++ txt (wiR r (nd ((k + 1 : Nat) : Int) nob .nil)) = ts ++ [plS k]) := Lib.hid (by rw [he, ht])
  rw [HE.out]
  have cR := ruleOf_any hv hu
  obtain ⟨q, p, A, c, rfl, hq, k0, -⟩ := InT.open hv
  have HU := Lib.hid hu
  have HW := Lib.hid hw
  have k0 : W.cell? ⟨q, p, none⟩ = some (.int .i64 ((k + 1 : Nat) : Int)) := k0
  have HK := Lib.hid k0
  have hrr : ruT ((k + 1 : Nat) : Int) = 2 := by unfold ruT; rw [if_neg (by omega), if_neg (by omega)]
  rw [hrr] at hr
  have cR : Calls Tryz.prog 81 #[.pointer (some ⟨q, p, none⟩)] w fun e w' => e = .returned (.int .i64 2) ∧ Up w w' := by
    refine cR.mono fun e w' ⟨h1, h2⟩ => ⟨?_, h2⟩
    rw [h1]
    exact congrArg (fun z => Ending.returned (.int .i64 z)) hrr
  have hz1 : ts.length ≤ 1000000 := by omega
  obtain ⟨ka, hka⟩ : ∃ ka, ((k + 1 : Nat) : Int) = ka := ⟨_, rfl⟩
  have h4 : ¬ ka = 4 := by omega
  have h5 : ¬ ka = 5 := by omega
  have h6 : ¬ ka = 6 := by omega
  have h7 : ¬ ka = 7 := by omega
  have HKA := Lib.hid hka
  clear hv hu hw he ht hz hrr k0 hka HE
  go_enter Tryz.func52, Tryz.ntmps52
  go_wp2_with fail
  refine cR.mono ?_
  rintro en w1 ⟨rfl, u1⟩
  have k1 : w1.cell? ⟨q, p, none⟩ = some (.int .i64 ka) := by rw [← HKA.out]; exact (HU.out.trans u1).cell HK.out
  have cP := writePlain_any (W := W) (bw := bw) k hk hB (HU.out.trans u1) (HW.out.up u1) hz1 hp
  rw [HKA.out] at cP
  clear u1 cR
  go_wp2_with fail
  refine cP.mono ?_
  rintro en w2 ⟨⟨u, rfl⟩, u2, h2⟩
  have H2 := Lib.hid h2
  clear h2
  go_wp2_with fail
  go_end0
  exact ⟨⟨_, rfl⟩, u2, H2.out⟩
set_option maxHeartbeats 6400000 in
set_option maxRecDepth 100000 in
theorem write_name (s : ByteArray) (r : Int) (hB : W.heap.size ≤ bw) (hr : ¬ (2 : Int) < r) : WriAt W bw (nd 4 s .nil) r := fun w ts v hv hu hw hz => by
  have he : wiR r (nd 4 s .nil) = [nmT s] := wiR_no (t := nd 4 s .nil) hr
  have HE : Hid (ts ++ txt (wiR r (nd 4 s .nil)) = ts ++ [s]) := Lib.hid (by rw [he]; rfl)
  rw [HE.out]
  have cR : Calls Tryz.prog 81 #[v] w fun e w' => e = .returned (.int .i64 2) ∧ Up w w' := ruleOf_any hv hu
  obtain ⟨q, p, A, c, rfl, hq, k0, k1, k2, -⟩ := InT.open hv
  have HU := Lib.hid hu
  have HW := Lib.hid hw
  have HK := Lib.hid k0
  have HK2 := Lib.hid k2
  have hz1 : ts.length ≤ 1000000 := by omega
  clear hv hu hw he hz k0 k1 k2 HE
  go_enter Tryz.func52, Tryz.ntmps52
  go_wp2_with fail
  refine cR.mono ?_
  rintro en w1 ⟨rfl, u1⟩
  have k1 := (HU.out.trans u1).cell HK.out
  have k2 := (HU.out.trans u1).cell HK2.out
  have cP := put_1 (W := W) s hB (HU.out.trans u1) (HW.out.up u1) hz1
  clear u1 cR
  go_wp2_with fail
  refine cP.mono ?_
  rintro en w2 ⟨⟨u, rfl⟩, u2, h2⟩
  have H2 := Lib.hid h2
  clear h2
  go_wp2_with fail
  go_end0
  exact ⟨⟨_, rfl⟩, u2, H2.out⟩
set_option maxHeartbeats 12800000 in
set_option maxRecDepth 100000 in
theorem write_5 (a b : Tr) (r : Int) (hB : W.heap.size ≤ bw) (hr : ¬ (0 : Int) < r) (cA : WriAt W bw a 1) (cB : WriAt W bw b 0) : WriAt W bw (nd 5 nob (fr2 a b)) r := fun w ts v hv hu hw hz => by
  have he : wiR r (nd 5 nob (fr2 a b)) = wiR 1 a ++ (ky kArrow :: wiR 0 b) := by rw [wiR_no (t := nd 5 nob (fr2 a b)) hr, tk_two5, ← wiR_1, wiR_0 b]
  have HE : Hid (ts ++ txt (wiR r (nd 5 nob (fr2 a b))) = ((ts ++ txt (wiR 1 a)) ++ [kArrow]) ++ txt (wiR 0 b)) := Lib.hid (by rw [he, txt_app]; simp [txt, ky])
  have hzl : ts.length + (wiR 1 a).length + (wiR 0 b).length + 1 ≤ 1000000 := by rw [he] at hz; simp only [List.length_cons, List.length_append] at hz; omega
  rw [HE.out]
  obtain ⟨Z, hZ⟩ : ∃ Z, ((ts ++ txt (wiR 1 a)) ++ [kArrow]) ++ txt (wiR 0 b) = Z := ⟨_, rfl⟩
  rw [hZ]
  have HZZ := Lib.hid hZ
  clear hZ
  have cR : Calls Tryz.prog 81 #[v] w fun e w' => e = .returned (.int .i64 0) ∧ Up w w' := ruleOf_any hv hu
  obtain ⟨q, p, A, c, rfl, hq, k0, k1, k2, k3, k4, hc, hkid⟩ := InT.open hv
  obtain ⟨kb, ko, rfl, hkb, ⟨va, ka, ia⟩, ⟨vb, kb', ib⟩, -⟩ := hkid (by show 0 < 2; omega)
  obtain ⟨qa, pa, rfl⟩ := InT.ptr ia
  obtain ⟨qb, pb, rfl⟩ := InT.ptr ib
  have k4 : W.cell? ⟨q, p + 4, none⟩ = some (.slice (some ⟨kb, ko, none⟩) 2 c) := k4
  have ka : W.cell? ⟨kb, ko, none⟩ = some (.pointer (some ⟨qa, pa, none⟩)) := ka
  have kb' : W.cell? ⟨kb, ko + 1, none⟩ = some (.pointer (some ⟨qb, pb, none⟩)) := kb'
  have HIA : Hid (HasT W (.pointer (some ⟨qa, pa, none⟩)) (some a)) := Lib.hid ia
  have HIB : Hid (HasT W (.pointer (some ⟨qb, pb, none⟩)) (some b)) := Lib.hid ib
  have HU := Lib.hid hu
  have HW := Lib.hid hw
  have HK := Lib.hid k0
  have HK4 := Lib.hid k4
  have HKA := Lib.hid ka
  have HKB := Lib.hid kb'
  have HZ := Lib.hid hzl
  have HCA := Lib.hid cA
  have HCB := Lib.hid cB
  clear hv hu hw he hz k0 k1 k2 k3 k4 hkid ia ib ka kb' hzl cA cB HE
  go_enter Tryz.func52, Tryz.ntmps52
  go_wp2_with fail
  refine cR.mono ?_
  rintro en w1 ⟨rfl, u1⟩
  have k0 := (HU.out.trans u1).cell HK.out
  have k4 := (HU.out.trans u1).cell HK4.out
  have ka := (HU.out.trans u1).cell HKA.out
  have cWA := HCA.out w1 ts _ HIA.out (HU.out.trans u1) (HW.out.up u1) (by have := HZ.out; omega)
  clear u1 cR
  go_wp2_with fail
  refine cWA.mono ?_
  rintro en w2 ⟨⟨u, rfl⟩, u2, h2⟩
  have cP := put_1 (W := W) kArrow hB u2 h2 (by rw [List.length_append, txt_len]; have := HZ.out; omega)
  have U2 := Lib.hid u2
  clear u2 h2 cWA k0 k4 ka
  go_wp2_with fail
  refine cP.mono ?_
  rintro en w3 ⟨⟨u, rfl⟩, u3, h3⟩
  have k4 := u3.cell HK4.out
  have kb' := u3.cell HKB.out
  have cWB := HCB.out w3 _ _ HIB.out u3 h3 (by simp only [List.length_append, txt_len, List.length_cons, List.length_nil]; have := HZ.out; omega)
  clear u3 h3 cP
  go_wp2_with fail
  refine cWB.mono ?_
  rintro en w4 ⟨⟨u, rfl⟩, u4, h4⟩
  have H4 := Lib.hid h4
  clear h4
  go_wp2_with fail
  go_end0
  exact ⟨⟨_, rfl⟩, u4, by rw [← HZZ.out]; exact H4.out⟩
set_option maxHeartbeats 12800000 in
set_option maxRecDepth 100000 in
theorem write_6 (a b : Tr) (r : Int) (hB : W.heap.size ≤ bw) (hr : ¬ (1 : Int) < r) (cA : WriAt W bw a 2) (cB : WriAt W bw b 1) : WriAt W bw (nd 6 nob (fr2 a b)) r := fun w ts v hv hu hw hz => by
  have he : wiR r (nd 6 nob (fr2 a b)) = wiR 2 a ++ (ky kStar :: wiR 1 b) := by rw [wiR_no (t := nd 6 nob (fr2 a b)) hr, tk_two6, ← wiR_2, ← wiR_1]
  have HE : Hid (ts ++ txt (wiR r (nd 6 nob (fr2 a b))) = ((ts ++ txt (wiR 2 a)) ++ [kStar]) ++ txt (wiR 1 b)) := Lib.hid (by rw [he, txt_app]; simp [txt, ky])
  have hzl : ts.length + (wiR 2 a).length + (wiR 1 b).length + 1 ≤ 1000000 := by rw [he] at hz; simp only [List.length_cons, List.length_append] at hz; omega
  rw [HE.out]
  obtain ⟨Z, hZ⟩ : ∃ Z, ((ts ++ txt (wiR 2 a)) ++ [kStar]) ++ txt (wiR 1 b) = Z := ⟨_, rfl⟩
  rw [hZ]
  have HZZ := Lib.hid hZ
  clear hZ
  have cR : Calls Tryz.prog 81 #[v] w fun e w' => e = .returned (.int .i64 1) ∧ Up w w' := ruleOf_any hv hu
  obtain ⟨q, p, A, c, rfl, hq, k0, k1, k2, k3, k4, hc, hkid⟩ := InT.open hv
  obtain ⟨kb, ko, rfl, hkb, ⟨va, ka, ia⟩, ⟨vb, kb', ib⟩, -⟩ := hkid (by show 0 < 2; omega)
  obtain ⟨qa, pa, rfl⟩ := InT.ptr ia
  obtain ⟨qb, pb, rfl⟩ := InT.ptr ib
  have k4 : W.cell? ⟨q, p + 4, none⟩ = some (.slice (some ⟨kb, ko, none⟩) 2 c) := k4
  have ka : W.cell? ⟨kb, ko, none⟩ = some (.pointer (some ⟨qa, pa, none⟩)) := ka
  have kb' : W.cell? ⟨kb, ko + 1, none⟩ = some (.pointer (some ⟨qb, pb, none⟩)) := kb'
  have HIA : Hid (HasT W (.pointer (some ⟨qa, pa, none⟩)) (some a)) := Lib.hid ia
  have HIB : Hid (HasT W (.pointer (some ⟨qb, pb, none⟩)) (some b)) := Lib.hid ib
  have HU := Lib.hid hu
  have HW := Lib.hid hw
  have HK := Lib.hid k0
  have HK4 := Lib.hid k4
  have HKA := Lib.hid ka
  have HKB := Lib.hid kb'
  have HZ := Lib.hid hzl
  have HCA := Lib.hid cA
  have HCB := Lib.hid cB
  clear hv hu hw he hz k0 k1 k2 k3 k4 hkid ia ib ka kb' hzl cA cB HE
  go_enter Tryz.func52, Tryz.ntmps52
  go_wp2_with fail
  refine cR.mono ?_
  rintro en w1 ⟨rfl, u1⟩
  have k0 := (HU.out.trans u1).cell HK.out
  have k4 := (HU.out.trans u1).cell HK4.out
  have ka := (HU.out.trans u1).cell HKA.out
  have cWA := HCA.out w1 ts _ HIA.out (HU.out.trans u1) (HW.out.up u1) (by have := HZ.out; omega)
  clear u1 cR
  go_wp2_with fail
  refine cWA.mono ?_
  rintro en w2 ⟨⟨u, rfl⟩, u2, h2⟩
  have cP := put_1 (W := W) kStar hB u2 h2 (by rw [List.length_append, txt_len]; have := HZ.out; omega)
  have U2 := Lib.hid u2
  clear u2 h2 cWA k0 k4 ka
  go_wp2_with fail
  refine cP.mono ?_
  rintro en w3 ⟨⟨u, rfl⟩, u3, h3⟩
  have k4 := u3.cell HK4.out
  have kb' := u3.cell HKB.out
  have cWB := HCB.out w3 _ _ HIB.out u3 h3 (by simp only [List.length_append, txt_len, List.length_cons, List.length_nil]; have := HZ.out; omega)
  clear u3 h3 cP
  go_wp2_with fail
  refine cWB.mono ?_
  rintro en w4 ⟨⟨u, rfl⟩, u4, h4⟩
  have H4 := Lib.hid h4
  clear h4
  go_wp2_with fail
  go_end0
  exact ⟨⟨_, rfl⟩, u4, by rw [← HZZ.out]; exact H4.out⟩
end
end Go.Proofs.YtklblhadhoppeaaGreatDoor
namespace Go.Proofs.YtklblhadhoppeaaGreatDoor
open Go.RowKit

theorem bars_snoc : ∀ (l : List (List Tk)) (a : List Tk), bars (l ++ [a]) = if l = [] then a else bars l ++ ky kBar :: a
  | [], a => rfl
  | [x], a => rfl
  | x :: y :: r, a => by
    show x ++ ky kBar :: bars ((y :: r) ++ [a]) = _
    rw [bars_snoc (y :: r) a, if_neg (by simp), if_neg (by simp)]
    show _ = (x ++ ky kBar :: bars (y :: r)) ++ ky kBar :: a
    simp
def segF (f : Fr) : List (List Tk) := (tkF f).map (·.2)
theorem segF_len : ∀ (f : Fr), (segF f).length = f.len
  | .nil => rfl
  | .cons x k r => by show (segF r).length + 1 = r.len + 1; rw [segF_len r]
theorem segF_get : ∀ {f : Fr} {j : Nat} {t : Tr}, f.get j = some t → (segF f)[j]? = some (tkT t)
  | .nil, _, _, h => by cases h
  | .cons x k r, 0, t, h => by
    have h : (x, k) = t := Option.some.inj h
    subst h
    rfl
  | .cons x k r, j + 1, t, h => segF_get (f := r) (j := j) h
theorem bars_take {f : Fr} {j : Nat} {t : Tr} (h : f.get j = some t) : bars ((segF f).take (j + 1)) = if j = 0 then tkT t else bars ((segF f).take j) ++ ky kBar :: tkT t := by
  have hs := segF_get h
  have hl : j < (segF f).length := by rw [segF_len]; exact Fr.get_lt h
  have e : (segF f).take (j + 1) = (segF f).take j ++ [tkT t] := by rw [List.take_add_one, hs]; rfl
  rw [e, bars_snoc]
  cases j with
  | zero => rfl
  | succ j =>
    rw [if_neg, if_neg (by omega)]
    intro h0
    have := congrArg List.length h0
    rw [List.length_take] at this
    simp only [List.length_nil] at this
    omega
theorem bars_mono : ∀ (l : List (List Tk)) (j : Nat), (bars (l.take j)).length ≤ (bars l).length
  | [], _ => by simp [bars]
  | [a], j => by cases j with
    | zero => simp [bars]
    | succ j => simp [bars]
  | a :: b :: r, 0 => by simp [bars]
  | a :: b :: r, 1 => by simp [bars]
  | a :: b :: r, j + 2 => by
    have ih := bars_mono (b :: r) (j + 1)
    show (a ++ ky kBar :: bars ((b :: r).take (j + 1))).length ≤ (a ++ ky kBar :: bars (b :: r)).length
    simp only [List.length_append, List.length_cons]
    omega
section
variable {W : World} {bw : Nat}
theorem put_2 {w : World} {ts : List ByteArray} (x y : ByteArray) (hB : W.heap.size ≤ bw) (hu : Up W w) (hw : Wr bw w ts) (hts : ts.length ≤ 1000000) :
    Calls Tryz.prog 82 #[.pointer (some ⟨bw, 0, none⟩), .slice (some ⟨w.heap.size, 0, none⟩) 2 2] (w.alloc (.cells #[.string x, .string y] 9)) (WrP W bw (ts ++ [x, y])) := put_lit [x, y] hB hu hw hts (by show 2 ≤ 10; omega) (by show 0 < 2; omega)
theorem put_3 {w : World} {ts : List ByteArray} (x y z : ByteArray) (hB : W.heap.size ≤ bw) (hu : Up W w) (hw : Wr bw w ts) (hts : ts.length ≤ 1000000) :
    Calls Tryz.prog 82 #[.pointer (some ⟨bw, 0, none⟩), .slice (some ⟨w.heap.size, 0, none⟩) 3 3] (w.alloc (.cells #[.string x, .string y, .string z] 9)) (WrP W bw (ts ++ [x, y, z])) := put_lit [x, y, z] hB hu hw hts (by show 3 ≤ 10; omega) (by show 0 < 3; omega)
set_option maxHeartbeats 12800000 in
set_option maxRecDepth 100000 in
theorem writeCons_any (f : Fr) (hB : W.heap.size ≤ bw) (hc : ∀ (j : Nat) t, f.get j = some t → ∃ s u, t = nd 8 s (fr1 u) ∧ WriAt W bw u 0) (kb ko c : Nat) (hf : InF W (fun q => q < W.heap.size) f kb ko) (w : World) (ts : List ByteArray) (hu : Up W w) (hw : Wr bw w ts) (hz : ts.length + (bars (segF f)).length ≤ 1000000) (hl : f.len ≤ 100000) :
    Calls Tryz.prog 83 #[.pointer (some ⟨bw, 0, none⟩), .slice (some ⟨kb, ko, none⟩) f.len c] w (WrP W bw (ts ++ txt (bars (segF f)))) := by
  obtain ⟨n, hn⟩ : ∃ n, f.len = n := ⟨_, rfl⟩
  have HN := Lib.hid hn
  have HC := Lib.hid hc
  have HF := Lib.hid hf
  have HU := Lib.hid hu
  have HW := Lib.hid hw
  have HZ := Lib.hid hz
  rw [hn] at hl ⊢
  have hend : Hid (bars ((segF f).take n) = bars (segF f)) := Lib.hid (by rw [List.take_of_length_le (by rw [segF_len]; omega)])
  obtain ⟨Z, hZ⟩ : ∃ Z, ts ++ txt (bars (segF f)) = Z := ⟨_, rfl⟩
  rw [hZ]
  have HZZ := Lib.hid hZ
  clear hn hc hf hu hw hz hZ
  go_enter Tryz.func83, Tryz.ntmps83
  go_wp2_with fail
  go_loopw [8] (fun x wr => ∃ j : Nat, j ≤ n ∧ x = .int .i64 (j : Int) ∧ Up W wr ∧ Wr bw wr (ts ++ txt (bars ((segF f).take j)))) (fun x _ => n + 1 - (intOf x).toNat)
  case atStart => exact ⟨0, Nat.zero_le _, rfl, HU.out, by show Wr bw w (ts ++ txt []); rw [show txt [] = [] from rfl, List.append_nil]; exact HW.out⟩
  case round =>
    obtain ⟨j, hj, rfl, hur, hwr⟩ := hrel
    have HUR := Lib.hid hur
    have HWR := Lib.hid hwr
    clear hur hwr
    by_cases hlt : j < n
    · have hjz : (j : Int) < (n : Int) := by omega
      have hw1 : IntKind.i64.wrap ((j : Int) + 1) = ((j + 1 : Nat) : Int) := by rw [IntKind.wrap_i64]; omega
      obtain ⟨t, ht⟩ := Fr.get_some (f := f) (i := j) (by rw [HN.out]; exact hlt)
      obtain ⟨s, u, rfl, cU⟩ := HC.out j t ht
      obtain ⟨vc, hvc, hTc⟩ := HF.out.at ht
      obtain ⟨q, p, A, c', rfl, hq, k0, k1, k2, k3, k4, hcc, hkid⟩ := InT.open hTc
      obtain ⟨kb2, ko2, rfl, hkb2, ⟨va, ka, ia⟩, -⟩ := hkid (by show 0 < 1; omega)
      obtain ⟨qa, pa, rfl⟩ := InT.ptr ia
      have hb1 : (bars ((segF f).take (j + 1))).length ≤ (bars (segF f)).length := bars_mono _ _
      have hb0 : (bars ((segF f).take j)).length ≤ (bars (segF f)).length := bars_mono _ _
      have hbt := bars_take ht
      have ka : W.cell? ⟨kb2, ko2, none⟩ = some (.pointer (some ⟨qa, pa, none⟩)) := ka
      have k2 : W.cell? ⟨q, p + 2, none⟩ = some (.string s) := k2
      have k4 : W.cell? ⟨q, p + 4, none⟩ = some (.slice (some ⟨kb2, ko2, none⟩) 1 c') := k4
      have HVC := Lib.hid hvc
      have HK2 := Lib.hid k2
      have HK4 := Lib.hid k4
      have HKA := Lib.hid ka
      have HIA : Hid (HasT W (.pointer (some ⟨qa, pa, none⟩)) (some u)) := Lib.hid ia
      have HBT := Lib.hid hbt
      have HB0 := Lib.hid hb0
      have HB1 := Lib.hid hb1
      have HCU := Lib.hid cU
      have hvr := HUR.out.cell hvc
      clear ht hTc k0 k1 k2 k3 k4 hkid ka ia hbt hb0 hb1 cU hvc
      by_cases hj0 : 0 < j
      · have hj1 : (0 : Int) < (j : Int) := by omega
        have cP := put_1 (W := W) kBar hB HUR.out HWR.out (by rw [List.length_append, txt_len]; have := HB0.out; have := HZ.out; omega)
        go_wp2_with fail
        refine cP.mono ?_
        rintro en w2 ⟨⟨x2, rfl⟩, u2, h2⟩
        have k2 := u2.cell HK2.out
        have cQ := put_2 (W := W) s kOf hB u2 h2 (by have h9 := congrArg List.length HBT.out; rw [if_neg (by omega)] at h9; simp only [List.length_append, List.length_cons] at h9; simp only [List.length_append, txt_len, List.length_cons, List.length_nil]; have := HB1.out; have := HZ.out; omega)
        clear u2 h2 cP hvr
        go_wp2_with fail
        refine cQ.mono ?_
        rintro en w3 ⟨⟨x3, rfl⟩, u3, h3⟩
        have k4 := u3.cell HK4.out
        have ka := u3.cell HKA.out
        have hlen := HBT.out
        rw [if_neg (by omega)] at hlen
        have hln := congrArg List.length hlen
        simp only [List.length_append, List.length_cons, tk_con] at hln
        have cW := HCU.out w3 _ _ HIA.out u3 h3 (by rw [wiR_0]; simp only [List.length_append, txt_len, List.length_cons, List.length_nil]; have := HB1.out; have := HZ.out; omega)
        have HLEN := Lib.hid hlen
        clear u3 h3 cQ k2 hlen hln
        go_wp2_with fail
        refine cW.mono ?_
        rintro en w4 ⟨⟨x4, rfl⟩, u4, h4⟩
        have H4 := Lib.hid h4
        clear h4
        go_wp2_with fail
        go_roundw
        case rel =>
          refine ⟨j + 1, by omega, rfl, u4, ?_⟩
          have h := H4.out
          rw [HLEN.out, txt_app]
          rw [wiR_0] at h
          have e : ((ts ++ txt (bars ((segF f).take j)) ++ [kBar]) ++ [s, kOf]) ++ txt (tkT u) = ts ++ (txt (bars ((segF f).take j)) ++ txt (ky kBar :: tkT (nd 8 s (fr1 u)))) := by rw [tk_con]; simp [txt, ky, nmT]
          rw [e] at h
          exact h
        case measure => simp [intOf]; omega
      · obtain rfl : j = 0 := by omega
        have hvr : wr.cell? ⟨kb, ko, none⟩ = some (.pointer (some ⟨q, p, none⟩)) := hvr
        have k2 := HUR.out.cell HK2.out
        have h0 : Wr bw wr ts := by have h := HWR.out; simpa [bars, txt] using h
        have cQ := put_2 (W := W) s kOf hB HUR.out h0 (by have := HZ.out; omega)
        clear h0
        go_wp2_with fail
        refine cQ.mono ?_
        rintro en w3 ⟨⟨x3, rfl⟩, u3, h3⟩
        have k4 := u3.cell HK4.out
        have ka := u3.cell HKA.out
        have hlen := HBT.out
        rw [if_pos trivial] at hlen
        have hln := congrArg List.length hlen
        simp only [List.length_cons, tk_con] at hln
        have cW := HCU.out w3 _ _ HIA.out u3 h3 (by rw [wiR_0]; simp only [List.length_append, List.length_cons, List.length_nil]; have := HB1.out; have := HZ.out; omega)
        have HLEN := Lib.hid hlen
        clear u3 h3 cQ k2 hlen hln hvr
        go_wp2_with fail
        refine cW.mono ?_
        rintro en w4 ⟨⟨x4, rfl⟩, u4, h4⟩
        have H4 := Lib.hid h4
        clear h4
        go_wp2_with fail
        go_roundw
        case rel =>
          refine ⟨1, by omega, rfl, u4, ?_⟩
          have h := H4.out
          rw [HLEN.out]
          rw [wiR_0] at h
          have e : (ts ++ [s, kOf]) ++ txt (tkT u) = ts ++ txt (tkT (nd 8 s (fr1 u))) := by rw [tk_con]; simp [txt, ky, nmT]
          rw [e] at h
          exact h
        case measure => first | (simp [intOf]; omega) | simp [intOf]
    · obtain rfl : j = n := by omega
      have hjz : ¬ (j : Int) < (j : Int) := by omega
      go_wp2_with fail
      go_end0
      have h := HWR.out
      rw [hend.out, HZZ.out] at h
      exact ⟨⟨_, rfl⟩, HUR.out, h⟩
set_option maxHeartbeats 12800000 in
set_option maxRecDepth 100000 in
theorem write_mu (s : ByteArray) (f : Fr) (r : Int) (hB : W.heap.size ≤ bw) (hr : ¬ (2 : Int) < r) (h0 : 0 < f.len) (hl : f.len ≤ 100000) (hc : ∀ (j : Nat) t, f.get j = some t → ∃ s u, t = nd 8 s (fr1 u) ∧ WriAt W bw u 0) : WriAt W bw (nd 7 s f) r := fun w ts v hv hu hw hz => by
  have he : wiR r (nd 7 s f) = ky kMu :: nmT s :: ky kLeft :: (bars (segF f) ++ [ky kRight]) := by rw [wiR_no (t := nd 7 s f) hr, tk_mu]; rfl
  have HE : Hid (ts ++ txt (wiR r (nd 7 s f)) = ((ts ++ [kMu, s, kLeft]) ++ txt (bars (segF f))) ++ [kRight]) := Lib.hid (by rw [he]; show ts ++ kMu :: s :: kLeft :: txt (bars (segF f) ++ [ky kRight]) = _; rw [txt_app]; simp [txt, ky])
  have hzl : ts.length + (bars (segF f)).length + 4 ≤ 1000000 := by rw [he] at hz; simp only [List.length_cons, List.length_append, List.length_nil] at hz; omega
  rw [HE.out]
  obtain ⟨Z, hZ⟩ : ∃ Z, ((ts ++ [kMu, s, kLeft]) ++ txt (bars (segF f))) ++ [kRight] = Z := ⟨_, rfl⟩
  rw [hZ]
  have HZZ := Lib.hid hZ
  clear hZ
  have cR : Calls Tryz.prog 81 #[v] w fun e w' => e = .returned (.int .i64 2) ∧ Up w w' := ruleOf_any hv hu
  obtain ⟨q, p, A, c, rfl, hq, k0, k1, k2, k3, k4, hcc, hkid⟩ := InT.open hv
  obtain ⟨kb, ko, rfl, hkb, hf⟩ := hkid h0
  have k4 : W.cell? ⟨q, p + 4, none⟩ = some (.slice (some ⟨kb, ko, none⟩) f.len c) := k4
  have k2 : W.cell? ⟨q, p + 2, none⟩ = some (.string s) := k2
  have HF := Lib.hid hf
  have HU := Lib.hid hu
  have HW := Lib.hid hw
  have HK := Lib.hid k0
  have HK2 := Lib.hid k2
  have HK4 := Lib.hid k4
  have HZ := Lib.hid hzl
  have HC := Lib.hid hc
  clear hv hu hw he hz k0 k1 k2 k3 k4 hkid hf hzl hc HE
  go_enter Tryz.func52, Tryz.ntmps52
  go_wp2_with fail
  refine cR.mono ?_
  rintro en w1 ⟨rfl, u1⟩
  have k0 := (HU.out.trans u1).cell HK.out
  have k2 := (HU.out.trans u1).cell HK2.out
  have cP := put_3 (W := W) kMu s kLeft hB (HU.out.trans u1) (HW.out.up u1) (by have := HZ.out; omega)
  clear u1 cR
  go_wp2_with fail
  refine cP.mono ?_
  rintro en w2 ⟨⟨u, rfl⟩, u2, h2⟩
  have k4 := u2.cell HK4.out
  have cC := writeCons_any f hB HC.out kb ko c HF.out w2 _ u2 h2 (by simp only [List.length_append, List.length_cons, List.length_nil]; have := HZ.out; omega) hl
  clear u2 h2 cP k0 k2
  go_wp2_with fail
  refine cC.mono ?_
  rintro en w3 ⟨⟨u, rfl⟩, u3, h3⟩
  have cP := put_1 (W := W) kRight hB u3 h3 (by simp only [List.length_append, txt_len, List.length_cons, List.length_nil]; have := HZ.out; omega)
  clear u3 h3 cC k4
  go_wp2_with fail
  refine cP.mono ?_
  rintro en w4 ⟨⟨u, rfl⟩, u4, h4⟩
  have H4 := Lib.hid h4
  clear h4
  go_wp2_with fail
  go_end0
  exact ⟨⟨_, rfl⟩, u4, by rw [← HZZ.out]; exact H4.out⟩
end
end Go.Proofs.YtklblhadhoppeaaGreatDoor
