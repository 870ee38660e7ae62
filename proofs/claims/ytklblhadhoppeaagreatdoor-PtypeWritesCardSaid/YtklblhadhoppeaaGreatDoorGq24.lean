/-
  Layer 6, the program's writer: write, form by form.
-/
import Derived.Test.YtklblhadhoppeaaGreatDoorGq01
import Derived.Test.YtklblhadhoppeaaGreatDoorGq18
import Derived.Test.YtklblhadhoppeaaGreatDoorGq19
import Derived.Test.YtklblhadhoppeaaGreatDoorGq23
import Derived.Below
import Derived.BigQuiet
import Derived.Carry
import Derived.Deep.AppendLies
import Derived.Deep.DeepMust
import Derived.Deep.Onto
import Derived.Deep.QuietTactic
import Derived.Deep.RegionHeld3
import Derived.Deep.RegionLaw
import Derived.KernelRfl
import Derived.Laws.OwnMore
import Derived.Laws.Rows
import Derived.Laws.Tables
import Derived.Lib.AppendIntMem
import Derived.Lib.AtoiAll
import Derived.Lib.AtoiErrMem
import Derived.Lib.CountLaws
import Derived.Lib.CutLaws
import Derived.Lib.Hide
import Derived.Lib.IndexBytes
import Derived.Lib.ItoaLen
import Derived.Lib.ItoaNum
import Derived.Lib.Join
import Derived.Lib.LaidTab
import Derived.Lib.OthersKept
import Derived.Lib.Replace
import Derived.Lib.RuneCount
import Derived.Lib.Split
import Derived.Lib.Strings
import Derived.Lib.ValidLaws
import Derived.LoopIn
import Derived.LoopNIn
import Derived.MapKept
import Derived.Maps.AppendAt
import Derived.Outline
import Derived.OwnWalk
import Derived.OwnWalkIn
import Derived.RangeFuncBound
import Derived.RangeFuncBox
import Derived.RangeFuncCalls
import Derived.RangeFuncLeaves
import Derived.RangeFuncNested
import Derived.Shelf.Abstract
import Derived.Shelf.Bits.Mul64
import Derived.Shelf.LaysC
import Derived.Shelf.LaysM
import Derived.Shelf.Slices.Turned
import Derived.Shelf.Small.Utf8
import Derived.Shelf.Strconv.Atoi
import Derived.Shelf.Strconv.AtoiAll
import Derived.Shelf.Strconv.AtoiErr
import Derived.Shelf.Strconv.AtoiErrFast
import Derived.Shelf.Strconv.AtoiFail
import Derived.Shelf.Strconv.AtoiInnerAll
import Derived.Shelf.Strconv.AtoiLong
import Derived.Shelf.Strconv.Clone
import Derived.Shelf.Strconv.ErrVarAll
import Derived.Shelf.Strconv.Itoa0
import Derived.Shelf.Strconv.Itoa1
import Derived.Shelf.Strconv.Itoa2
import Derived.Shelf.Strconv.Itoa3
import Derived.Shelf.Strconv.Lower
import Derived.Shelf.Strconv.ParseInt10
import Derived.Shelf.Strconv.ParseIntEmpty
import Derived.Shelf.Strconv.ParseUint10
import Derived.Shelf.Strconv.ParseUint10Any
import Derived.Shelf.Strconv.ParseUint10Empty
import Derived.Shelf.Strconv.RangeError
import Derived.Shelf.Strconv.SyntaxError
import Derived.Shelf.Strconv.ToError
import Derived.Shelf.Strconv.ToErrorRange
import Derived.Shelf.Strings.Builder1
import Derived.Shelf.Strings.Builder2
import Derived.Shelf.Strings.Count
import Derived.Shelf.Strings.Cut
import Derived.Shelf.Strings.OnBuilder
import Derived.Shelf.Strings.Prefix
import Derived.Shelf.Strings.Replace
import Derived.Shelf.Strings.Search1
import Derived.Shelf.Strings.Search2
import Derived.Shelf.Strings.Search3
import Derived.Shelf.Strings.Shaped
import Derived.Shelf.Strings.Split
import Derived.Shelf.Strings.SplitShaped
import Derived.Shelf.Unicode.DecodeAny
import Derived.Shelf.Unicode.DecodeSlow
import Derived.Shelf.Utf8.RuneCount
import Derived.TacticsInMore
import Derived.Test.YtklblhadhoppeaaGreatDoorProg
import Derived.Test.YtklblhadhoppeaaGreatDoorRows
import Derived.WalkKit
import Derived.WalkLawsBesides
import Derived.WalkSmall
import Derived.WalkSpells
namespace Go.Proofs.YtklblhadhoppeaaGreatDoor
open Go.RowKit

/-- What is written of a tree where a rule is asked. -/
def wiR (r : Int) (t : Tr) : List Tk := wi (decide (ruT t.1.k < r)) (tkT t)
theorem wiR_0 (t : Tr) : wiR 0 t = tkT t := by
  unfold wiR
  have h : ¬ ruT t.1.k < 0 := by unfold ruT; split <;> (try split) <;> omega
  rw [decide_eq_false h]
  rfl
theorem wiR_1 (t : Tr) : wiR 1 t = wi (is5 t.1) (tkT t) := by
  unfold wiR is5
  congr 1
  have h : ruT t.1.k < 1 ↔ t.1.k = 5 := by unfold ruT; split <;> (try split) <;> omega
  exact decide_eq_decide.2 h
theorem wiR_2 (t : Tr) : wiR 2 t = wi (is56 t.1) (tkT t) := by
  unfold wiR is56
  congr 1
  have h : ruT t.1.k < 2 ↔ (t.1.k = 5 ∨ t.1.k = 6) := by unfold ruT; split <;> (try split) <;> omega
  rw [decide_eq_decide.2 h, Bool.decide_or]
theorem wiR_no {r : Int} {t : Tr} (h : ¬ ruT t.1.k < r) : wiR r t = tkT t := by unfold wiR; rw [decide_eq_false h]; rfl
theorem txt_app (a b : List Tk) : txt (a ++ b) = txt a ++ txt b := List.map_append
theorem txt_len (a : List Tk) : (txt a).length = a.length := List.length_map _
/-- What write does, of a tree at a rule. -/
def WriAt (W : World) (bw : Nat) (t : Tr) (r : Int) : Prop := ∀ (w : World) (ts : List ByteArray) (v : Value), HasT W v (some t) → Up W w → Wr bw w ts → ts.length + (wiR r t).length ≤ 1000000 → Calls Tryz.prog 52 #[.pointer (some ⟨bw, 0, none⟩), v, .int .i64 r] w (WrP W bw (ts ++ txt (wiR r t)))
section
variable {W : World} {bw : Nat}
theorem put_1 {w : World} {ts : List ByteArray} (x : ByteArray) (hB : W.heap.size ≤ bw) (hu : Up W w) (hw : Wr bw w ts) (hts : ts.length ≤ 1000000) :
    Calls Tryz.prog 82 #[.pointer (some ⟨bw, 0, none⟩), .slice (some ⟨w.heap.size, 0, none⟩) 1 1] (w.alloc (.cells #[.string x] 9)) (WrP W bw (ts ++ [x])) := put_lit [x] hB hu hw hts (by show 1 ≤ 10; omega) Nat.one_pos
set_option maxHeartbeats 6400000 in
set_option maxRecDepth 100000 in
theorem write_paren (t : Tr) (r : Int) (hB : W.heap.size ≤ bw) (h : ruT t.1.k < r) (c0 : WriAt W bw t 0) : WriAt W bw t r := fun w ts v hv hu hw hz => by
  obtain ⟨x, f⟩ := t
  have he : wiR r (x, f) = ky kOpen :: (tkT (x, f) ++ [ky kShut]) := by unfold wiR; rw [decide_eq_true h]; rfl
  have hzl : ts.length + (tkT (x, f)).length + 2 ≤ 1000000 := by rw [he] at hz; simp only [List.length_cons, List.length_append, List.length_nil] at hz; omega
  have HE : Hid (ts ++ txt (wiR r (x, f)) = ((ts ++ [kOpen]) ++ txt (wiR 0 (x, f))) ++ [kShut]) := Lib.hid (by rw [he, wiR_0]; show ts ++ kOpen :: txt (tkT (x, f) ++ [ky kShut]) = _; rw [txt_app]; simp [txt, ky])
  rw [HE.out]
  have cR := ruleOf_any hv hu
  have HV := Lib.hid hv
  have HU := Lib.hid hu
  have HW := Lib.hid hw
  have HC := Lib.hid c0
  have HZ := Lib.hid hzl
  have hq : (ruT x.k) < r := h
  obtain ⟨q, hqq⟩ : ∃ q, ruT x.k = q := ⟨_, rfl⟩
  rw [hqq] at cR hq
  clear hv hu hw c0 he hz hzl h hqq
  go_enter Tryz.func52, Tryz.ntmps52
  go_wp2_with fail
  refine cR.mono ?_
  rintro en w1 ⟨rfl, u1⟩
  have cP := put_1 (W := W) kOpen hB (HU.out.trans u1) (HW.out.up u1) (by have := HZ.out; omega)
  have U1 := Lib.hid (HU.out.trans u1)
  clear u1
  go_wp2_with fail
  refine cP.mono ?_
  rintro en w2 ⟨⟨u, rfl⟩, u2, h2⟩
  have cW := HC.out w2 (ts ++ [kOpen]) v HV.out u2 h2 (by rw [wiR_0, List.length_append]; have := HZ.out; simp only [List.length_cons, List.length_nil]; omega)
  clear u2 h2 cP
  go_wp2_with fail
  refine cW.mono ?_
  rintro en w3 ⟨⟨u, rfl⟩, u3, h3⟩
  have cP := put_1 (W := W) kShut hB u3 h3 (by rw [wiR_0]; simp only [List.length_append, txt_len, List.length_cons, List.length_nil]; have := HZ.out; omega)
  clear u3 h3 cW
  go_wp2_with fail
  refine cP.mono ?_
  rintro en w4 ⟨⟨u, rfl⟩, u4, h4⟩
  have H4 := Lib.hid h4
  clear h4
  go_wp2_with fail
  go_end0
  exact ⟨⟨_, rfl⟩, u4, H4.out⟩
set_option maxHeartbeats 6400000 in
set_option maxRecDepth 100000 in
theorem write_leaf (k : Nat) (hk : k < 3) (r : Int) (hB : W.heap.size ≤ bw) (hp : Pl W) (hr : ¬ ruT ((k + 1 : Nat) : Int) < r) : WriAt W bw (nd ((k + 1 : Nat) : Int) nob .nil) r := fun w ts v hv hu hw hz => by
  have he : wiR r (nd ((k + 1 : Nat) : Int) nob .nil) = tkT (nd ((k + 1 : Nat) : Int) nob .nil) := wiR_no hr
  have ht : txt (tkT (nd ((k + 1 : Nat) : Int) nob .nil)) = [plS k] := by obtain rfl | rfl | rfl : k = 0 ∨ k = 1 ∨ k = 2 := (by omega) <;> rfl
  have HE : Hid (ts ++ txt (wiR r (nd ((k + 1 : Nat) : Int) nob .nil)) = ts ++ [plS k]) := Lib.hid (by rw [he, ht])
  rw [HE.out]
  have cR := ruleOf_any hv hu
  obtain ⟨q, p, A, c, rfl, hq, k0, -⟩ := InT.open hv
  have HU := Lib.hid hu
  have HW := Lib.hid hw
  have k0 : W.cell? ⟨q, p, none⟩ = some (.int .i64 ((k + 1 : Nat) : Int)) := k0
  have HK := Lib.hid k0
  have hrr : ruT ((k + 1 : Nat) : Int) = 2 := by unfold ruT; rw [if_neg (by omega), if_neg (by omega)]
  rw [hrr] at hr
  have cR : Calls Tryz.prog 81 #[.pointer (some ⟨q, p, none⟩)] w fun e w' => e = .returned (.int .i64 2) ∧ Up w w' := by
    refine cR.mono fun e w' ⟨h1, h2⟩ => ⟨?_, h2⟩
    rw [h1]
    exact congrArg (fun z => Ending.returned (.int .i64 z)) hrr
  have hz1 : ts.length ≤ 1000000 := by omega
  obtain ⟨ka, hka⟩ : ∃ ka, ((k + 1 : Nat) : Int) = ka := ⟨_, rfl⟩
  have h4 : ¬ ka = 4 := by omega
  have h5 : ¬ ka = 5 := by omega
  have h6 : ¬ ka = 6 := by omega
  have h7 : ¬ ka = 7 := by omega
  have HKA := Lib.hid hka
  clear hv hu hw he ht hz hrr k0 hka HE
  go_enter Tryz.func52, Tryz.ntmps52
  go_wp2_with fail
  refine cR.mono ?_
  rintro en w1 ⟨rfl, u1⟩
  have k1 : w1.cell? ⟨q, p, none⟩ = some (.int .i64 ka) := by rw [← HKA.out]; exact (HU.out.trans u1).cell HK.out
  have cP := writePlain_any (W := W) (bw := bw) k hk hB (HU.out.trans u1) (HW.out.up u1) hz1 hp
  rw [HKA.out] at cP
  clear u1 cR
  go_wp2_with fail
  refine cP.mono ?_
  rintro en w2 ⟨⟨u, rfl⟩, u2, h2⟩
  have H2 := Lib.hid h2
  clear h2
  go_wp2_with fail
  go_end0
  exact ⟨⟨_, rfl⟩, u2, H2.out⟩
set_option maxHeartbeats 6400000 in
set_option maxRecDepth 100000 in
theorem write_name (s : ByteArray) (r : Int) (hB : W.heap.size ≤ bw) (hr : ¬ (2 : Int) < r) : WriAt W bw (nd 4 s .nil) r := fun w ts v hv hu hw hz => by
  have he : wiR r (nd 4 s .nil) = [nmT s] := wiR_no (t := nd 4 s .nil) hr
  have HE : Hid (ts ++ txt (wiR r (nd 4 s .nil)) = ts ++ [s]) := Lib.hid (by rw [he]; rfl)
  rw [HE.out]
  have cR : Calls Tryz.prog 81 #[v] w fun e w' => e = .returned (.int .i64 2) ∧ Up w w' := ruleOf_any hv hu
  obtain ⟨q, p, A, c, rfl, hq, k0, k1, k2, -⟩ := InT.open hv
  have HU := Lib.hid hu
  have HW := Lib.hid hw
  have HK := Lib.hid k0
  have HK2 := Lib.hid k2
  have hz1 : ts.length ≤ 1000000 := by omega
  clear hv hu hw he hz k0 k1 k2 HE
  go_enter Tryz.func52, Tryz.ntmps52
  go_wp2_with fail
  refine cR.mono ?_
  rintro en w1 ⟨rfl, u1⟩
  have k1 := (HU.out.trans u1).cell HK.out
  have k2 := (HU.out.trans u1).cell HK2.out
  have cP := put_1 (W := W) s hB (HU.out.trans u1) (HW.out.up u1) hz1
  clear u1 cR
  go_wp2_with fail
  refine cP.mono ?_
  rintro en w2 ⟨⟨u, rfl⟩, u2, h2⟩
  have H2 := Lib.hid h2
  clear h2
  go_wp2_with fail
  go_end0
  exact ⟨⟨_, rfl⟩, u2, H2.out⟩
set_option maxHeartbeats 12800000 in
set_option maxRecDepth 100000 in
theorem write_5 (a b : Tr) (r : Int) (hB : W.heap.size ≤ bw) (hr : ¬ (0 : Int) < r) (cA : WriAt W bw a 1) (cB : WriAt W bw b 0) : WriAt W bw (nd 5 nob (fr2 a b)) r := fun w ts v hv hu hw hz => by
  have he : wiR r (nd 5 nob (fr2 a b)) = wiR 1 a ++ (ky kArrow :: wiR 0 b) := by rw [wiR_no (t := nd 5 nob (fr2 a b)) hr, tk_two5, ← wiR_1, wiR_0 b]
  have HE : Hid (ts ++ txt (wiR r (nd 5 nob (fr2 a b))) = ((ts ++ txt (wiR 1 a)) ++ [kArrow]) ++ txt (wiR 0 b)) := Lib.hid (by rw [he, txt_app]; simp [txt, ky])
  have hzl : ts.length + (wiR 1 a).length + (wiR 0 b).length + 1 ≤ 1000000 := by rw [he] at hz; simp only [List.length_cons, List.length_append] at hz; omega
  rw [HE.out]
  obtain ⟨Z, hZ⟩ : ∃ Z, ((ts ++ txt (wiR 1 a)) ++ [kArrow]) ++ txt (wiR 0 b) = Z := ⟨_, rfl⟩
  rw [hZ]
  have HZZ := Lib.hid hZ
  clear hZ
  have cR : Calls Tryz.prog 81 #[v] w fun e w' => e = .returned (.int .i64 0) ∧ Up w w' := ruleOf_any hv hu
  obtain ⟨q, p, A, c, rfl, hq, k0, k1, k2, k3, k4, hc, hkid⟩ := InT.open hv
  obtain ⟨kb, ko, rfl, hkb, ⟨va, ka, ia⟩, ⟨vb, kb', ib⟩, -⟩ := hkid (by show 0 < 2; omega)
  obtain ⟨qa, pa, rfl⟩ := InT.ptr ia
  obtain ⟨qb, pb, rfl⟩ := InT.ptr ib
  have k4 : W.cell? ⟨q, p + 4, none⟩ = some (.slice (some ⟨kb, ko, none⟩) 2 c) := k4
  have ka : W.cell? ⟨kb, ko, none⟩ = some (.pointer (some ⟨qa, pa, none⟩)) := ka
  have kb' : W.cell? ⟨kb, ko + 1, none⟩ = some (.pointer (some ⟨qb, pb, none⟩)) := kb'
  have HIA : Hid (HasT W (.pointer (some ⟨qa, pa, none⟩)) (some a)) := Lib.hid ia
  have HIB : Hid (HasT W (.pointer (some ⟨qb, pb, none⟩)) (some b)) := Lib.hid ib
  have HU := Lib.hid hu
  have HW := Lib.hid hw
  have HK := Lib.hid k0
  have HK4 := Lib.hid k4
  have HKA := Lib.hid ka
  have HKB := Lib.hid kb'
  have HZ := Lib.hid hzl
  have HCA := Lib.hid cA
  have HCB := Lib.hid cB
  clear hv hu hw he hz k0 k1 k2 k3 k4 hkid ia ib ka kb' hzl cA cB HE
  go_enter Tryz.func52, Tryz.ntmps52
  go_wp2_with fail
  refine cR.mono ?_
  rintro en w1 ⟨rfl, u1⟩
  have k0 := (HU.out.trans u1).cell HK.out
  have k4 := (HU.out.trans u1).cell HK4.out
  have ka := (HU.out.trans u1).cell HKA.out
  have cWA := HCA.out w1 ts _ HIA.out (HU.out.trans u1) (HW.out.up u1) (by have := HZ.out; omega)
  clear u1 cR
  go_wp2_with fail
  refine cWA.mono ?_
  rintro en w2 ⟨⟨u, rfl⟩, u2, h2⟩
  have cP := put_1 (W := W) kArrow hB u2 h2 (by rw [List.length_append, txt_len]; have := HZ.out; omega)
  have U2 := Lib.hid u2
  clear u2 h2 cWA k0 k4 ka
  go_wp2_with fail
  refine cP.mono ?_
  rintro en w3 ⟨⟨u, rfl⟩, u3, h3⟩
  have k4 := u3.cell HK4.out
  have kb' := u3.cell HKB.out
  have cWB := HCB.out w3 _ _ HIB.out u3 h3 (by simp only [List.length_append, txt_len, List.length_cons, List.length_nil]; have := HZ.out; omega)
  clear u3 h3 cP
  go_wp2_with fail
  refine cWB.mono ?_
  rintro en w4 ⟨⟨u, rfl⟩, u4, h4⟩
  have H4 := Lib.hid h4
  clear h4
  go_wp2_with fail
  go_end0
  exact ⟨⟨_, rfl⟩, u4, by rw [← HZZ.out]; exact H4.out⟩
set_option maxHeartbeats 12800000 in
set_option maxRecDepth 100000 in
theorem write_6 (a b : Tr) (r : Int) (hB : W.heap.size ≤ bw) (hr : ¬ (1 : Int) < r) (cA : WriAt W bw a 2) (cB : WriAt W bw b 1) : WriAt W bw (nd 6 nob (fr2 a b)) r := fun w ts v hv hu hw hz => by
  have he : wiR r (nd 6 nob (fr2 a b)) = wiR 2 a ++ (ky kStar :: wiR 1 b) := by rw [wiR_no (t := nd 6 nob (fr2 a b)) hr, tk_two6, ← wiR_2, ← wiR_1]
  have HE : Hid (ts ++ txt (wiR r (nd 6 nob (fr2 a b))) = ((ts ++ txt (wiR 2 a)) ++ [kStar]) ++ txt (wiR 1 b)) := Lib.hid (by rw [he, txt_app]; simp [txt, ky])
  have hzl : ts.length + (wiR 2 a).length + (wiR 1 b).length + 1 ≤ 1000000 := by rw [he] at hz; simp only [List.length_cons, List.length_append] at hz; omega
  rw [HE.out]
  obtain ⟨Z, hZ⟩ : ∃ Z, ((ts ++ txt (wiR 2 a)) ++ [kStar]) ++ txt (wiR 1 b) = Z := ⟨_, rfl⟩
  rw [hZ]
  have HZZ := Lib.hid hZ
  clear hZ
  have cR : Calls Tryz.prog 81 #[v] w fun e w' => e = .returned (.int .i64 1) ∧ Up w w' := ruleOf_any hv hu
  obtain ⟨q, p, A, c, rfl, hq, k0, k1, k2, k3, k4, hc, hkid⟩ := InT.open hv
  obtain ⟨kb, ko, rfl, hkb, ⟨va, ka, ia⟩, ⟨vb, kb', ib⟩, -⟩ := hkid (by show 0 < 2; omega)
  obtain ⟨qa, pa, rfl⟩ := InT.ptr ia
  obtain ⟨qb, pb, rfl⟩ := InT.ptr ib
  have k4 : W.cell? ⟨q, p + 4, none⟩ = some (.slice (some ⟨kb, ko, none⟩) 2 c) := k4
  have ka : W.cell? ⟨kb, ko, none⟩ = some (.pointer (some ⟨qa, pa, none⟩)) := ka
  have kb' : W.cell? ⟨kb, ko + 1, none⟩ = some (.pointer (some ⟨qb, pb, none⟩)) := kb'
  have HIA : Hid (HasT W (.pointer (some ⟨qa, pa, none⟩)) (some a)) := Lib.hid ia
  have HIB : Hid (HasT W (.pointer (some ⟨qb, pb, none⟩)) (some b)) := Lib.hid ib
  have HU := Lib.hid hu
  have HW := Lib.hid hw
  have HK := Lib.hid k0
  have HK4 := Lib.hid k4
  have HKA := Lib.hid ka
  have HKB := Lib.hid kb'
  have HZ := Lib.hid hzl
  have HCA := Lib.hid cA
  have HCB := Lib.hid cB
  clear hv hu hw he hz k0 k1 k2 k3 k4 hkid ia ib ka kb' hzl cA cB HE
  go_enter Tryz.func52, Tryz.ntmps52
  go_wp2_with fail
  refine cR.mono ?_
  rintro en w1 ⟨rfl, u1⟩
  have k0 := (HU.out.trans u1).cell HK.out
  have k4 := (HU.out.trans u1).cell HK4.out
  have ka := (HU.out.trans u1).cell HKA.out
  have cWA := HCA.out w1 ts _ HIA.out (HU.out.trans u1) (HW.out.up u1) (by have := HZ.out; omega)
  clear u1 cR
  go_wp2_with fail
  refine cWA.mono ?_
  rintro en w2 ⟨⟨u, rfl⟩, u2, h2⟩
  have cP := put_1 (W := W) kStar hB u2 h2 (by rw [List.length_append, txt_len]; have := HZ.out; omega)
  have U2 := Lib.hid u2
  clear u2 h2 cWA k0 k4 ka
  go_wp2_with fail
  refine cP.mono ?_
  rintro en w3 ⟨⟨u, rfl⟩, u3, h3⟩
  have k4 := u3.cell HK4.out
  have kb' := u3.cell HKB.out
  have cWB := HCB.out w3 _ _ HIB.out u3 h3 (by simp only [List.length_append, txt_len, List.length_cons, List.length_nil]; have := HZ.out; omega)
  clear u3 h3 cP
  go_wp2_with fail
  refine cWB.mono ?_
  rintro en w4 ⟨⟨u, rfl⟩, u4, h4⟩
  have H4 := Lib.hid h4
  clear h4
  go_wp2_with fail
  go_end0
  exact ⟨⟨_, rfl⟩, u4, by rw [← HZZ.out]; exact H4.out⟩
end
end Go.Proofs.YtklblhadhoppeaaGreatDoor
namespace Go.Proofs.YtklblhadhoppeaaGreatDoor
open Go.RowKit

theorem bars_snoc : ∀ (l : List (List Tk)) (a : List Tk), bars (l ++ [a]) = if l = [] then a else bars l ++ ky kBar :: a
  | [], a => rfl
  | [x], a => rfl
  | x :: y :: r, a => by
    show x ++ ky kBar :: bars ((y :: r) ++ [a]) = _
    rw [bars_snoc (y :: r) a, if_neg (by simp), if_neg (by simp)]
    show _ = (x ++ ky kBar :: bars (y :: r)) ++ ky kBar :: a
    simp
def segF (f : Fr) : List (List Tk) := (tkF f).map (·.2)
theorem segF_len : ∀ (f : Fr), (segF f).length = f.len
  | .nil => rfl
  | .cons x k r => by show (segF r).length + 1 = r.len + 1; rw [segF_len r]
theorem segF_get : ∀ {f : Fr} {j : Nat} {t : Tr}, f.get j = some t → (segF f)[j]? = some (tkT t)
  | .nil, _, _, h => by cases h
  | .cons x k r, 0, t, h => by
    have h : (x, k) = t := Option.some.inj h
    subst h
    rfl
  | .cons x k r, j + 1, t, h => segF_get (f := r) (j := j) h
theorem bars_take {f : Fr} {j : Nat} {t : Tr} (h : f.get j = some t) : bars ((segF f).take (j + 1)) = if j = 0 then tkT t else bars ((segF f).take j) ++ ky kBar :: tkT t := by
  have hs := segF_get h
  have hl : j < (segF f).length := by rw [segF_len]; exact Fr.get_lt h
  have e : (segF f).take (j + 1) = (segF f).take j ++ [tkT t] := by rw [List.take_add_one, hs]; rfl
  rw [e, bars_snoc]
  cases j with
  | zero => rfl
  | succ j =>
    rw [if_neg, if_neg (by omega)]
    intro h0
    have := congrArg List.length h0
    rw [List.length_take] at this
    simp only [List.length_nil] at this
    omega
theorem bars_mono : ∀ (l : List (List Tk)) (j : Nat), (bars (l.take j)).length ≤ (bars l).length
  | [], _ => by simp [bars]
  | [a], j => by cases j with
    | zero => simp [bars]
    | succ j => simp [bars]
  | a :: b :: r, 0 => by simp [bars]
  | a :: b :: r, 1 => by simp [bars]
  | a :: b :: r, j + 2 => by
    have ih := bars_mono (b :: r) (j + 1)
    show (a ++ ky kBar :: bars ((b :: r).take (j + 1))).length ≤ (a ++ ky kBar :: bars (b :: r)).length
    simp only [List.length_append, List.length_cons]
    omega
section
variable {W : World} {bw : Nat}
theorem put_2 {w : World} {ts : List ByteArray} (x y : ByteArray) (hB : W.heap.size ≤ bw) (hu : Up W w) (hw : Wr bw w ts) (hts : ts.length ≤ 1000000) :
    Calls Tryz.prog 82 #[.pointer (some ⟨bw, 0, none⟩), .slice (some ⟨w.heap.size, 0, none⟩) 2 2] (w.alloc (.cells #[.string x, .string y] 9)) (WrP W bw (ts ++ [x, y])) := put_lit [x, y] hB hu hw hts (by show 2 ≤ 10; omega) (by show 0 < 2; omega)
theorem put_3 {w : World} {ts : List ByteArray} (x y z : ByteArray) (hB : W.heap.size ≤ bw) (hu : Up W w) (hw : Wr bw w ts) (hts : ts.length ≤ 1000000) :
    Calls Tryz.prog 82 #[.pointer (some ⟨bw, 0, none⟩), .slice (some ⟨w.heap.size, 0, none⟩) 3 3] (w.alloc (.cells #[.string x, .string y, .string z] 9)) (WrP W bw (ts ++ [x, y, z])) := put_lit [x, y, z] hB hu hw hts (by show 3 ≤ 10; omega) (by show 0 < 3; omega)
set_option maxHeartbeats 12800000 in
set_option maxRecDepth 100000 in
theorem writeCons_any (f : Fr) (hB : W.heap.size ≤ bw) (hc : ∀ (j : Nat) t, f.get j = some t → ∃ s u, t = nd 8 s (fr1 u) ∧ WriAt W bw u 0) (kb ko c : Nat) (hf : InF W (fun q => q < W.heap.size) f kb ko) (w : World) (ts : List ByteArray) (hu : Up W w) (hw : Wr bw w ts) (hz : ts.length + (bars (segF f)).length ≤ 1000000) (hl : f.len ≤ 100000) :
    Calls Tryz.prog 83 #[.pointer (some ⟨bw, 0, none⟩), .slice (some ⟨kb, ko, none⟩) f.len c] w (WrP W bw (ts ++ txt (bars (segF f)))) := by
  obtain ⟨n, hn⟩ : ∃ n, f.len = n := ⟨_, rfl⟩
  have HN := Lib.hid hn
  have HC := Lib.hid hc
  have HF := Lib.hid hf
  have HU := Lib.hid hu
  have HW := Lib.hid hw
  have HZ := Lib.hid hz
  rw [hn] at hl ⊢
  have hend : Hid (bars ((segF f).take n) = bars (segF f)) := Lib.hid (by rw [List.take_of_length_le (by rw [segF_len]; omega)])
  obtain ⟨Z, hZ⟩ : ∃ Z, ts ++ txt (bars (segF f)) = Z := ⟨_, rfl⟩
  rw [hZ]
  have HZZ := Lib.hid hZ
  clear hn hc hf hu hw hz hZ
  go_enter Tryz.func83, Tryz.ntmps83
  go_wp2_with fail
  go_loopw [8] (fun x wr => ∃ j : Nat, j ≤ n ∧ x = .int .i64 (j : Int) ∧ Up W wr ∧ Wr bw wr (ts ++ txt (bars ((segF f).take j)))) (fun x _ => n + 1 - (intOf x).toNat)
  case atStart => exact ⟨0, Nat.zero_le _, rfl, HU.out, by show Wr bw w (ts ++ txt []); rw [show txt [] = [] from rfl, List.append_nil]; exact HW.out⟩
  case round =>
    obtain ⟨j, hj, rfl, hur, hwr⟩ := hrel
    have HUR := Lib.hid hur
    have HWR := Lib.hid hwr
    clear hur hwr
    by_cases hlt : j < n
    · have hjz : (j : Int) < (n : Int) := by omega
      have hw1 : IntKind.i64.wrap ((j : Int) + 1) = ((j + 1 : Nat) : Int) := by rw [IntKind.wrap_i64]; omega
      obtain ⟨t, ht⟩ := Fr.get_some (f := f) (i := j) (by rw [HN.out]; exact hlt)
      obtain ⟨s, u, rfl, cU⟩ := HC.out j t ht
      obtain ⟨vc, hvc, hTc⟩ := HF.out.at ht
      obtain ⟨q, p, A, c', rfl, hq, k0, k1, k2, k3, k4, hcc, hkid⟩ := InT.open hTc
      obtain ⟨kb2, ko2, rfl, hkb2, ⟨va, ka, ia⟩, -⟩ := hkid (by show 0 < 1; omega)
      obtain ⟨qa, pa, rfl⟩ := InT.ptr ia
      have hb1 : (bars ((segF f).take (j + 1))).length ≤ (bars (segF f)).length := bars_mono _ _
      have hb0 : (bars ((segF f).take j)).length ≤ (bars (segF f)).length := bars_mono _ _
      have hbt := bars_take ht
      have ka : W.cell? ⟨kb2, ko2, none⟩ = some (.pointer (some ⟨qa, pa, none⟩)) := ka
      have k2 : W.cell? ⟨q, p + 2, none⟩ = some (.string s) := k2
      have k4 : W.cell? ⟨q, p + 4, none⟩ = some (.slice (some ⟨kb2, ko2, none⟩) 1 c') := k4
      have HVC := Lib.hid hvc
      have HK2 := Lib.hid k2
      have HK4 := Lib.hid k4
      have HKA := Lib.hid ka
      have HIA : Hid (HasT W (.pointer (some ⟨qa, pa, none⟩)) (some u)) := Lib.hid ia
      have HBT := Lib.hid hbt
      have HB0 := Lib.hid hb0
      have HB1 := Lib.hid hb1
      have HCU := Lib.hid cU
      have hvr := HUR.out.cell hvc
      clear ht hTc k0 k1 k2 k3 k4 hkid ka ia hbt hb0 hb1 cU hvc
      by_cases hj0 : 0 < j
      · have hj1 : (0 : Int) < (j : Int) := by omega
        have cP := put_1 (W := W) kBar hB HUR.out HWR.out (by rw [List.length_append, txt_len]; have := HB0.out; have := HZ.out; omega)
        go_wp2_with fail
        refine cP.mono ?_
        rintro en w2 ⟨⟨x2, rfl⟩, u2, h2⟩
        have k2 := u2.cell HK2.out
        have cQ := put_2 (W := W) s kOf hB u2 h2 (by have h9 := congrArg List.length HBT.out; rw [if_neg (by omega)] at h9; simp only [List.length_append, List.length_cons] at h9; simp only [List.length_append, txt_len, List.length_cons, List.length_nil]; have := HB1.out; have := HZ.out; omega)
        clear u2 h2 cP hvr
        go_wp2_with fail
        refine cQ.mono ?_
        rintro en w3 ⟨⟨x3, rfl⟩, u3, h3⟩
        have k4 := u3.cell HK4.out
        have ka := u3.cell HKA.out
        have hlen := HBT.out
        rw [if_neg (by omega)] at hlen
        have hln := congrArg List.length hlen
        simp only [List.length_append, List.length_cons, tk_con] at hln
        have cW := HCU.out w3 _ _ HIA.out u3 h3 (by rw [wiR_0]; simp only [List.length_append, txt_len, List.length_cons, List.length_nil]; have := HB1.out; have := HZ.out; omega)
        have HLEN := Lib.hid hlen
        clear u3 h3 cQ k2 hlen hln
        go_wp2_with fail
        refine cW.mono ?_
        rintro en w4 ⟨⟨x4, rfl⟩, u4, h4⟩
        have H4 := Lib.hid h4
        clear h4
        go_wp2_with fail
        go_roundw
        case rel =>
          refine ⟨j + 1, by omega, rfl, u4, ?_⟩
          have h := H4.out
          rw [HLEN.out, txt_app]
          rw [wiR_0] at h
          have e : ((ts ++ txt (bars ((segF f).take j)) ++ [kBar]) ++ [s, kOf]) ++ txt (tkT u) = ts ++ (txt (bars ((segF f).take j)) ++ txt (ky kBar :: tkT (nd 8 s (fr1 u)))) := by rw [tk_con]; simp [txt, ky, nmT]
          rw [e] at h
          exact h
        case measure => simp [intOf]; omega
      · obtain rfl : j = 0 := by omega
        have hvr : wr.cell? ⟨kb, ko, none⟩ = some (.pointer (some ⟨q, p, none⟩)) := hvr
        have k2 := HUR.out.cell HK2.out
        have h0 : Wr bw wr ts := by have h := HWR.out; simpa [bars, txt] using h
        have cQ := put_2 (W := W) s kOf hB HUR.out h0 (by have := HZ.out; omega)
        clear h0
        go_wp2_with fail
        refine cQ.mono ?_
        rintro en w3 ⟨⟨x3, rfl⟩, u3, h3⟩
        have k4 := u3.cell HK4.out
        have ka := u3.cell HKA.out
        have hlen := HBT.out
        rw [if_pos trivial] at hlen
        have hln := congrArg List.length hlen
        simp only [List.length_cons, tk_con] at hln
        have cW := HCU.out w3 _ _ HIA.out u3 h3 (by rw [wiR_0]; simp only [List.length_append, List.length_cons, List.length_nil]; have := HB1.out; have := HZ.out; omega)
        have HLEN := Lib.hid hlen
        clear u3 h3 cQ k2 hlen hln hvr
        go_wp2_with fail
        refine cW.mono ?_
        rintro en w4 ⟨⟨x4, rfl⟩, u4, h4⟩
        have H4 := Lib.hid h4
        clear h4
        go_wp2_with fail
        go_roundw
        case rel =>
          refine ⟨1, by omega, rfl, u4, ?_⟩
          have h := H4.out
          rw [HLEN.out]
          rw [wiR_0] at h
          have e : (ts ++ [s, kOf]) ++ txt (tkT u) = ts ++ txt (tkT (nd 8 s (fr1 u))) := by rw [tk_con]; simp [txt, ky, nmT]
          rw [e] at h
          exact h
        case measure => first | (simp [intOf]; omega) | simp [intOf]
    · obtain rfl : j = n := by omega
      have hjz : ¬ (j : Int) < (j : Int) := by omega
      go_wp2_with fail
      go_end0
      have h := HWR.out
      rw [hend.out, HZZ.out] at h
      exact ⟨⟨_, rfl⟩, HUR.out, h⟩
set_option maxHeartbeats 12800000 in
set_option maxRecDepth 100000 in
theorem write_mu (s : ByteArray) (f : Fr) (r : Int) (hB : W.heap.size ≤ bw) (hr : ¬ (2 : Int) < r) (h0 : 0 < f.len) (hl : f.len ≤ 100000) (hc : ∀ (j : Nat) t, f.get j = some t → ∃ s u, t = nd 8 s (fr1 u) ∧ WriAt W bw u 0) : WriAt W bw (nd 7 s f) r := fun w ts v hv hu hw hz => by
  have he : wiR r (nd 7 s f) = ky kMu :: nmT s :: ky kLeft :: (bars (segF f) ++ [ky kRight]) := by rw [wiR_no (t := nd 7 s f) hr, tk_mu]; rfl
  have HE : Hid (ts ++ txt (wiR r (nd 7 s f)) = ((ts ++ [kMu, s, kLeft]) ++ txt (bars (segF f))) ++ [kRight]) := Lib.hid (by rw [he]; show ts ++ kMu :: s :: kLeft :: txt (bars (segF f) ++ [ky kRight]) = _; rw [txt_app]; simp [txt, ky])
  have hzl : ts.length + (bars (segF f)).length + 4 ≤ 1000000 := by rw [he] at hz; simp only [List.length_cons, List.length_append, List.length_nil] at hz; omega
  rw [HE.out]
  obtain ⟨Z, hZ⟩ : ∃ Z, ((ts ++ [kMu, s, kLeft]) ++ txt (bars (segF f))) ++ [kRight] = Z := ⟨_, rfl⟩
  rw [hZ]
  have HZZ := Lib.hid hZ
  clear hZ
  have cR : Calls Tryz.prog 81 #[v] w fun e w' => e = .returned (.int .i64 2) ∧ Up w w' := ruleOf_any hv hu
  obtain ⟨q, p, A, c, rfl, hq, k0, k1, k2, k3, k4, hcc, hkid⟩ := InT.open hv
  obtain ⟨kb, ko, rfl, hkb, hf⟩ := hkid h0
  have k4 : W.cell? ⟨q, p + 4, none⟩ = some (.slice (some ⟨kb, ko, none⟩) f.len c) := k4
  have k2 : W.cell? ⟨q, p + 2, none⟩ = some (.string s) := k2
  have HF := Lib.hid hf
  have HU := Lib.hid hu
  have HW := Lib.hid hw
  have HK := Lib.hid k0
  have HK2 := Lib.hid k2
  have HK4 := Lib.hid k4
  have HZ := Lib.hid hzl
  have HC := Lib.hid hc
  clear hv hu hw he hz k0 k1 k2 k3 k4 hkid hf hzl hc HE
  go_enter Tryz.func52, Tryz.ntmps52
  go_wp2_with fail
  refine cR.mono ?_
  rintro en w1 ⟨rfl, u1⟩
  have k0 := (HU.out.trans u1).cell HK.out
  have k2 := (HU.out.trans u1).cell HK2.out
  have cP := put_3 (W := W) kMu s kLeft hB (HU.out.trans u1) (HW.out.up u1) (by have := HZ.out; omega)
  clear u1 cR
  go_wp2_with fail
  refine cP.mono ?_
  rintro en w2 ⟨⟨u, rfl⟩, u2, h2⟩
  have k4 := u2.cell HK4.out
  have cC := writeCons_any f hB HC.out kb ko c HF.out w2 _ u2 h2 (by simp only [List.length_append, List.length_cons, List.length_nil]; have := HZ.out; omega) hl
  clear u2 h2 cP k0 k2
  go_wp2_with fail
  refine cC.mono ?_
  rintro en w3 ⟨⟨u, rfl⟩, u3, h3⟩
  have cP := put_1 (W := W) kRight hB u3 h3 (by simp only [List.length_append, txt_len, List.length_cons, List.length_nil]; have := HZ.out; omega)
  clear u3 h3 cC k4
  go_wp2_with fail
  refine cP.mono ?_
  rintro en w4 ⟨⟨u, rfl⟩, u4, h4⟩
  have H4 := Lib.hid h4
  clear h4
  go_wp2_with fail
  go_end0
  exact ⟨⟨_, rfl⟩, u4, by rw [← HZZ.out]; exact H4.out⟩
end
end Go.Proofs.YtklblhadhoppeaaGreatDoor
namespace Go.Proofs.YtklblhadhoppeaaGreatDoor
open Go.RowKit

/-- The text of mu, so many constructors written. -/
def muB (s : ByteArray) (ts : List Tk) : ByteArray := if ts = [] then ⟨#[109, 117, 32]⟩ ++ s ++ ⟨#[32, 123, 32]⟩ else ⟨#[109, 117, 32]⟩ ++ s ++ ⟨#[32, 123, 32]⟩ ++ tB ts
theorem muB_more {s : ByteArray} {ts : List Tk} (h : ts ≠ []) (x : ByteArray) {us : List Tk} (hu : us ≠ []) : muB s (ts ++ ky kBar :: (nmT x :: ky kOf :: us)) = muB s ts ++ ⟨#[32, 124, 32]⟩ ++ x ++ ⟨#[32, 111, 102, 32]⟩ ++ tB us := by
  unfold muB
  rw [if_neg h, if_neg (by simp)]
  have e1 : ts ++ ky kBar :: (nmT x :: ky kOf :: us) = ts ++ ([ky kBar] ++ ([nmT x] ++ ([ky kOf] ++ us))) := rfl
  rw [e1, tB_app h (by simp), tB_app (by simp) (by simp), tB_app (by simp) (by simp), tB_app (by simp) hu, tB_one, tB_one, tB_one]
  refine ba_list _ _ ?_
  simp only [app_list, List.append_assoc]
  rfl
theorem muB_first (s x : ByteArray) {us : List Tk} (hu : us ≠ []) : muB s (nmT x :: ky kOf :: us) = muB s [] ++ x ++ ⟨#[32, 111, 102, 32]⟩ ++ tB us := by
  unfold muB
  rw [if_neg (by simp), if_pos rfl]
  have e1 : nmT x :: ky kOf :: us = [nmT x] ++ ([ky kOf] ++ us) := rfl
  rw [e1, tB_app (by simp) (by simp), tB_app (by simp) hu, tB_one, tB_one]
  refine ba_list _ _ ?_
  simp only [app_list, List.append_assoc]
  rfl
theorem muB_end {s : ByteArray} {ts : List Tk} (h : ts ≠ []) : muB s ts ++ ⟨#[32, 125]⟩ = tB (ky kMu :: nmT s :: ky kLeft :: (ts ++ [ky kRight])) := by
  unfold muB
  rw [if_neg h]
  have e1 : ky kMu :: nmT s :: ky kLeft :: (ts ++ [ky kRight]) = [ky kMu] ++ ([nmT s] ++ ([ky kLeft] ++ (ts ++ [ky kRight]))) := rfl
  rw [e1, tB_app (by simp) (by simp), tB_app (by simp) (by simp), tB_app (by simp) (by simp [h]), tB_app h (by simp), tB_one, tB_one, tB_one, tB_one]
  refine ba_list _ _ ?_
  simp only [app_list, List.append_assoc]
  rfl
set_option maxHeartbeats 12800000 in
set_option maxRecDepth 100000 in
theorem text_mu (s : ByteArray) (f : Fr) (h0 : 0 < f.len) (hl : f.len ≤ 100000) (hc : ∀ (j : Nat) t, f.get j = some t → ∃ s u, t = nd 8 s (fr1 u) ∧ TxtAt u ∧ tkT u ≠ []) (hz : (tB (tkT (nd 7 s f))).size ≤ 100000000) (hm : ∀ j, j ≤ f.len → (muB s (bars ((segF f).take j))).size ≤ 100000000) : TxtAt (nd 7 s f) := fun W w v hv hu => by
  obtain ⟨q, p, A, c, rfl, hq, c0, c1, c2, c3, c4, hcc, hkid⟩ := InT.open hv
  obtain ⟨kb, ko, rfl, hkb, hf⟩ := hkid h0
  have hqw : q < w.heap.size := Nat.lt_of_lt_of_le hq hu.size
  have c4 : W.cell? ⟨q, p + 4, none⟩ = some (.slice (some ⟨kb, ko, none⟩) f.len c) := c4
  have c2 : W.cell? ⟨q, p + 2, none⟩ = some (.string s) := c2
  have c0 : W.cell? ⟨q, p, none⟩ = some (.int .i64 7) := c0
  have e7 : tkT (nd 7 s f) = ky kMu :: nmT s :: ky kLeft :: (bars (segF f) ++ [ky kRight]) := tk_mu s f
  have HM := Lib.hid hm
  have HC := Lib.hid hc
  have HF := Lib.hid hf
  have HK0 := Lib.hid c0
  have HK2 := Lib.hid c2
  have HK4 := Lib.hid c4
  have HU := Lib.hid hu
  have HE7 := Lib.hid e7
  have HHZ := Lib.hid hz
  obtain ⟨n, hn⟩ : ∃ n, f.len = n := ⟨_, rfl⟩
  have HN := Lib.hid hn
  rw [hn] at h0 hl
  obtain ⟨Z, hZ⟩ : ∃ Z, tB (tkT (nd 7 s f)) = Z := ⟨_, rfl⟩
  rw [hZ]
  have HZ := Lib.hid hZ
  have k0 : w.cell? ⟨q, p, none⟩ = some (.int .i64 7) := hu.cell c0
  have k2 : w.cell? ⟨q, p + 2, none⟩ = some (.string s) := hu.cell c2
  have hs0 : (⟨#[109, 117, 32]⟩ ++ s ++ ⟨#[32, 123, 32]⟩ : ByteArray) = muB s [] := (if_pos rfl).symm
  have hsz : s.size ≤ 100000000 := by
    have h := hm 0 (Nat.zero_le _)
    rw [show bars ((segF f).take 0) = [] from rfl, ← hs0] at h
    simp only [ByteArray.size_append] at h
    omega
  have HS0 := Lib.hid hs0
  clear c0 c1 c2 c3 c4 hkid hv hf hc hu hn hZ hm hz e7 hs0
  go_enter Tryz.func55, Tryz.ntmps55
  go_wp2_with fail
  obtain ⟨W0, hW0⟩ : ∃ W0, w.alloc (.cells #[.string ⟨#[]⟩, .string kInt, .string kBool, .string kUnit] 9) = W0 := ⟨_, rfl⟩
  have uA : Up W W0 := by rw [← hW0]; exact HU.out.alloc _
  have UA := Lib.hid uA
  first
    | rw [hW0]
    | (rw [show w.alloc (.cells #[.string ⟨#[]⟩, .string ⟨#[105, 110, 116]⟩, .string ⟨#[98, 111, 111, 108]⟩, .string ⟨#[117, 110, 105, 116]⟩] 9) = W0 from hW0])
  first
    | rw [HS0.out]
    | skip
  clear uA hW0 k0 k2
  go_loopw [6, 7] (fun x y wr => ∃ j : Nat, j ≤ n ∧ y = .int .i64 (j : Int) ∧ x = .string (muB s (bars ((segF f).take j))) ∧ Up W wr) (fun _ y _ => n + 1 - (intOf y).toNat)
  case atStart => exact ⟨0, Nat.zero_le _, rfl, by first | rfl | (rw [← HS0.out]; rfl) | (show Value.string _ = Value.string (muB s []); rw [← HS0.out]), UA.out⟩
  case round =>
    obtain ⟨j, hj, rfl, rfl, hur⟩ := hrel
    have HUR := Lib.hid hur
    have k4r : wr.cell? ⟨q, p + 4, none⟩ = some (.slice (some ⟨kb, ko, none⟩) n c) := by rw [← HN.out]; exact hur.cell HK4.out
    have hqr : q < wr.heap.size := cell_lt k4r
    by_cases hlt : j < n
    · have hjz : (j : Int) < (n : Int) := by omega
      have hw1 : IntKind.i64.wrap ((j : Int) + 1) = ((j + 1 : Nat) : Int) := by rw [IntKind.wrap_i64]; omega
      obtain ⟨t, ht⟩ := Fr.get_some (f := f) (i := j) (by rw [HN.out]; exact hlt)
      obtain ⟨xs, u, rfl, cU, hne⟩ := HC.out j t ht
      obtain ⟨vc, hvc, hTc⟩ := HF.out.at ht
      obtain ⟨q1, p1, A1, c', rfl, hq1, m0, m1, m2, m3, m4, hcc1, hkid1⟩ := InT.open hTc
      obtain ⟨kb2, ko2, rfl, hkb2, ⟨va, ka, ia⟩, -⟩ := hkid1 (by show 0 < 1; omega)
      obtain ⟨qa, pa, rfl⟩ := InT.ptr ia
      have hbt := bars_take ht
      have hm1 := HM.out (j + 1) (by rw [HN.out]; omega)
      have hm0 := HM.out j (by rw [HN.out]; omega)
      have k4u : ∀ u : Upw W, u.w.cell? ⟨q, p + 4, none⟩ = some (.slice (some ⟨kb, ko, none⟩) n c) := Upw.cell (by rw [← HN.out]; exact HK4.out)
      have kcu : ∀ u : Upw W, u.w.cell? ⟨kb, ko + j, none⟩ = some (.pointer (some ⟨q1, p1, none⟩)) := Upw.cell hvc
      have knu : ∀ u : Upw W, u.w.cell? ⟨q1, p1 + 2, none⟩ = some (.string xs) := Upw.cell m2
      have kku : ∀ u : Upw W, u.w.cell? ⟨q1, p1 + 4, none⟩ = some (.slice (some ⟨kb2, ko2, none⟩) 1 c') := Upw.cell m4
      have kau : ∀ u : Upw W, u.w.cell? ⟨kb2, ko2, none⟩ = some (.pointer (some ⟨qa, pa, none⟩)) := Upw.cell ka
      obtain ⟨T, hT⟩ : ∃ T, tB (tkT u) = T := ⟨_, rfl⟩
      have cT : ∀ x : Upw W, Calls Tryz.prog 55 #[.pointer (some ⟨qa, pa, none⟩)] x.w fun e w' => e = .returned (.string T) ∧ Up W w' := fun x => by rw [← hT]; exact cU W x.w _ ia x.h
      have HT := Lib.hid cT
      obtain ⟨X, hX⟩ : ∃ X, muB s (bars ((segF f).take j)) = X := ⟨_, rfl⟩
      obtain ⟨Y, hY⟩ : ∃ Y, muB s (bars ((segF f).take (j + 1))) = Y := ⟨_, rfl⟩
      rw [hX] at hm0 ⊢
      have hYX : Y = (if j = 0 then X else X ++ ⟨#[32, 124, 32]⟩) ++ xs ++ ⟨#[32, 111, 102, 32]⟩ ++ T := by
        rw [← hY, ← hX, hbt, ← hT, tk_con]
        by_cases hj0 : j = 0
        · subst hj0
          rw [if_pos rfl, if_pos rfl]
          exact muB_first s xs hne
        · rw [if_neg hj0, if_neg hj0]
          refine muB_more ?_ xs hne
          intro h0
          have e := bars_mono (segF f) j
          have hne2 : bars ((segF f).take j) ≠ [] := by
            obtain ⟨j', rfl⟩ : ∃ j', j = j' + 1 := ⟨j - 1, by omega⟩
            obtain ⟨t', ht'⟩ := Fr.get_some (f := f) (i := j') (by rw [HN.out]; omega)
            obtain ⟨s', u', rfl, _, _⟩ := HC.out j' t' ht'
            rw [bars_take ht', tk_con]
            split <;> simp
          exact hne2 h0
      rw [hY, hYX] at hm1
      have hsz2 : xs.size ≤ 100000000 ∧ T.size ≤ 100000000 := by simp only [ByteArray.size_append] at hm1; omega
      obtain ⟨hxs, hTs⟩ := hsz2
      have HYX := Lib.hid hYX
      have HY := Lib.hid hY
      clear ht cU hne hvc hTc m0 m1 m2 m3 m4 hkid1 ka ia hbt hm1 hT cT hX hY hYX hur
      by_cases hj0 : 0 < j
      · have hj1 : (0 : Int) < (j : Int) := by omega
        go_wp2_with fail
        refine wp_region_up (W := W) HUR.out (by kernel_rfl) (by kernel_rfl) ?_
        repeat (go_big_quiet_step (first
          | (go_at_call 55; exact Calls.upw (HT.out _))))
        refine wpQuiet_nil ?_
        rintro w9 ⟨⟨_, u9⟩, rfl⟩
        have U9 := Lib.hid u9
        clear u9
        go_wp2_with fail
        go_roundw
        case rel => exact ⟨j + 1, by omega, rfl, by rw [HY.out, HYX.out, if_neg (by omega)], U9.out⟩
        case measure => simp [intOf]; omega
      · obtain rfl : j = 0 := by omega
        have kcu : ∀ u : Upw W, u.w.cell? ⟨kb, ko, none⟩ = some (.pointer (some ⟨q1, p1, none⟩)) := kcu
        go_wp2_with fail
        refine wp_region_up (W := W) HUR.out (by kernel_rfl) (by kernel_rfl) ?_
        repeat (go_big_quiet_step (first
          | (go_at_call 55; exact Calls.upw (HT.out _))))
        refine wpQuiet_nil ?_
        rintro w9 ⟨⟨_, u9⟩, rfl⟩
        have U9 := Lib.hid u9
        clear u9
        go_wp2_with fail
        go_roundw
        case rel => exact ⟨1, by omega, rfl, by rw [HY.out, HYX.out, if_pos trivial], U9.out⟩
        case measure => first | (simp [intOf]; omega) | simp [intOf]
    · obtain rfl : j = n := by omega
      have hjz : ¬ (j : Int) < (j : Int) := by omega
      have hend : bars ((segF f).take j) = bars (segF f) := by rw [List.take_of_length_le (by rw [segF_len, HN.out]; omega)]
      have hm0 := HM.out j (by rw [HN.out]; omega)
      have hnz : bars (segF f) ≠ [] := by
        obtain ⟨j', rfl⟩ : ∃ j', j = j' + 1 := ⟨j - 1, by omega⟩
        obtain ⟨t', ht'⟩ := Fr.get_some (f := f) (i := j') (by rw [HN.out]; omega)
        obtain ⟨s', u', rfl, _, _⟩ := HC.out j' t' ht'
        rw [← hend, bars_take ht', tk_con]
        split <;> simp
      have hfin : muB s (bars ((segF f).take j)) ++ ⟨#[32, 125]⟩ = Z := by rw [hend, muB_end hnz, ← HE7.out, HZ.out]
      obtain ⟨X, hX⟩ : ∃ X, muB s (bars ((segF f).take j)) = X := ⟨_, rfl⟩
      rw [hX] at hfin hm0 ⊢
      have HFI := Lib.hid hfin
      clear hend hnz hfin hX hur
      go_wp2_with fail
      go_ret
      exact sr_ret HFI.out.symm HUR.out
end Go.Proofs.YtklblhadhoppeaaGreatDoor
