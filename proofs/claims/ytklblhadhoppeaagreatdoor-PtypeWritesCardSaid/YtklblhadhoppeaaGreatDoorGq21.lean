/-
  Layer 6, the program's parser: named; between.
-/
import Derived.Test.YtklblhadhoppeaaGreatDoorGq20
import Derived.Below
import Derived.BigQuiet
import Derived.Carry
import Derived.Deep.AppendLies
import Derived.Deep.DeepMust
import Derived.Deep.QuietTactic
import Derived.Deep.RegionHeld3
import Derived.Deep.RegionLaw
import Derived.Laws.Rows
import Derived.Laws.Tables
import Derived.Lib.AppendIntMem
import Derived.Lib.AtoiAll
import Derived.Lib.AtoiErrMem
import Derived.Lib.CountLaws
import Derived.Lib.CutLaws
import Derived.Lib.Hide
import Derived.Lib.IndexBytes
import Derived.Lib.ItoaLen
import Derived.Lib.ItoaNum
import Derived.Lib.Join
import Derived.Lib.LaidTab
import Derived.Lib.OthersKept
import Derived.Lib.Replace
import Derived.Lib.RuneCount
import Derived.Lib.Split
import Derived.Lib.Strings
import Derived.Lib.ValidLaws
import Derived.LoopIn
import Derived.LoopNIn
import Derived.MapKept
import Derived.Maps.AppendAt
import Derived.Outline
import Derived.OwnWalk
import Derived.OwnWalkIn
import Derived.RangeFuncBound
import Derived.RangeFuncBox
import Derived.RangeFuncCalls
import Derived.RangeFuncLeaves
import Derived.RangeFuncNested
import Derived.Shelf.Abstract
import Derived.Shelf.Bits.Mul64
import Derived.Shelf.LaysC
import Derived.Shelf.LaysM
import Derived.Shelf.Slices.Turned
import Derived.Shelf.Small.Utf8
import Derived.Shelf.Strconv.Atoi
import Derived.Shelf.Strconv.AtoiAll
import Derived.Shelf.Strconv.AtoiErr
import Derived.Shelf.Strconv.AtoiErrFast
import Derived.Shelf.Strconv.AtoiFail
import Derived.Shelf.Strconv.AtoiInnerAll
import Derived.Shelf.Strconv.AtoiLong
import Derived.Shelf.Strconv.Clone
import Derived.Shelf.Strconv.ErrVarAll
import Derived.Shelf.Strconv.Itoa0
import Derived.Shelf.Strconv.Itoa1
import Derived.Shelf.Strconv.Itoa2
import Derived.Shelf.Strconv.Itoa3
import Derived.Shelf.Strconv.Lower
import Derived.Shelf.Strconv.ParseInt10
import Derived.Shelf.Strconv.ParseIntEmpty
import Derived.Shelf.Strconv.ParseUint10
import Derived.Shelf.Strconv.ParseUint10Any
import Derived.Shelf.Strconv.ParseUint10Empty
import Derived.Shelf.Strconv.RangeError
import Derived.Shelf.Strconv.SyntaxError
import Derived.Shelf.Strconv.ToError
import Derived.Shelf.Strconv.ToErrorRange
import Derived.Shelf.Strings.Builder1
import Derived.Shelf.Strings.Builder2
import Derived.Shelf.Strings.Count
import Derived.Shelf.Strings.Cut
import Derived.Shelf.Strings.OnBuilder
import Derived.Shelf.Strings.Prefix
import Derived.Shelf.Strings.Replace
import Derived.Shelf.Strings.Search1
import Derived.Shelf.Strings.Search2
import Derived.Shelf.Strings.Search3
import Derived.Shelf.Strings.Shaped
import Derived.Shelf.Strings.Split
import Derived.Shelf.Strings.SplitShaped
import Derived.Shelf.Unicode.DecodeAny
import Derived.Shelf.Unicode.DecodeSlow
import Derived.Shelf.Utf8.RuneCount
import Derived.TacticsInMore
import Derived.Test.YtklblhadhoppeaaGreatDoorProg
import Derived.Test.YtklblhadhoppeaaGreatDoorRows
import Derived.WalkKit
import Derived.WalkLawsBesides
import Derived.WalkSmall
import Derived.WalkSpells
namespace Go.Proofs.YtklblhadhoppeaaGreatDoor
open Go.RowKit

/-- What named tells, and where it leaves the parser. -/
def nmS (o : Option ByteArray) (e : Int) : ByteArray := if e = 0 then o.getD nob else nob
def nmI (o : Option ByteArray) (i : Nat) (e : Int) : Nat := if e = 0 then (match o with | some _ => i + 1 | none => i) else i
def nmE (o : Option ByteArray) (e : Int) : Int := if e = 0 then (match o with | some _ => 0 | none => 6) else e
def NmP (b : Nat) (v : Value) (s : ByteArray) (i : Nat) (e : Int) (w : World) (en : Ending) (w' : World) : Prop := en = .returned (.string s) ∧ Gs (On b) w w' ∧ Psr w' b v i e
set_option maxHeartbeats 6400000 in
set_option maxRecDepth 100000 in
theorem named_N (b : Nat) (v : Value) (i : Nat) (e : Int) (o : Option ByteArray) (w : World) (cS : ∀ w', Up w w' → Calls Tryz.prog 14 #[v, .int .i64 (i : Int)] w' (NaP o w')) (h : Psr w b v i e) (hi : i ≤ 1000000) :
    Calls Tryz.prog 70 #[.pointer (some ⟨b, 0, none⟩), .func (.func 14) #[] #[]] w (NmP b v (nmS o e) (nmI o i e) (nmE o e) w) := by
  obtain ⟨c0, c1, c2, f1, f2⟩ := h.cells
  have hb : b < w.heap.size := heap_lt h
  have H := Lib.hid h
  have c0u : ∀ u : Upw w, u.w.cell? ⟨b, 0, none⟩ = some v := Upw.cell c0
  have c1u : ∀ u : Upw w, u.w.cell? ⟨b, 1, none⟩ = some (.int .i64 (i : Int)) := Upw.cell c1
  have hw : IntKind.i64.wrap ((i : Int) + 1) = (i : Int) + 1 := by rw [IntKind.wrap_i64]; omega
  clear h f1 f2 c0 c1 c2
  cases o with
  | none =>
    have CK : ∀ u : Upw w, Calls Tryz.prog 14 #[v, .int .i64 (i : Int)] u.w fun e w' => e = .returned (.tuple #[.string ⟨#[]⟩, .bool false]) ∧ Up w w' := fun u => (cS u.w u.h).mono fun e w' ⟨h1, h2⟩ => ⟨h1, u.h.trans h2⟩
    have HK := Lib.hid CK
    have U0 := Lib.hid (Up.refl w)
    clear CK cS
    go_enter Tryz.func70, Tryz.ntmps70
    go_wp2_with fail
    refine wp_region_up (W := w) U0.out (by kernel_rfl) (by kernel_rfl) ?_
    repeat (go_big_quiet_step (first
      | (go_at_call 14; exact Calls.upw (HK.out _))))
    refine wpQuiet_nil ?_
    rintro _ ⟨⟨w9, u9⟩, rfl⟩
    have cF := fail_any b v i e 6 _ (H.out.up u9)
    have U9 := Lib.hid u9
    clear u9 c0u c1u
    by_cases he : e = 0
    · subst he
      rw [if_pos rfl] at cF
      have HS : Hid (nmS none 0 = nob ∧ nmI none i 0 = i ∧ nmE none 0 = 6) := Lib.hid ⟨rfl, rfl, rfl⟩
      go_wp2_with fail
      refine cF.mono ?_
      rintro e w1 ⟨⟨u, rfl⟩, g1, h1⟩
      have c2 := h1.cells.2.2.1
      go_wp2_with fail
      go_ret
      unfold NmP
      rw [HS.out.1, HS.out.2.1, HS.out.2.2]
      exact ⟨rfl, (Gs.of U9.out).trans g1, h1⟩
    · rw [if_neg he] at cF
      have HS : Hid (nmS none e = nob ∧ nmI none i e = i ∧ nmE none e = e) := Lib.hid ⟨if_neg he, if_neg he, if_neg he⟩
      go_wp2_with fail
      refine cF.mono ?_
      rintro e w1 ⟨⟨u, rfl⟩, g1, h1⟩
      have c2 := h1.cells.2.2.1
      go_wp2_with fail
      go_ret
      unfold NmP
      rw [HS.out.1, HS.out.2.1, HS.out.2.2]
      exact ⟨rfl, (Gs.of U9.out).trans g1, h1⟩
  | some s =>
    have CK : ∀ u : Upw w, Calls Tryz.prog 14 #[v, .int .i64 (i : Int)] u.w fun e w' => e = .returned (.tuple #[.string s, .bool true]) ∧ Up w w' := fun u => (cS u.w u.h).mono fun e w' ⟨h1, h2⟩ => ⟨h1, u.h.trans h2⟩
    have HK := Lib.hid CK
    have U0 := Lib.hid (Up.refl w)
    clear CK cS
    by_cases he : e = 0
    · subst he
      have HS : Hid (nmS (some s) 0 = s ∧ nmI (some s) i 0 = i + 1 ∧ nmE (some s) 0 = 0) := Lib.hid ⟨rfl, rfl, rfl⟩
      rw [HS.out.1, HS.out.2.1, HS.out.2.2]
      go_enter Tryz.func70, Tryz.ntmps70
      go_wp2_with fail
      refine wp_region_up (W := w) U0.out (by kernel_rfl) (by kernel_rfl) ?_
      repeat (go_big_quiet_step (first
        | (go_at_call 14; exact Calls.upw (HK.out _))))
      refine wpQuiet_nil ?_
      rintro _ ⟨⟨w9, u9⟩, rfl⟩
      have h9 := H.out.up u9
      obtain ⟨d0, d1, d2, g1, g2⟩ := h9.cells
      have H9 := Lib.hid h9
      have U9 := Lib.hid u9
      clear u9 h9 c0u c1u d0 g2
      go_wp2_with fail
      go_ret
      exact ⟨rfl, (Gs.of U9.out).set _ _ (.inl rfl), H9.out.at _ _ (by omega)⟩
    · have HS : Hid (nmS (some s) e = nob ∧ nmI (some s) i e = i ∧ nmE (some s) e = e) := Lib.hid ⟨if_neg he, if_neg he, if_neg he⟩
      rw [HS.out.1, HS.out.2.1, HS.out.2.2]
      go_enter Tryz.func70, Tryz.ntmps70
      go_wp2_with fail
      refine wp_region_up (W := w) U0.out (by kernel_rfl) (by kernel_rfl) ?_
      repeat (go_big_quiet_step (first
        | (go_at_call 14; exact Calls.upw (HK.out _))))
      refine wpQuiet_nil ?_
      rintro _ ⟨⟨w9, u9⟩, rfl⟩
      have h9 := H.out.up u9
      obtain ⟨d0, d1, d2, g1, g2⟩ := h9.cells
      have H9 := Lib.hid h9
      have U9 := Lib.hid u9
      clear u9 h9 c0u c1u d0 d1 g1 g2
      go_wp2_with fail
      go_ret
      exact ⟨rfl, Gs.of U9.out, H9.out⟩
set_option maxHeartbeats 6400000 in
set_option maxRecDepth 100000 in
theorem named_L (b : Nat) (v : Value) (i : Nat) (e : Int) (o : Option ByteArray) (w : World) (cS : ∀ w', Up w w' → Calls Tryz.prog 16 #[v, .int .i64 (i : Int)] w' (NaP o w')) (h : Psr w b v i e) (hi : i ≤ 1000000) :
    Calls Tryz.prog 70 #[.pointer (some ⟨b, 0, none⟩), .func (.func 16) #[] #[]] w (NmP b v (nmS o e) (nmI o i e) (nmE o e) w) := by
  obtain ⟨c0, c1, c2, f1, f2⟩ := h.cells
  have hb : b < w.heap.size := heap_lt h
  have H := Lib.hid h
  have c0u : ∀ u : Upw w, u.w.cell? ⟨b, 0, none⟩ = some v := Upw.cell c0
  have c1u : ∀ u : Upw w, u.w.cell? ⟨b, 1, none⟩ = some (.int .i64 (i : Int)) := Upw.cell c1
  have hw : IntKind.i64.wrap ((i : Int) + 1) = (i : Int) + 1 := by rw [IntKind.wrap_i64]; omega
  clear h f1 f2 c0 c1 c2
  cases o with
  | none =>
    have CK : ∀ u : Upw w, Calls Tryz.prog 16 #[v, .int .i64 (i : Int)] u.w fun e w' => e = .returned (.tuple #[.string ⟨#[]⟩, .bool false]) ∧ Up w w' := fun u => (cS u.w u.h).mono fun e w' ⟨h1, h2⟩ => ⟨h1, u.h.trans h2⟩
    have HK := Lib.hid CK
    have U0 := Lib.hid (Up.refl w)
    clear CK cS
    go_enter Tryz.func70, Tryz.ntmps70
    go_wp2_with fail
    refine wp_region_up (W := w) U0.out (by kernel_rfl) (by kernel_rfl) ?_
    repeat (go_big_quiet_step (first
      | (go_at_call 16; exact Calls.upw (HK.out _))))
    refine wpQuiet_nil ?_
    rintro _ ⟨⟨w9, u9⟩, rfl⟩
    have cF := fail_any b v i e 6 _ (H.out.up u9)
    have U9 := Lib.hid u9
    clear u9 c0u c1u
    by_cases he : e = 0
    · subst he
      rw [if_pos rfl] at cF
      have HS : Hid (nmS none 0 = nob ∧ nmI none i 0 = i ∧ nmE none 0 = 6) := Lib.hid ⟨rfl, rfl, rfl⟩
      go_wp2_with fail
      refine cF.mono ?_
      rintro e w1 ⟨⟨u, rfl⟩, g1, h1⟩
      have c2 := h1.cells.2.2.1
      go_wp2_with fail
      go_ret
      unfold NmP
      rw [HS.out.1, HS.out.2.1, HS.out.2.2]
      exact ⟨rfl, (Gs.of U9.out).trans g1, h1⟩
    · rw [if_neg he] at cF
      have HS : Hid (nmS none e = nob ∧ nmI none i e = i ∧ nmE none e = e) := Lib.hid ⟨if_neg he, if_neg he, if_neg he⟩
      go_wp2_with fail
      refine cF.mono ?_
      rintro e w1 ⟨⟨u, rfl⟩, g1, h1⟩
      have c2 := h1.cells.2.2.1
      go_wp2_with fail
      go_ret
      unfold NmP
      rw [HS.out.1, HS.out.2.1, HS.out.2.2]
      exact ⟨rfl, (Gs.of U9.out).trans g1, h1⟩
  | some s =>
    have CK : ∀ u : Upw w, Calls Tryz.prog 16 #[v, .int .i64 (i : Int)] u.w fun e w' => e = .returned (.tuple #[.string s, .bool true]) ∧ Up w w' := fun u => (cS u.w u.h).mono fun e w' ⟨h1, h2⟩ => ⟨h1, u.h.trans h2⟩
    have HK := Lib.hid CK
    have U0 := Lib.hid (Up.refl w)
    clear CK cS
    by_cases he : e = 0
    · subst he
      have HS : Hid (nmS (some s) 0 = s ∧ nmI (some s) i 0 = i + 1 ∧ nmE (some s) 0 = 0) := Lib.hid ⟨rfl, rfl, rfl⟩
      rw [HS.out.1, HS.out.2.1, HS.out.2.2]
      go_enter Tryz.func70, Tryz.ntmps70
      go_wp2_with fail
      refine wp_region_up (W := w) U0.out (by kernel_rfl) (by kernel_rfl) ?_
      repeat (go_big_quiet_step (first
        | (go_at_call 16; exact Calls.upw (HK.out _))))
      refine wpQuiet_nil ?_
      rintro _ ⟨⟨w9, u9⟩, rfl⟩
      have h9 := H.out.up u9
      obtain ⟨d0, d1, d2, g1, g2⟩ := h9.cells
      have H9 := Lib.hid h9
      have U9 := Lib.hid u9
      clear u9 h9 c0u c1u d0 g2
      go_wp2_with fail
      go_ret
      exact ⟨rfl, (Gs.of U9.out).set _ _ (.inl rfl), H9.out.at _ _ (by omega)⟩
    · have HS : Hid (nmS (some s) e = nob ∧ nmI (some s) i e = i ∧ nmE (some s) e = e) := Lib.hid ⟨if_neg he, if_neg he, if_neg he⟩
      rw [HS.out.1, HS.out.2.1, HS.out.2.2]
      go_enter Tryz.func70, Tryz.ntmps70
      go_wp2_with fail
      refine wp_region_up (W := w) U0.out (by kernel_rfl) (by kernel_rfl) ?_
      repeat (go_big_quiet_step (first
        | (go_at_call 16; exact Calls.upw (HK.out _))))
      refine wpQuiet_nil ?_
      rintro _ ⟨⟨w9, u9⟩, rfl⟩
      have h9 := H.out.up u9
      obtain ⟨d0, d1, d2, g1, g2⟩ := h9.cells
      have H9 := Lib.hid h9
      have U9 := Lib.hid u9
      clear u9 h9 c0u c1u d0 d1 g1 g2
      go_wp2_with fail
      go_ret
      exact ⟨rfl, Gs.of U9.out, H9.out⟩
/-- What a function literal in between leaves. -/
def InL (S : Nat → Prop) (b : Nat) (v : Value) (i : Nat) (e : Int) (P : World → Prop) (w : World) (en : Ending) (w' : World) : Prop := (∃ u, en = .returned u) ∧ Gs S w w' ∧ Psr w' b v i e ∧ P w'
section
variable {nk lg : ByteArray → Bool}
set_option maxHeartbeats 3200000 in
set_option maxRecDepth 100000 in
theorem between_any {W0 : World} {l : List Tk} (b : Nat) (v : Value) (i : Nat) (e : Int) (opening closing : ByteArray) (k : FuncId) (cap : Array Value) (hE : EntF k) (S : Nat → Prop) (hSW : ∀ q, S q → W0.heap.size ≤ q) (hbW : W0.heap.size ≤ b) (i2 : Nat) (e2 : Int) (P : World → Prop) (w : World)
    (T : Toks nk lg W0 v l) (h : Psr w b v i e) (hu : Up W0 w) (hi : i ≤ 1000000) (hi2 : i2 ≤ 1000000)
    (cI : ∀ w1, Gs (On b) w w1 → Psr w1 b v (neI i (tkB l i e opening)) (neE e (tkB l i e opening)) → Calls Tryz.prog k cap w1 (InL S b v i2 e2 P w1)) :
    Calls Tryz.prog 151 #[.pointer (some ⟨b, 0, none⟩), .string opening, .string closing, .func (.func k) #[] cap] w
      fun en w' => (∃ u, en = .returned u) ∧ ∃ w1 w2, Gs (On b) w w1 ∧ Gs S w1 w2 ∧ P w2 ∧ Gs (On b) w2 w' ∧ Psr w' b v (neI i2 (tkB l i2 e2 closing)) (neE e2 (tkB l i2 e2 closing)) := by
  have cN := needs_any b v i e opening w T h hu hi
  have HU := Lib.hid hu
  have HI := Lib.hid cI
  have HT := Lib.hid T
  have HSW := Lib.hid hSW
  have HE := Lib.hid hE
  clear h hu cI T hSW hE
  go_enter Tryz.func151, Tryz.ntmps151
  go_wp2_with fail
  refine cN.mono ?_
  rintro en w1 ⟨⟨u, rfl⟩, g1, h1⟩
  have cI := HI.out w1 g1 h1
  have G1 := Lib.hid g1
  clear g1 h1
  go_wp2_with fail
  rw [HE.out, Oper.upon_enter]
  refine cI.mono ?_
  rintro en w2 ⟨⟨u, rfl⟩, g2, h2, p2⟩
  have u2 : Up W0 w2 := g2.up (G1.out.up HU.out (fun q hq => by rw [hq]; exact hbW)) HSW.out
  have cN2 := needs_any b v i2 e2 closing w2 HT.out h2 u2 hi2
  have G2 := Lib.hid g2
  have P2 := Lib.hid p2
  clear g2 p2 u2 h2
  go_wp2_with fail
  refine cN2.mono ?_
  rintro en w3 ⟨⟨u, rfl⟩, g3, h3⟩
  go_wp2_with fail
  go_end0
  exact ⟨⟨_, rfl⟩, w1, w2, G1.out, G2.out, P2.out, g3, h3⟩
end
end Go.Proofs.YtklblhadhoppeaaGreatDoor
namespace Go.Proofs.YtklblhadhoppeaaGreatDoor
open Go.RowKit Go.Shelf

attribute [local go_sem] Oper.semAt_some

/-- What a round keeps: all below n but one variable's block. -/
def Kq (n v : Nat) (A B : World) : Prop := A.heap.size ≤ B.heap.size ∧ ∀ q, q < n → q ≠ v → B.heap[q]? = A.heap[q]?
theorem Kq.refl (n v : Nat) (A : World) : Kq n v A A := ⟨Nat.le_refl _, fun _ _ _ => rfl⟩
theorem Kq.trans {n v : Nat} {A B C : World} (h : Kq n v A B) (k : Kq n v B C) : Kq n v A C := ⟨Nat.le_trans h.1 k.1, fun q h1 h2 => (k.2 q h1 h2).trans (h.2 q h1 h2)⟩
theorem Kq.cell {n v : Nat} {A B : World} (h : Kq n v A B) {p : Addr} (h1 : p.block < n) (h2 : p.block ≠ v) : B.cell? p = A.cell? p := World.cell?_of_block (h.2 _ h1 h2)
theorem Kq.put {n v : Nat} {w : World} (hn : n ≤ w.heap.size) (W : World) (l : Nat) (o o' : Obj) (hl : w.heap.size ≤ l) (_ : W.heap[l]? = some o) (_ : o.isCells = false) (_ : o.isWalk = false) : Kq n v W (W.putObj l o') := ⟨by simp, fun q hq _ => World.putObj_heap_other (by omega)⟩
/-- What has come when k rounds are over: the last one first. -/
def bwd (qs : List (Option Addr)) (k : Nat) : List (Nat × Option Addr) := (List.range k).map fun j => (qs.length - 1 - j, (qs[qs.length - 1 - j]?).getD none)
theorem bwd_succ (qs : List (Option Addr)) (k : Nat) : bwd qs (k + 1) = bwd qs k ++ [(qs.length - 1 - k, (qs[qs.length - 1 - k]?).getD none)] := by simp [bwd, List.range_succ]
theorem bwd_len (qs : List (Option Addr)) (k : Nat) : (bwd qs k).length = k := by simp [bwd]
theorem toNat_sub (n k : Nat) (h : k < n) : ((n : Int) - 1 - (k : Int)) = ((n - 1 - k : Nat) : Int) := by omega
set_option maxRecDepth 100000 in
set_option maxHeartbeats 2000000 in
theorem back1_in (F : Fence) (n vb : Nat) (hf : F.fn 149) (hro : F.round = none) (hn : 1 ≤ n) (l Bs n₀ b off cap : Nat) (hv1 : Bs ≠ vb) (hv2 : b ≠ vb) (qs : List (Option Addr)) (hreach : qs.length ≤ 100000000) (hb : b < n₀) (J Jx : List (Nat × Option Addr) → World → Prop)
    (hY : ∀ pre x W, J pre W → pre.length < qs.length → YieldAt F (n - 1) Tryz.prog l #[.int .i64 (x.1 : Int), .pointer x.2] W fun e W' =>
      (e = .returned (.bool true) ∧ J (pre ++ [x]) W' ∧ Kq n₀ vb W W') ∨ (e = .returned (.bool false) ∧ Jx (pre ++ [x]) W'))
    (W : World) (hBn : Bs < n₀) (hBs : W.cell? ⟨Bs, 0, none⟩ = some (.slice (some ⟨b, off, none⟩) qs.length cap)) (hc : ∀ j, j < qs.length → W.cell? ⟨b, off + j, none⟩ = some (.pointer ((qs[j]?).getD none))) (h0 : J [] W) :
    CallsIn F n Tryz.prog 149 #[.func (.yield l) #[] #[], .pointer (some ⟨Bs, 0, none⟩)] W fun e W' => (∃ v, e = .returned v) ∧
      ((∃ ys, ys = bwd qs qs.length ∧ J ys W') ∨ (∃ pre, (∃ k, k ≤ qs.length ∧ pre = bwd qs k) ∧ Jx pre W')) := by
  obtain ⟨len, hlen⟩ : ∃ len, qs.length = len := ⟨_, rfl⟩
  have HLEN := Lib.hid hlen
  rw [hlen] at hBs hreach ⊢
  have HC := Lib.hid hc
  have HY := Lib.hid hY
  clear hc hY hlen
  refine callsIn_of_wp Tryz.func149 rfl hf ?_ hro
  simp only [Tryz.ntmps149, List.size_toArray, List.length_cons, List.length_nil, Nat.reduceAdd, Nat.reduceSub, Array.replicate_succ, Array.replicate_zero, List.push_toArray, List.append_toArray, List.nil_append, List.cons_append]
  have hw1 : IntKind.i64.wrap ((len : Int) - 1) = (len : Int) - 1 := by rw [IntKind.wrap_i64]; omega
  gi_wp2
  gi_loopw [3] (fun i wr => ∃ k : Nat, k ≤ len ∧ i = .int .i64 ((len : Int) - 1 - (k : Int)) ∧ J (bwd qs k) wr ∧ Kq n₀ vb W wr)
    (fun i _ => (intOf i + 1).toNat)
  case atStart => exact ⟨0, Nat.zero_le _, i64_eq (by omega), h0, Kq.refl _ _ _⟩
  case round =>
    obtain ⟨k, hk, rfl, hJs, hnx⟩ := hrel
    have hBs' := (hnx.cell (p := ⟨Bs, 0, none⟩) hBn hv1).trans hBs
    by_cases hlt : k < len
    · have hcx : wr.cell? ⟨b, off + (len - 1 - k), none⟩ = some (.pointer ((qs[qs.length - 1 - k]?).getD none)) := by
        have h := (hnx.cell (p := ⟨b, off + (len - 1 - k), none⟩) hb hv2).trans (HC.out (len - 1 - k) (by rw [HLEN.out]; omega))
        rw [h, HLEN.out]
      obtain ⟨fn, tmps, assign, body, hy, hR⟩ := HY.out _ (len - 1 - k, (qs[qs.length - 1 - k]?).getD none) wr hJs (by rw [bwd_len, HLEN.out]; exact hlt)
      dsimp only at hy
      have hi : (len : Int) - 1 - (k : Int) = ((len - 1 - k : Nat) : Int) := toNat_sub len k hlt
      have hlt' : len - 1 - k < len := by omega
      have hsucc : bwd qs (k + 1) = bwd qs k ++ [(len - 1 - k, (qs[qs.length - 1 - k]?).getD none)] := by rw [bwd_succ, HLEN.out]
      have HSUC := Lib.hid hsucc
      have HR := Lib.hid hR
      obtain ⟨ix, hix⟩ : ∃ ix, len - 1 - k = ix := ⟨_, rfl⟩
      obtain ⟨qx, hqx⟩ : ∃ qx, (qs[qs.length - 1 - k]?).getD none = qx := ⟨_, rfl⟩
      rw [hix, hqx] at hcx hy
      rw [hix] at hi hlt'
      rw [hi]
      have HIX := Lib.hid hix
      have HQX := Lib.hid hqx
      have HI := Lib.hid hi
      have hw2 : IntKind.i64.wrap ((ix : Int) - 1) = (ix : Int) - 1 := by rw [IntKind.wrap_i64]; omega
      clear hsucc hR hix hqx hi
      gi_wp2
      refine HR.out.mono ?_
      rintro e W3 (⟨rfl, hJ3, hk3⟩ | ⟨rfl, hJx3⟩)
      · gi_wp2
        go_roundw
        case rel => exact ⟨k + 1, by omega, i64_eq (by have := HI.out; omega), by rw [HSUC.out]; exact hJ3, hnx.trans hk3⟩
        case measure => first | (simp [intOf]; omega) | simp [intOf]
      · gi_wp2
        refine bodyPost_ret (results_none rfl _ _ _) rfl ?_
        exact ⟨⟨_, rfl⟩, .inr ⟨_, ⟨k + 1, by omega, HSUC.out.symm⟩, hJx3⟩⟩
    · obtain rfl : k = len := by omega
      have hi : ¬ (0 : Int) ≤ (k : Int) - 1 - (k : Int) := by omega
      gi_wp2
      go_end0
      exact ⟨⟨_, rfl⟩, .inl (by first | exact hJs | exact ⟨_, rfl, hJs⟩)⟩
set_option maxHeartbeats 1000000 in
theorem back_in (F : Fence) (n : Nat) (hf : F.fn 112) (hro : F.round = none) (a : Option Addr) (len cap : Nat) (w : World) :
    CallsIn F n Tryz.prog 112 #[.slice a len cap] w fun e w' => e = .returned (.func (.func 149) #[] #[.pointer (some ⟨w.heap.size, 0, none⟩)]) ∧ w' = w.alloc (.cells #[.slice a len cap] 30) := by
  refine callsIn_of_wp Tryz.func112 rfl hf ?_ hro
  simp only [Tryz.ntmps112, List.size_toArray, List.length_cons, List.length_nil, Nat.reduceAdd, Nat.reduceSub, Array.replicate_succ, Array.replicate_zero, List.push_toArray, List.append_toArray, List.nil_append, List.cons_append]
  gi_wp2
  go_ret
  exact ⟨rfl, rfl⟩
/-- The values of a slice of pointers, from behind. -/
theorem back_stops (F : Fence) (n vb : Nat) (hf : F.fn 149) (hro : F.round = none) (hn : 1 ≤ n) (Bs n₀ b off cap : Nat) (hv1 : Bs ≠ vb) (hv2 : b ≠ vb) (qs : List (Option Addr)) (hreach : qs.length ≤ 100000000) (w : World) (hBs : Bs < n₀) (hb : b < n₀) (hn₀ : n₀ ≤ w.heap.size)
    (hc : w.cell? ⟨Bs, 0, none⟩ = some (.slice (some ⟨b, off, none⟩) qs.length cap)) (hI : ∀ j, j < qs.length → w.cell? ⟨b, off + j, none⟩ = some (.pointer ((qs[j]?).getD none))) :
    SeqStopsK F n Tryz.prog 149 #[.pointer (some ⟨Bs, 0, none⟩)] (fun x : Nat × Option Addr => #[Value.int .i64 (x.1 : Int), Value.pointer x.2]) (Kq n₀ vb) (fun ys => ys = bwd qs qs.length)
      (fun pre => ∃ k, k ≤ qs.length ∧ pre = bwd qs k) qs.length w := fun l J Jx W hW _ _ hY h0 => by
  have hc' := (hW.cell (p := ⟨Bs, 0, none⟩) (by simp only; omega)).trans hc
  exact back1_in F n vb hf hro hn l Bs n₀ b off cap hv1 hv2 qs hreach hb J Jx hY W hBs hc' (fun j hj => (hW.cell (p := ⟨b, off + j, none⟩) (by simp only; omega)).trans (hI j hj)) h0
end Go.Proofs.YtklblhadhoppeaaGreatDoor
