/-
  The document's table of forms: what rows tells.
-/
import Derived.Test.YtklblhadhoppeaaGreatDoorGq01
import Derived.Test.YtklblhadhoppeaaGreatDoorGq04
import Derived.Test.YtklblhadhoppeaaGreatDoorGq12
import Derived.Test.YtklblhadhoppeaaGreatDoorGq15
import Derived.Test.YtklblhadhoppeaaGreatDoorGq18
import Derived.Test.YtklblhadhoppeaaGreatDoorGq19
import Derived.Test.YtklblhadhoppeaaGreatDoorGq22
import Derived.Below
import Derived.BigQuiet
import Derived.Carry
import Derived.Deep.AppendLies
import Derived.Deep.DeepMust
import Derived.Deep.Onto
import Derived.Deep.QuietTactic
import Derived.Deep.RegionHeld3
import Derived.Deep.RegionLaw
import Derived.KernelRfl
import Derived.Laws.OwnMore
import Derived.Laws.Rows
import Derived.Laws.Tables
import Derived.Lib.AppendIntMem
import Derived.Lib.AtoiAll
import Derived.Lib.AtoiErrMem
import Derived.Lib.CountLaws
import Derived.Lib.CutLaws
import Derived.Lib.Hide
import Derived.Lib.IndexBytes
import Derived.Lib.ItoaLen
import Derived.Lib.ItoaNum
import Derived.Lib.Join
import Derived.Lib.LaidTab
import Derived.Lib.OthersKept
import Derived.Lib.Replace
import Derived.Lib.RuneCount
import Derived.Lib.Split
import Derived.Lib.Strings
import Derived.Lib.ValidLaws
import Derived.LoopIn
import Derived.LoopNIn
import Derived.MapKept
import Derived.Maps.AppendAt
import Derived.Outline
import Derived.OwnWalk
import Derived.OwnWalkIn
import Derived.RangeFuncBound
import Derived.RangeFuncBox
import Derived.RangeFuncCalls
import Derived.RangeFuncLeaves
import Derived.RangeFuncNested
import Derived.Shelf.Abstract
import Derived.Shelf.Bits.Mul64
import Derived.Shelf.LaysC
import Derived.Shelf.LaysM
import Derived.Shelf.Slices.Turned
import Derived.Shelf.Small.Utf8
import Derived.Shelf.Strconv.Atoi
import Derived.Shelf.Strconv.AtoiAll
import Derived.Shelf.Strconv.AtoiErr
import Derived.Shelf.Strconv.AtoiErrFast
import Derived.Shelf.Strconv.AtoiFail
import Derived.Shelf.Strconv.AtoiInnerAll
import Derived.Shelf.Strconv.AtoiLong
import Derived.Shelf.Strconv.Clone
import Derived.Shelf.Strconv.ErrVarAll
import Derived.Shelf.Strconv.Itoa0
import Derived.Shelf.Strconv.Itoa1
import Derived.Shelf.Strconv.Itoa2
import Derived.Shelf.Strconv.Itoa3
import Derived.Shelf.Strconv.Lower
import Derived.Shelf.Strconv.ParseInt10
import Derived.Shelf.Strconv.ParseIntEmpty
import Derived.Shelf.Strconv.ParseUint10
import Derived.Shelf.Strconv.ParseUint10Any
import Derived.Shelf.Strconv.ParseUint10Empty
import Derived.Shelf.Strconv.RangeError
import Derived.Shelf.Strconv.SyntaxError
import Derived.Shelf.Strconv.ToError
import Derived.Shelf.Strconv.ToErrorRange
import Derived.Shelf.Strings.Builder1
import Derived.Shelf.Strings.Builder2
import Derived.Shelf.Strings.Count
import Derived.Shelf.Strings.Cut
import Derived.Shelf.Strings.OnBuilder
import Derived.Shelf.Strings.Prefix
import Derived.Shelf.Strings.Replace
import Derived.Shelf.Strings.Search1
import Derived.Shelf.Strings.Search2
import Derived.Shelf.Strings.Search3
import Derived.Shelf.Strings.Shaped
import Derived.Shelf.Strings.Split
import Derived.Shelf.Strings.SplitShaped
import Derived.Shelf.Unicode.DecodeAny
import Derived.Shelf.Unicode.DecodeSlow
import Derived.Shelf.Utf8.RuneCount
import Derived.TacticsInMore
import Derived.Test.YtklblhadhoppeaaGreatDoorProg
import Derived.Test.YtklblhadhoppeaaGreatDoorRows
import Derived.WalkKit
import Derived.WalkLawsBesides
import Derived.WalkSmall
import Derived.WalkSpells
namespace Go.Proofs.YtklblhadhoppeaaGreatDoor
open Go.RowKit

def byt (l : List UInt8) : ByteArray := ⟨l.toArray⟩
/-- A row's seven cells. -/
def rcl (r : Rw) : List Value := [.int .i64 r.cat, .int .i64 r.kind, .string (byt r.nm), .string (byt r.mr), .int .i64 r.fr, .int .i64 r.to, .string (byt r.ks)]
def RWC : List Value := RWS.flatMap rcl
/-- Where the table lies. -/
def Tbl (w : World) (g : Nat) : Prop := w.heap[g]? = some (.cells RWC.toArray 167 (0, 0))
/-- Operations that yield values, one behind the other. -/
def runL (P : Program) : List Oper → Act → World → Option (Act × World)
  | [], a, w => some (a, w)
  | o :: rest, a, w => match o.guard with
    | none => match (execOp a.eval o).run P w with
      | .ok (.value v) w' => runL P rest (a.put o.dst v) w'
      | _ => none
    | some _ => none
theorem wpList_run {P : Program} {ops : Array Oper} {Q : Exit → Act → World → Prop} : ∀ (l : List Oper) (a : Act) (w : World) (a' : Act) (w' : World), runL P l a w = some (a', w') → Q .normal a' w' → wpList P ops Q l a w
  | [], a, w, a', w', h, hq => by
    simp only [runL, Option.some.injEq, Prod.mk.injEq] at h
    obtain ⟨rfl, rfl⟩ := h
    exact hq
  | o :: rest, a, w, a', w', h, hq => by
    unfold runL at h
    split at h
    · rename_i hg
      split at h
      · rename_i v w2 hr
        refine wpList_plain hg fun K hK => ?_
        unfold Oper.wp
        rw [hr]
        exact hK _ _ (wpList_run rest _ _ a' w' h hq)
      · cases h
    · cases h
theorem wp_region_run {P : Program} {id : Nat} {ops : Array Oper} {Q : Exit → Act → World → Prop} {a a' : Act} {w w' : World} (h : runL P ops.toList a w = some (a', w')) (hq : Q .normal a' w') : (Code.region id ops false).wp P Q a w :=
  wp_region_list (wpList_run _ _ _ _ _ h hq)
/-- Regions of such operations, one behind the other, to the end. -/
def runC (P : Program) : Code → Act → World → Option (Act × World)
  | .seq (.region _ ops false) c, a, w => (runL P ops.toList a w).bind fun p => runC P c p.1 p.2
  | .ret, a, w => some (a, w)
  | _, _, _ => none
theorem wp_runC' {P : Program} {Q : Exit → Act → World → Prop} : ∀ (c : Code) (a : Act) (w : World) (a' : Act) (w' : World), runC P c a w = some (a', w') → Q .ret a' w' → c.wp P Q a w := by
  intro c
  induction c with
  | seq x y _ ih =>
    intro a w a' w' h hq
    cases x with
    | region id ops b =>
      cases b with
      | false =>
        simp only [runC] at h
        obtain ⟨⟨a1, w1⟩, h1, h2⟩ := Option.bind_eq_some_iff.1 h
        refine wp_seq_k fun K hK => ?_
        exact wp_region_run h1 (hK _ _ (ih _ _ _ _ h2 hq))
      | true => simp [runC] at h
    | _ => simp [runC] at h
  | ret =>
    intro a w a' w' h hq
    simp only [runC, Option.some.injEq, Prod.mk.injEq] at h
    obtain ⟨rfl, rfl⟩ := h
    exact wp_ret hq
  | _ => intro a w a' w' h; simp [runC] at h
theorem wp_runC {P : Program} {fn : Func} {R : Ending → World → Prop} {c : Code} {a : Act} {w w1 : World} {v : Value} (h : (runC P c a w).map (fun p => (p.1.defers, (results fn p.1.tmps).run P p.2, p.2)) = some ([], .ok v w1, w1)) (hR : R (.returned v) w1) : c.wp P (bodyPost P fn R) a w := by
  obtain ⟨⟨a', w'⟩, h1, h2⟩ := Option.map_eq_some_iff.1 h
  simp only [Prod.mk.injEq] at h2
  obtain ⟨h3, h4, rfl⟩ := h2
  exact wp_runC' c a w a' w' h1 ⟨h3, v, h4, hR⟩
set_option maxHeartbeats 6400000 in
set_option maxRecDepth 100000 in
theorem rows_any (w : World) : Calls Tryz.prog 128 #[] w fun e w' => ∃ g, e = .returned (.slice (some ⟨g, 0, none⟩) 47 47) ∧ w.heap.size ≤ g ∧ Tbl w' g ∧ Below w.heap.size w w' := by
  go_enter Tryz.func128, Tryz.ntmps128
  refine wp_runC (v := .slice (some ⟨w.heap.size, 0, none⟩) 47 47) (w1 := w.alloc (.cells RWC.toArray 167)) (by kernel_rfl) ?_
  exact ⟨w.heap.size, rfl, Nat.le_refl _, heap_alloc_new w _, (Below.refl _ w).alloc (Nat.le_refl _) _⟩
end Go.Proofs.YtklblhadhoppeaaGreatDoor
namespace Go.Proofs.YtklblhadhoppeaaGreatDoor
open Go.RowKit

theorem u8_eq {c d : UInt8} (h : c = d) : ((c.toNat : Int) == (d.toNat : Int)) = true := by subst h; simp
theorem u8_ne {c d : UInt8} (h : c ≠ d) : ((c.toNat : Int) == (d.toNat : Int)) = false := by
  rw [beq_eq_false_iff_ne]
  intro e
  exact h (UInt8.toNat_inj.1 (by omega))
def SGN : List UInt8 := [116, 101, 109, 115, 112, 100]
theorem cat_at {c : UInt8} {i : Nat} (h : ∀ j, j < i → SGN[j]? ≠ some c) (hi : SGN[i]? = some c) : catOf c = (i : Int) + 1 := by
  have hl : i < 6 := (List.getElem?_eq_some_iff.1 hi).1
  have hc : c = 116 ∨ c = 101 ∨ c = 109 ∨ c = 115 ∨ c = 112 ∨ c = 100 := by
    have := List.mem_of_getElem? hi
    simpa [SGN] using this
  match i, hl with
  | 0, _ => injection hi with hi; subst hi; rfl
  | 1, _ => injection hi with hi; subst hi; rfl
  | 2, _ => injection hi with hi; subst hi; rfl
  | 3, _ => injection hi with hi; subst hi; rfl
  | 4, _ => injection hi with hi; subst hi; rfl
  | 5, _ => injection hi with hi; subst hi; rfl
theorem cat_none {c : UInt8} (h : ∀ j, j < 6 → SGN[j]? ≠ some c) : catOf c = 6 := by
  have g : ∀ j d, j < 6 → SGN[j]? = some d → c ≠ d := fun j d hj hd e => h j hj (by rw [hd, e])
  unfold catOf
  rw [if_neg (g 0 116 (by omega) rfl), if_neg (g 1 101 (by omega) rfl), if_neg (g 2 109 (by omega) rfl), if_neg (g 3 115 (by omega) rfl), if_neg (g 4 112 (by omega) rfl)]
theorem i64_ret {a b : Int} {w w' : World} (h : a = b) (hw : w = w') : Ending.returned (.int .i64 b) = .returned (.int .i64 a) ∧ w = w' := ⟨by rw [h], hw⟩
set_option maxHeartbeats 6400000 in
set_option maxRecDepth 100000 in
theorem cat_any (c : UInt8) (w : World) :
    Calls Tryz.prog 162 #[.int .u8 (c.toNat : Int)] w fun e w' => e = .returned (.int .i64 (catOf c)) ∧ w = w' := by
  go_enter Tryz.func162, Tryz.ntmps162
  go_wp2_with fail
  go_loopw [4] (fun i wr => ∃ I : Nat, i = .int .i64 I ∧ I ≤ 6 ∧ (∀ j, j < I → SGN[j]? ≠ some c) ∧ w = wr) (fun i _ => 6 - (intOf i).toNat)
  case atStart => exact ⟨0, rfl, by omega, fun j hj => absurd hj (Nat.not_lt_zero _), rfl⟩
  case round =>
    obtain ⟨I, rfl, hI, hn, rfl⟩ := hrel
    by_cases h6 : I = 6
    · subst h6
      have HE := Lib.hid (cat_none hn)
      clear hn
      go_wp2_with fail
      go_ret
      exact i64_ret HE.out rfl
    · obtain ⟨d, hd⟩ : ∃ d, SGN[I]? = some d := ⟨_, List.getElem?_eq_getElem (by show I < 6; omega)⟩
      have hlt : I < ({ data := #[116, 101, 109, 115, 112, 100] } : ByteArray).size := by show I < 6; omega
      have hval : ({ data := #[116, 101, 109, 115, 112, 100] } : ByteArray)[I]'hlt = d := (List.getElem?_eq_some_iff.1 hd).2
      have hu : I = 0 ∨ I = 1 ∨ I = 2 ∨ I = 3 ∨ I = 4 ∨ I = 5 := by omega
      by_cases hcd : d = c
      · subst hcd
        have HE := Lib.hid (cat_at hn hd)
        have hne : (((({ data := #[116, 101, 109, 115, 112, 100] } : ByteArray)[I]'hlt).toNat : Int) == (d.toNat : Int)) = true := u8_eq hval
        clear hn hd hval
        rcases hu with rfl | rfl | rfl | rfl | rfl | rfl
        all_goals
          go_wp2_with fail
          go_ret
          exact i64_ret HE.out rfl
      · have hs : ∀ j, j < I + 1 → SGN[j]? ≠ some c := fun j hj => by
          by_cases h : j = I
          · subst h; rw [hd]; exact fun e => hcd (by injection e)
          · exact hn j (by omega)
        have HS := Lib.hid hs
        have hne : (((({ data := #[116, 101, 109, 115, 112, 100] } : ByteArray)[I]'hlt).toNat : Int) == (c.toNat : Int)) = false := u8_ne (fun e => hcd (hval.symm.trans e))
        clear hn hd hs hcd hval
        rcases hu with rfl | rfl | rfl | rfl | rfl | rfl
        all_goals
          go_wp2_with fail
          go_roundw
          case rel => exact ⟨_, by go_num, by omega, HS.out, trivial⟩
          case measure => simp [intOf]
end Go.Proofs.YtklblhadhoppeaaGreatDoor
namespace Go.Proofs.YtklblhadhoppeaaGreatDoor
open Go.RowKit

theorem emp_eq (s : ByteArray) : (s.toList.isEmpty) = isEmp s := by
  unfold isEmp
  rw [Lib.toList_data, Lib.size_eq]
  cases s.data.toList <;> rfl
set_option maxHeartbeats 3200000 in
set_option maxRecDepth 100000 in
theorem word_any (s : ByteArray) (l : List UInt8) (hl : l = [] ∨ l = [110] ∨ l = [108]) (w : World) (hs : s.size ≤ 1000000000) :
    Calls Tryz.prog 129 #[.string s, .string (byt l)] w fun e w' => e = .returned (.bool (wordR B.nck B.long s l)) ∧ Below w.heap.size w w' := by
  have c1 := fun W => B.refCk s W hs
  have c2 := fun W => B.refLong s W hs
  rcases hl with rfl | rfl | rfl
  · have he := emp_eq s
    have HW : Hid (wordR B.nck B.long s [] = isEmp s) := Lib.hid rfl
    rw [HW.out]
    have f1 : ((byt []).toList == [110]) = false := by rw [Lib.toList_data]; rfl
    have f2 : ((byt []).toList == [108]) = false := by rw [Lib.toList_data]; rfl
    clear c1 c2
    go_enter Tryz.func129, Tryz.ntmps129
    go_wp2_with fail
    go_ret
    exact ⟨rfl, Below.refl _ _⟩
  · have HW : Hid (wordR B.nck B.long s [110] = B.nck s) := Lib.hid rfl
    rw [HW.out]
    have f1 : ((byt [110]).toList == [110]) = true := by rw [Lib.toList_data]; rfl
    go_enter Tryz.func129, Tryz.ntmps129
    go_wp2_with fail
    refine (c1 _).mono ?_
    rintro e w1 ⟨rfl, hb1⟩
    go_wp2_with fail
    go_ret
    exact ⟨rfl, hb1⟩
  · have HW : Hid (wordR B.nck B.long s [108] = B.long s) := Lib.hid rfl
    rw [HW.out]
    have f1 : ((byt [108]).toList == [110]) = false := by rw [Lib.toList_data]; rfl
    have f2 : ((byt [108]).toList == [108]) = true := by rw [Lib.toList_data]; rfl
    go_enter Tryz.func129, Tryz.ntmps129
    go_wp2_with fail
    refine (c2 _).mono ?_
    rintro e w1 ⟨rfl, hb1⟩
    go_wp2_with fail
    go_ret
    exact ⟨rfl, hb1⟩
end Go.Proofs.YtklblhadhoppeaaGreatDoor
namespace Go.Proofs.YtklblhadhoppeaaGreatDoor

theorem apart_iff : ∀ {l : List Inf}, apartA l = true ↔ ∀ (k i : Nat) (a b : Inf), k < i → l[k]? = some a → l[i]? = some b → a.a ≠ b.a
  | [] => ⟨fun _ k i a b _ h => by simp at h, fun _ => rfl⟩
  | x :: l => by
    unfold apartA
    rw [Bool.and_eq_true, List.all_eq_true, apart_iff (l := l)]
    refine ⟨fun ⟨h1, h2⟩ k i a b hk ha hb => ?_, fun h => ⟨fun j hj => ?_, fun k i a b hk ha hb => h (k + 1) (i + 1) a b (by omega) (by simpa using ha) (by simpa using hb)⟩⟩
    · cases i with
      | zero => omega
      | succ i =>
        have hb : l[i]? = some b := by simpa using hb
        cases k with
        | zero =>
          have : x = a := by simpa using ha
          subst this
          exact of_decide_eq_true (h1 b (List.mem_of_getElem? hb))
        | succ k => exact h2 k i a b (by omega) (by simpa using ha) hb
    · obtain ⟨i, hi⟩ := List.getElem?_of_mem hj
      exact decide_eq_true (h 0 (i + 1) x j (by omega) rfl (by simpa using hi))
/-- A word that stands in the table, or behind its first signs. -/
def goodW : List UInt8 → Bool
  | [] => true
  | c :: r => if c = 42 then !r.isEmpty else if c = 67 then true else if c = 65 then true else goodW r
theorem rows_good : ∀ r ∈ RWS, goodW r.ks = true ∧ r.ks.length ≤ 3 ∧ (r.nm = [] ∨ r.nm = [110] ∨ r.nm = [108]) ∧ (r.mr = [] ∨ r.mr = [110] ∨ r.mr = [108]) := by decide
theorem rows_num : RWS.length = 47 := by decide
def starOk (d : UInt8) (i : Inf) : Bool := i.is (catOf d) && !(decide (d = 105) && (decide (i.k = 74) || decide (i.k = 75)))
theorem seq_star (l : List Inf) (d : UInt8) (r : List UInt8) : seqOk l (42 :: d :: r) = l.all (starOk d) := by
  unfold seqOk
  rw [if_pos rfl]
  rfl
theorem all_no {l : List Inf} {P : Inf → Bool} {i : Nat} {j : Inf} (hi : l[i]? = some j) (h : P j = false) : l.all P = false := by
  rw [List.all_eq_false]
  exact ⟨j, List.mem_of_getElem? hi, by rw [h]; decide⟩
theorem all_yes {l : List Inf} {P : Inf → Bool} (h : ∀ (i : Nat) (j : Inf), l[i]? = some j → P j = true) : l.all P = true := by
  rw [List.all_eq_true]
  intro j hj
  obtain ⟨i, hi⟩ := List.getElem?_of_mem hj
  exact h i j hi
theorem seq_A (l : List Inf) (r : List UInt8) : seqOk l (65 :: r) = (decide (0 < l.length) && l.all fun i => i.is 9) := by
  cases l <;> rfl
theorem seq_C (l : List Inf) (r : List UInt8) : seqOk l (67 :: r) = (decide (0 < l.length) && (l.all fun i => i.is 8) && apartA l) := by
  cases l <;> rfl
theorem seq_C_no1 {l : List Inf} {r : List UInt8} {i : Nat} {j : Inf} (hi : l[i]? = some j) (h : j.is 8 = false) : seqOk l (67 :: r) = false := by
  rw [seq_C, all_no hi h, Bool.and_false, Bool.false_and]
theorem seq_C_no2 {l : List Inf} {r : List UInt8} {i k : Nat} {a b : Inf} (hk : k < i) (ha : l[k]? = some a) (hb : l[i]? = some b) (h : a.a = b.a) : seqOk l (67 :: r) = false := by
  rw [seq_C]
  have : apartA l = false := by
    cases hp : apartA l with
    | false => rfl
    | true => exact absurd h (apart_iff.1 hp k i a b hk ha hb)
  rw [this, Bool.and_false]
theorem seq_C_yes {l : List Inf} {r : List UInt8} (h : ∀ (i : Nat) (j : Inf), l[i]? = some j → j.is 8 = true ∧ ∀ (k : Nat) (a : Inf), k < i → l[k]? = some a → a.a ≠ j.a) : seqOk l (67 :: r) = decide (0 < l.length) := by
  rw [seq_C, all_yes fun i j hi => (h i j hi).1, apart_iff.2 fun k i a b hk ha hb => (h i b hb).2 k a hk ha, Bool.and_true, Bool.and_true]
theorem seq_A_no {l : List Inf} {r : List UInt8} {i : Nat} {j : Inf} (hi : l[i]? = some j) (h : j.is 9 = false) : seqOk l (65 :: r) = false := by
  rw [seq_A, all_no hi h, Bool.and_false]
theorem seq_A_yes {l : List Inf} {r : List UInt8} (h : ∀ (i : Nat) (j : Inf), l[i]? = some j → j.is 9 = true) : seqOk l (65 :: r) = decide (0 < l.length) := by
  rw [seq_A, all_yes fun i j hi => h i j hi, Bool.and_true]
theorem seq_sign {l : List Inf} {c : UInt8} {r : List UInt8} (h1 : c ≠ 42) (h2 : c ≠ 67) (h3 : c ≠ 65) : seqOk l (c :: r) = (match l with | [] => false | i :: t => i.is (catOf c) && seqOk t r) := by
  conv => lhs; unfold seqOk
  rw [if_neg h1, if_neg h2, if_neg h3]
  all_goals (cases l <;> rfl)
/-- All texts of a row of trees are short enough to be asked. -/
def okS : Fr → Prop
  | .nil => True
  | .cons x k r => x.a.size ≤ 1000000000 ∧ x.m.size ≤ 1000000000 ∧ okS k ∧ okS r
def okST (t : Tr) : Prop := t.1.a.size ≤ 1000000000 ∧ t.1.m.size ≤ 1000000000 ∧ okS t.2
theorem okS_get : ∀ {f : Fr} {i : Nat} {t : Tr}, okS f → f.get i = some t → okST t
  | .nil, _, _, _, h => by cases h
  | .cons x k r, 0, t, h, hg => by injection hg with hg; subst hg; exact ⟨h.1, h.2.1, h.2.2.1⟩
  | .cons x k r, i + 1, t, h, hg => okS_get h.2.2.2 hg
end Go.Proofs.YtklblhadhoppeaaGreatDoor
namespace Go.Proofs.YtklblhadhoppeaaGreatDoor
open Go.RowKit

/-! ### plain: the rows of the table -/
section
variable {nk lg : ByteArray → Bool}
def hdB (nk lg : ByteArray → Bool) (x : Nod) (nm mr : List UInt8) (fr upto : Int) : Bool := wordR nk lg x.a nm && wordR nk lg x.m mr && decide (fr ≤ x.n) && decide (x.n ≤ upto)
def rowsAt (c k : Int) : List Rw := RWS.filter fun r => decide (r.cat = c) && decide (r.kind = k)
theorem isX_at (x : Nod) (l : List Inf) (c : Int) : isX nk lg x l c = (rowsAt c x.k).any fun r => hdB nk lg x r.nm r.mr r.fr r.to && seqOk l r.ks := by
  unfold isX rowsAt
  rw [List.any_filter]
  congr 1
  funext r
  unfold fitR hdB
  cases decide (r.cat = c) <;> cases decide (r.kind = x.k) <;> cases wordR nk lg x.a r.nm <;> cases wordR nk lg x.m r.mr <;> cases decide (r.fr ≤ x.n) <;> cases decide (x.n ≤ r.to) <;> rfl
theorem isX_one {x : Nod} {l : List Inf} {c k : Int} {nm mr ks : List UInt8} {fr upto : Int} (hk : x.k = k) (h : rowsAt c k = [⟨c, k, nm, mr, fr, upto, ks⟩]) : isX nk lg x l c = (hdB nk lg x nm mr fr upto && seqOk l ks) := by
  rw [isX_at, hk, h]
  simp only [List.any_cons, List.any_nil, Bool.or_false]
theorem isX_none {x : Nod} {l : List Inf} {c : Int} (h : ∀ r ∈ RWS, r.cat = c → r.kind ≠ x.k) : isX nk lg x l c = false := by
  rw [isX_at]
  unfold rowsAt
  rw [List.any_eq_false]
  intro r hr
  rw [List.mem_filter] at hr
  simp only [Bool.and_eq_true, decide_eq_true_eq] at hr
  exact absurd hr.2.2 (h r hr.1 hr.2.1)
def numB (x : Nod) (a b : Int) : Bool := decide (a ≤ x.n) && decide (x.n ≤ b) && isEmp x.a && isEmp x.m
def texB (x : Nod) (A M : ByteArray → Bool) : Bool := decide (x.n = 0) && A x.a && M x.m
theorem hd_num (x : Nod) (fr upto : Int) : hdB nk lg x [] [] fr upto = numB x fr upto := by
  unfold hdB numB wordR
  simp only [List.nil_eq, reduceCtorEq, if_false]
  cases isEmp x.a <;> cases isEmp x.m <;> cases decide (fr ≤ x.n) <;> cases decide (x.n ≤ upto) <;> rfl
theorem zero_both (n : Int) : (decide (0 ≤ n) && decide (n ≤ 0)) = decide (n = 0) := by
  by_cases h : n = 0
  · subst h; rfl
  · rw [decide_eq_false h]
    by_cases h1 : 0 ≤ n
    · rw [decide_eq_false (by omega : ¬ n ≤ 0), Bool.and_false]
    · rw [decide_eq_false h1]; rfl
theorem hd_tex {x : Nod} {nm mr : List UInt8} {A M : ByteArray → Bool} (ha : ∀ s, wordR nk lg s nm = A s) (hm : ∀ s, wordR nk lg s mr = M s) : hdB nk lg x nm mr 0 0 = texB x A M := by
  unfold hdB texB
  rw [ha, hm, ← zero_both]
  cases A x.a <;> cases M x.m <;> cases decide (0 ≤ x.n) <;> cases decide (x.n ≤ 0) <;> rfl
end
/-! ### what the program's calls tell -/
def TelB (b : Bool) (w : World) (e : Ending) (w' : World) : Prop := e = .returned (.bool b) ∧ Up w w'
theorem tel_ret {a b : Bool} {w w' : World} (h : a = b) (u : Up w w') : TelB a w (.returned (.bool b)) w' := ⟨by rw [h], u⟩
set_option maxHeartbeats 3200000 in
set_option maxRecDepth 100000 in
theorem number_any (x : Nod) (f : Fr) (a b : Int) (w : World) (v : Value) (hv : HasT w v (some (x, f))) :
    Calls Tryz.prog 144 #[v, .int .i64 a, .int .i64 b] w (TelB (numB x a b) w) := by
  obtain ⟨q, p, A, c, rfl, hq, c0, c1, c2, c3, c4, hc, hkid⟩ := InT.open hv
  have e1 := emp_eq x.a
  have e2 := emp_eq x.m
  have HB : Hid (numB x a b = (decide (a ≤ x.n) && decide (x.n ≤ b) && isEmp x.a && isEmp x.m)) := Lib.hid rfl
  rw [HB.out]
  obtain ⟨d1, h1⟩ : ∃ d, decide (a ≤ x.n) = d := ⟨_, rfl⟩
  obtain ⟨d2, h2⟩ : ∃ d, decide (x.n ≤ b) = d := ⟨_, rfl⟩
  obtain ⟨d3, h3⟩ : ∃ d, isEmp x.a = d := ⟨_, rfl⟩
  obtain ⟨d4, h4⟩ : ∃ d, isEmp x.m = d := ⟨_, rfl⟩
  rw [h1, h2, h3, h4]
  rw [h3] at e1
  rw [h4] at e2
  clear hkid hc hq h3 h4 hv HB
  cases d1
  · have g1 : ¬ a ≤ x.n := of_decide_eq_false h1
    go_enter Tryz.func144, Tryz.ntmps144
    go_wp2_with fail
    go_ret
    exact tel_ret rfl (Up.refl _)
  · have g1 : a ≤ x.n := of_decide_eq_true h1
    cases d2
    · have g2 : ¬ x.n ≤ b := of_decide_eq_false h2
      go_enter Tryz.func144, Tryz.ntmps144
      go_wp2_with fail
      go_ret
      exact tel_ret rfl (Up.refl _)
    · have g2 : x.n ≤ b := of_decide_eq_true h2
      cases d3
      · go_enter Tryz.func144, Tryz.ntmps144
        go_wp2_with fail
        go_ret
        exact tel_ret rfl (Up.refl _)
      · cases d4
        all_goals
          go_enter Tryz.func144, Tryz.ntmps144
          go_wp2_with fail
          go_ret
          exact tel_ret rfl (Up.refl _)
set_option maxHeartbeats 1600000 in
set_option maxRecDepth 100000 in
theorem plain_any (x : Nod) (f : Fr) (w : World) (v : Value) (hv : HasT w v (some (x, f))) :
    Calls Tryz.prog 107 #[v] w (TelB (numB x 0 0) w) := by
  have cN := number_any x f 0 0 w v hv
  obtain ⟨b, hb⟩ : ∃ b, numB x 0 0 = b := ⟨_, rfl⟩
  rw [hb] at cN ⊢
  clear hb hv
  go_enter Tryz.func107, Tryz.ntmps107
  go_wp2_with fail
  refine cN.mono ?_
  rintro e w1 ⟨rfl, u1⟩
  go_wp2_with fail
  go_ret
  exact tel_ret rfl u1
set_option maxHeartbeats 1600000 in
set_option maxRecDepth 100000 in
theorem empty_any (s : ByteArray) (w : World) : Calls Tryz.prog 146 #[.string s] w (TelB (isEmp s) w) := by
  have e1 := emp_eq s
  obtain ⟨b, hb⟩ : ∃ b, isEmp s = b := ⟨_, rfl⟩
  rw [hb] at e1 ⊢
  go_enter Tryz.func146, Tryz.ntmps146
  go_wp2_with fail
  go_ret
  exact tel_ret rfl (Up.refl _)
/-- A function of the program's own text. -/
def Ent (k : FuncId) : Prop := ∀ (args : Array Value) (w : World), (callFunc k args).run Tryz.prog w = .ok (.enter k args) w
theorem ent_check : Ent 119 := fun _ _ => by kernel_rfl
theorem ent_long : Ent 43 := fun _ _ => by kernel_rfl
theorem ent_empty : Ent 146 := fun _ _ => by kernel_rfl
set_option maxHeartbeats 3200000 in
set_option maxRecDepth 100000 in
theorem texts_any (x : Nod) (f : Fr) (kf mf : FuncId) (F M : ByteArray → Bool) (w : World) (v : Value) (hv : HasT w v (some (x, f))) (ek : Ent kf) (em : Ent mf)
    (ck : ∀ w', Up w w' → Calls Tryz.prog kf #[.string x.a] w' (TelB (F x.a) w')) (cm : ∀ w', Up w w' → Calls Tryz.prog mf #[.string x.m] w' (TelB (M x.m) w')) :
    Calls Tryz.prog 145 #[v, .func (.func kf) #[] #[], .func (.func mf) #[] #[]] w (TelB (texB x F M) w) := by
  obtain ⟨q, p, A, c, rfl, hq, c0, c1, c2, c3, c4, hc, hkid⟩ := InT.open hv
  have HB : Hid (texB x F M = (decide (x.n = 0) && F x.a && M x.m)) := Lib.hid rfl
  rw [HB.out]
  obtain ⟨d1, h1⟩ : ∃ d, decide (x.n = 0) = d := ⟨_, rfl⟩
  obtain ⟨d2, h2⟩ : ∃ d, F x.a = d := ⟨_, rfl⟩
  obtain ⟨d3, h3⟩ : ∃ d, M x.m = d := ⟨_, rfl⟩
  have c3' : ∀ u : Upw w, u.w.cell? ⟨q, p + 3, none⟩ = some (.string x.m) := Upw.cell c3
  rw [h1, h2, h3]
  rw [h2] at ck
  rw [h3] at cm
  clear hkid hc hq h2 h3 hv HB
  cases d1
  · have g1 : ¬ x.n = 0 := of_decide_eq_false h1
    go_enter Tryz.func145, Tryz.ntmps145
    go_wp2_with fail
    go_ret
    exact tel_ret rfl (Up.refl _)
  · have g1 : x.n = 0 := of_decide_eq_true h1
    cases d2
    · go_enter Tryz.func145, Tryz.ntmps145
      go_wp2_with fail
      rw [ek, Oper.upon_enter]
      refine (ck _ (Up.refl _)).mono ?_
      rintro e w1 ⟨rfl, u1⟩
      go_wp2_with fail
      go_ret
      exact tel_ret rfl u1
    · go_enter Tryz.func145, Tryz.ntmps145
      go_wp2_with fail
      rw [ek, Oper.upon_enter]
      refine (ck _ (Up.refl _)).mono ?_
      rintro e w1 ⟨rfl, u1⟩
      have c3'' := c3' ⟨w1, u1⟩
      simp only at c3''
      go_wp2_with fail
      rw [em, Oper.upon_enter]
      refine (cm _ u1).mono ?_
      rintro e w2 ⟨rfl, u2⟩
      go_wp2_with fail
      go_ret
      exact tel_ret (by cases d3 <;> rfl) (u1.trans u2)
theorem up_tel {b : Bool} {w : World} {P : Program} {k : FuncId} {args : Array Value} (h : Calls P k args w (B.NmPost b w)) : Calls P k args w (TelB b w) := h.mono fun _ _ h => h
theorem named_any (x : Nod) (f : Fr) (w : World) (v : Value) (hv : HasT w v (some (x, f))) (ha : x.a.size ≤ 1000000000) :
    Calls Tryz.prog 110 #[v] w (TelB (texB x B.nck isEmp) w) := by
  have cT := texts_any x f 119 146 B.nck isEmp w v hv ent_check ent_empty (fun w' _ => up_tel (B.check_any _ w' ha)) (fun w' _ => empty_any _ w')
  obtain ⟨b, hb⟩ : ∃ b, texB x B.nck isEmp = b := ⟨_, rfl⟩
  rw [hb] at cT ⊢
  clear hb hv
  go_enter Tryz.func110, Tryz.ntmps110
  go_wp2_with fail
  refine cT.mono ?_
  rintro e w1 ⟨rfl, u1⟩
  go_wp2_with fail
  go_ret
  exact tel_ret rfl u1
theorem longd_any (x : Nod) (f : Fr) (w : World) (v : Value) (hv : HasT w v (some (x, f))) (ha : x.a.size ≤ 1000000000) (hx : B.Nx w) :
    Calls Tryz.prog 109 #[v] w (TelB (texB x B.long isEmp) w) := by
  have cT := texts_any x f 43 146 B.long isEmp w v hv ent_long ent_empty (fun w' u => up_tel (B.long_any _ w' ha (B.Nx.below hx u))) (fun w' _ => empty_any _ w')
  obtain ⟨b, hb⟩ : ∃ b, texB x B.long isEmp = b := ⟨_, rfl⟩
  rw [hb] at cT ⊢
  clear hb hv
  go_enter Tryz.func109, Tryz.ntmps109
  go_wp2_with fail
  refine cT.mono ?_
  rintro e w1 ⟨rfl, u1⟩
  go_wp2_with fail
  go_ret
  exact tel_ret rfl u1
end Go.Proofs.YtklblhadhoppeaaGreatDoor
namespace Go.Proofs.YtklblhadhoppeaaGreatDoor
open Go.RowKit

theorem PtF.kid {w : World} {S : Nat → Prop} : ∀ {vs : List Value} {f : Fr} {m : Nat} {t : Tr}, PtF w S vs f → f.get m = some t → ∃ v, vs[m]? = some v ∧ InT w S v t
  | [], .nil, m, t, _, hg => by cases m <;> cases hg
  | v :: vs, .cons x k r, 0, t, h, hg => by injection hg with hg; subst hg; exact ⟨v, rfl, h.1⟩
  | v :: vs, .cons x k r, m + 1, t, h, hg => PtF.kid (vs := vs) (f := r) (m := m) h.2 hg
/-- Where function values lie. -/
def Fns (w : World) (X : Option Nat) (A : Option Addr) (fs : List (FuncId × Array Value)) : Prop :=
  ∀ (j : Nat) k cap, fs[j]? = some (k, cap) → ∃ g o, A = some ⟨g, o, none⟩ ∧ X ≠ some g ∧ w.cell? ⟨g, o + j, none⟩ = some (.func (.func k) #[] cap)
def allB (n : Nat) (bs : Nat → Bool) : Bool := (List.range n).all bs
theorem allB_yes {n : Nat} {bs : Nat → Bool} (h : ∀ j, j < n → bs j = true) : allB n bs = true := by
  unfold allB
  rw [List.all_eq_true]
  intro j hj
  exact h j (List.mem_range.1 hj)
theorem allB_no {n j : Nat} {bs : Nat → Bool} (hj : j < n) (h : bs j = false) : allB n bs = false := by
  unfold allB
  rw [List.all_eq_false]
  exact ⟨j, List.mem_range.2 hj, by rw [h]; exact Bool.false_ne_true⟩
/-- It tells b; all that was there is as it was, but one block. -/
def TelX (b : Bool) (X : Option Nat) (w : World) (e : Ending) (w' : World) : Prop := e = .returned (.bool b) ∧ w.grownBy w' X
theorem telx_ret {a b : Bool} {X : Option Nat} {w w' : World} (h : a = b) (u : w.grownBy w' X) : TelX a X w (.returned (.bool b)) w' := ⟨by rw [h], u⟩
theorem gb_cellX {w w' : World} {X : Option Nat} (h : w.grownBy w' X) {p : Addr} {v : Value} (hc : w.cell? p = some v) (hne : X ≠ some p.block) : w'.cell? p = some v := h.cell hc (Ne.symm hne)
theorem up_gb {W w w' : World} {X : Option Nat} (hu : Up W w) (h : w.grownBy w' X) (hX : ∀ m, X = some m → W.heap.size ≤ m) : Up W w' := hu.grown h hu.size fun g hg => hX g hg
set_option maxHeartbeats 3200000 in
set_option maxRecDepth 100000 in
theorem pkids_any (W w0 : World) (v : Value) (x : Nod) (f : Fr) (hv : HasT W v (some (x, f))) (hu : Up W w0) (hf : f.len ≤ 1000000)
    (A : Option Addr) (c : Nat) (fs : List (FuncId × Array Value)) (hfl : fs.length ≤ 1000000) (X : Option Nat) (hA : Fns w0 X A fs) (hX : ∀ m, X = some m → W.heap.size ≤ m)
    (bs : Nat → Bool) (J : Nat → World → Prop) (hJ : J 0 w0)
    (hc : ∀ (i : Nat) (t : Tr) (kv : Value) (w : World) k cap, f.get i = some t → fs[i]? = some (k, cap) → HasT W kv (some t) → Up W w → J i w →
      Ent k ∧ Calls Tryz.prog k (#[kv] ++ cap) w fun e w' => TelX (bs i) X w e w' ∧ (bs i = true → J (i + 1) w')) :
    Calls Tryz.prog 108 #[v, .slice A fs.length c] w0 (TelX (decide (f.len = fs.length) && allB fs.length bs) X w0) := by
  obtain ⟨q, p, A', c', rfl, hq, c0, c1, c2, c3, c4, hcc, hkid⟩ := InT.open hv
  obtain ⟨us, hus, hcells⟩ := Kid.vals hkid HasT.bel
  have hlen := hus.len
  have HU := Lib.hid hu
  have HA := Lib.hid hA
  have HX := Lib.hid hX
  have HC := Lib.hid hc
  have HUS := Lib.hid hus
  have HCE := Lib.hid hcells
  have c4' := hu.cell c4
  have C4 := Lib.hid c4
  obtain ⟨M, hM⟩ : ∃ M, f.len = M := ⟨_, rfl⟩
  obtain ⟨n, hn⟩ : ∃ n, fs.length = n := ⟨_, rfl⟩
  rw [hM] at hf hlen hcc c4' ⊢
  rw [hn] at hfl ⊢
  have HM := Lib.hid hM
  have HN := Lib.hid hn
  clear hM hn hc hA hX hu hkid hus hcells c0 c1 c2 c3 c4 hv
  by_cases hmn : M = n
  · subst hmn
    have HB : Hid ((decide (M = M) && allB M bs) = allB M bs) := Lib.hid (by rw [decide_eq_true rfl]; rfl)
    rw [HB.out]
    go_enter Tryz.func108, Tryz.ntmps108
    go_wp2_with fail
    clear c4'
    go_loopw [5, 6, 17] (fun _ _ i wr => ∃ k : Nat, k ≤ M ∧ i = .int .i64 k ∧ w0.grownBy wr X ∧ J k wr ∧ (∀ j : Nat, j < k → bs j = true)) (fun _ _ i _ => M - (intOf i).toNat)
    case atStart => exact ⟨0, Nat.zero_le _, rfl, gb_refl _ _, hJ, fun j hj => absurd hj (Nat.not_lt_zero _)⟩
    case round =>
      obtain ⟨k, hk, rfl, hg, hj, hall⟩ := hrel
      have HG := Lib.hid hg
      have HJ := Lib.hid hj
      have HALL := Lib.hid hall
      clear hg hj hall hJ
      by_cases hlt : k < M
      · obtain ⟨⟨kf, cap⟩, hfs⟩ : ∃ y, fs[k]? = some y := ⟨_, List.getElem?_eq_getElem (by rw [HN.out]; exact hlt)⟩
        obtain ⟨g, o, rfl, hXg, hcf0⟩ := HA.out k kf cap hfs
        have hcf := gb_cellX HG.out hcf0 hXg
        obtain ⟨t, ht⟩ := Fr.get_some (f := f) (i := k) (by rw [HM.out]; exact hlt)
        obtain ⟨b, o', rfl, hb, hcs⟩ := HCE.out (by rw [HM.out]; omega)
        obtain ⟨kv, hkv, hint⟩ := PtF.kid HUS.out ht
        have uw := up_gb HU.out HG.out HX.out
        have hck := uw.cell (hcs k kv hkv)
        have hc4 := uw.cell C4.out
        rw [HM.out] at hc4
        obtain ⟨ek, cK⟩ := HC.out k t kv wr kf cap ht hfs hint uw HJ.out
        have UW := Lib.hid uw
        clear hcf0 hkv hint hcs hfs ht uw
        obtain ⟨d, hd⟩ : ∃ d, bs k = d := ⟨_, rfl⟩
        rw [hd] at cK
        have HD := Lib.hid hd
        clear hd
        cases d
        · go_wp2_with fail
          rw [ek, Oper.upon_enter]
          refine cK.mono ?_
          rintro e w2 ⟨⟨rfl, g2⟩, -⟩
          go_wp2_with fail
          go_ret
          exact telx_ret (allB_no hlt HD.out) (gb_trans HG.out g2)
        · go_wp2_with fail
          rw [ek, Oper.upon_enter]
          refine cK.mono ?_
          rintro e w2 ⟨⟨rfl, g2⟩, hj2⟩
          go_wp2_with fail
          go_roundw
          case rel => exact ⟨k + 1, by omega, by go_num, gb_trans HG.out g2, hj2 (by simp), fun j hj => by
            rcases Nat.lt_succ_iff_lt_or_eq.1 hj with h | h
            · exact HALL.out j h
            · rw [h]; exact HD.out⟩
          case measure => simp [intOf]; omega
      · have hkm : k = M := by omega
        subst hkm
        go_wp2_with fail
        go_ret
        exact telx_ret (allB_yes HALL.out) HG.out
  · have HB : Hid ((decide (M = n) && allB n bs) = false) := Lib.hid (by rw [decide_eq_false hmn]; rfl)
    have hmn' : ¬ (M : Int) = (n : Int) := by omega
    rw [HB.out]
    go_enter Tryz.func108, Tryz.ntmps108
    go_wp2_with fail
    go_ret
    exact telx_ret rfl (gb_refl _ _)
end Go.Proofs.YtklblhadhoppeaaGreatDoor
namespace Go.Proofs.YtklblhadhoppeaaGreatDoor
open Go.RowKit

/-- The writer's block, and its row of texts. -/
def Wr (bw : Nat) (w : World) (ts : List ByteArray) : Prop := ∃ v, w.heap[bw]? = some (.cells #[v] 91 (0, 0)) ∧ w.ownsRow (bw + 1) 9 1 v ts.length (ts.map Value.string)
/-- What a call that writes leaves. -/
def WrP (W : World) (bw : Nat) (ts : List ByteArray) (e : Ending) (w' : World) : Prop := (∃ u, e = .returned u) ∧ Up W w' ∧ Wr bw w' ts
theorem Wr.up {bw : Nat} {w w' : World} {ts : List ByteArray} (h : Wr bw w ts) (u : Up w w') : Wr bw w' ts := by
  obtain ⟨v, h1, h2⟩ := h
  exact ⟨v, u.row h1, own_gs h2 (Gs.of (S := fun _ => False) u) fun _ h => h.elim⟩
set_option maxHeartbeats 6400000 in
set_option maxRecDepth 100000 in
theorem put_any (W : World) (bw : Nat) (hB : W.heap.size ≤ bw) (w : World) (hu : Up W w) (ts news : List ByteArray) (hw : Wr bw w ts) (hts : ts.length ≤ 1000000) (hn : news.length ≤ 10) (hn0 : 0 < news.length) (H : Nat) (hc : ∀ (j : Nat) u, (news.map Value.string)[j]? = some u → w.cell? ⟨H, 0 + j, none⟩ = some u) :
    Calls Tryz.prog 82 #[.pointer (some ⟨bw, 0, none⟩), .slice (some ⟨H, 0, none⟩) news.length news.length] w (WrP W bw (ts ++ news)) := by
  obtain ⟨v, h1, h2⟩ := hw
  have c0 : w.cell? ⟨bw, 0, none⟩ = some v := cell_of_row w bw 0 _ _ _ h1
  have hBw := heap_lt h1
  have HROW := Lib.hid h1
  have HOWN := Lib.hid h2
  have HU := Lib.hid hu
  have HC : Hid (∀ (j : Nat) u, (news.map Value.string)[j]? = some u → w.cell? ((⟨H, 0, none⟩ : Addr).add j) = some u) := Lib.hid fun j u h => by
    have e1 : (⟨H, 0, none⟩ : Addr).add j = ⟨H, 0 + j, none⟩ := by unfold Addr.add; split <;> simp_all
    rw [e1]
    exact hc j u h
  obtain ⟨i0, hi0, hz0, hz1, hz2⟩ := info_parts B.infoStr
  obtain ⟨n, hnn⟩ : ∃ n, ts.length = n := ⟨_, rfl⟩
  obtain ⟨m, hmm⟩ : ∃ m, news.length = m := ⟨_, rfl⟩
  rw [hnn] at hts HOWN
  rw [hmm] at hn hn0 ⊢
  have HN := Lib.hid hnn
  have HM := Lib.hid hmm
  clear h1 h2 hu hc hnn hmm
  go_enter Tryz.func82, Tryz.ntmps82
  go_wp2_with (at_builtin; refine wpList_append_lies _ rfl _ _ 89 rfl (bw + 1) 9 i0 _ 1 16 Tryz.underlying89 hi0 hz0 hz1 hz2 rfl (by omega) v n (ts.map Value.string) rfl HOWN.out ⟨H, 0, none⟩ m m (news.map Value.string) rfl (by rw [List.length_map, HM.out, Nat.mul_one]) HC.out (by intro u hu; obtain ⟨s, _, rfl⟩ := List.mem_map.1 hu; rfl) (by omega) (by unfold maxLen; omega) (by omega) (by omega) w.heap.size rfl ?_; intro g6 cap6 w6 ho6 hg6 hat6 hlt6; have r6 : w6.heap[bw]? = some (.cells #[v] 91 (0, 0)) := (hg6.block bw hBw (fun e => by have := (World.ownsRow.lt HOWN.out bw e.symm).1; omega)).trans HROW.out; have c6 := cell_of_row w6 bw 0 _ _ _ r6; have f6 := frozen_of_row w6 bw 0 _ _ r6; have hb6 := heap_lt r6; have HO6 := Lib.hid ho6; have HG6 := Lib.hid hg6; have HAT := Lib.hid hat6; have R6 := Lib.hid r6; clear ho6 hg6 hat6 r6)
  go_end0
  have hzz := HU.out.size
  refine ⟨⟨_, rfl⟩, ?_, .slice (some ⟨g6, 0, none⟩) (n + m) cap6, ?_, ?_⟩
  · exact (up_gb HU.out HG6.out fun g e => by have := (World.ownsRow.lt HOWN.out g e).1; omega).setCell (p := ⟨bw, 0, none⟩) hB _
  · exact Boxed.set _ R6.out
  · have e : (ts ++ news).map Value.string = ts.map Value.string ++ news.map Value.string := List.map_append
    rw [e, List.length_append, HN.out, HM.out]
    refine own_setCell HO6.out _ _ fun g e => ?_
    injection e with e
    have e : g6 = g := e
    subst e
    rcases HAT.out with h | h
    · have := (World.ownsRow.lt HOWN.out g6 h).1; simp only; omega
    · simp only; omega
end Go.Proofs.YtklblhadhoppeaaGreatDoor
namespace Go.Proofs.YtklblhadhoppeaaGreatDoor
open Go.RowKit

def txt (l : List Tk) : List ByteArray := l.map (·.s)
theorem put_lit {W : World} {bw : Nat} {w : World} {ts : List ByteArray} (news : List ByteArray) (hB : W.heap.size ≤ bw) (hu : Up W w) (hw : Wr bw w ts) (hts : ts.length ≤ 1000000) (hn : news.length ≤ 10) (hn0 : 0 < news.length) :
    Calls Tryz.prog 82 #[.pointer (some ⟨bw, 0, none⟩), .slice (some ⟨w.heap.size, 0, none⟩) news.length news.length] (w.alloc (.cells (news.map Value.string).toArray 9)) (WrP W bw (ts ++ news)) :=
  put_any W bw hB _ (hu.alloc _) ts news (hw.up ((Up.refl w).alloc _)) hts hn hn0 w.heap.size fun j u h => by
    rw [Nat.zero_add, cell_of_row _ w.heap.size j _ _ _ (heap_alloc_new w _), List.getElem?_toArray]
    exact h
/-- The tightest rule that makes such a type. -/
def ruT (k : Int) : Int := if k = 5 then 0 else if k = 6 then 1 else 2
set_option maxHeartbeats 1600000 in
set_option maxRecDepth 100000 in
theorem ruleOf_any {W w : World} {v : Value} {x : Nod} {f : Fr} (hv : HasT W v (some (x, f))) (hu : Up W w) : Calls Tryz.prog 81 #[v] w fun e w' => e = .returned (.int .i64 (ruT x.k)) ∧ Up w w' := by
  obtain ⟨q, p, A, c, rfl, hq, c0, -⟩ := InT.open hv
  have k0 := hu.cell c0
  clear c0 hv
  by_cases h5 : x.k = 5
  · have HE : Hid (ruT x.k = 0) := Lib.hid (if_pos h5)
    rw [HE.out]
    rw [h5] at k0
    go_enter Tryz.func81, Tryz.ntmps81
    go_wp2_with fail
    go_ret
    exact ⟨rfl, Up.refl _⟩
  · by_cases h6 : x.k = 6
    · have HE : Hid (ruT x.k = 1) := Lib.hid (by unfold ruT; rw [if_neg h5, if_pos h6])
      rw [HE.out]
      rw [h6] at k0
      go_enter Tryz.func81, Tryz.ntmps81
      go_wp2_with fail
      go_ret
      exact ⟨rfl, Up.refl _⟩
    · have HE : Hid (ruT x.k = 2) := Lib.hid (by unfold ruT; rw [if_neg h5, if_neg h6])
      rw [HE.out]
      go_enter Tryz.func81, Tryz.ntmps81
      go_wp2_with fail
      go_ret
      exact ⟨rfl, Up.refl _⟩
set_option maxHeartbeats 6400000 in
set_option maxRecDepth 100000 in
theorem writePlain_any {W : World} {bw : Nat} {w : World} {ts : List ByteArray} (k : Nat) (hk : k < 3) (hB : W.heap.size ≤ bw) (hu : Up W w) (hw : Wr bw w ts) (hts : ts.length ≤ 1000000) (hp : Pl W) :
    Calls Tryz.prog 84 #[.pointer (some ⟨bw, 0, none⟩), .int .i64 ((k + 1 : Nat) : Int)] w (WrP W bw (ts ++ [plS k])) := by
  obtain ⟨tp, zp, hpl⟩ := hp.up hu
  have HW := Lib.hid hw
  have HU := Lib.hid hu
  obtain ⟨kk, hkk⟩ : ∃ kk, ((k + 1 : Nat) : Int) = kk := ⟨_, rfl⟩
  have HKK := Lib.hid hkk
  rw [hkk]
  clear hw hu hkk
  go_enter Tryz.func84, Tryz.ntmps84
  go_wp2_with (refine wpList_load_row rfl 161 (.global 0) rfl 0 rfl tp plV zp _ hpl Tryz.underlying161 rfl (by kernel_rfl) ?_)
  generalize hA : plV = AR
  have HAR := Lib.hid hA
  clear hA hpl
  go_loopw [7] (fun x wr => ∃ j : Nat, j ≤ 3 ∧ x = .int .i64 (j : Int) ∧ Up W wr ∧ Wr bw wr (if k < j then ts ++ [plS k] else ts)) (fun x _ => 4 - (intOf x).toNat)
  case atStart => exact ⟨0, Nat.zero_le _, rfl, HU.out, by rw [if_neg (by omega)]; exact HW.out⟩
  case round =>
    obtain ⟨j, hj, rfl, hur, hwr⟩ := hrel
    have HUR := Lib.hid hur
    have HWR := Lib.hid hwr
    clear hur hwr
    by_cases hlt : j < 3
    · have hix : ∀ W, (Instr.index 161 (.agg AR) (.int .i64 (j : Int))).run Tryz.prog W = .ok (.agg #[.string (plS j), .int .i64 ((j + 1 : Nat) : Int)]) W := fun W => by rw [← HAR.out]; exact pl_idx j hlt W
      have hw1 : IntKind.i64.wrap ((j : Int) + 1) = ((j + 1 : Nat) : Int) := by rw [IntKind.wrap_i64]; omega
      have hjz : (j : Int) < 3 := by omega
      obtain ⟨X, hX⟩ : ∃ X, plS j = X := ⟨_, rfl⟩
      obtain ⟨ka, hka⟩ : ∃ ka, ((j + 1 : Nat) : Int) = ka := ⟨_, rfl⟩
      rw [hX, hka] at hix
      rw [hka] at hw1
      have HX := Lib.hid hX
      have HKA := Lib.hid hka
      obtain ⟨Wr1, hWr1⟩ : ∃ Wr1, wr.alloc (.cells #[.string X, .int .i64 ka] 160) = Wr1 := ⟨_, rfl⟩
      have ur : Up wr Wr1 := by rw [← hWr1]; exact (Up.refl wr).alloc _
      have UR := Lib.hid ur
      have HW1 := Lib.hid hWr1
      by_cases he : ka = kk
      · have hjk : j = k := by have := HKK.out; omega
        have hw2 : Wr bw wr ts := by have h := HWR.out; rwa [if_neg (by omega)] at h
        have cP : Calls Tryz.prog 82 #[.pointer (some ⟨bw, 0, none⟩), .slice (some ⟨Wr1.heap.size, 0, none⟩) 1 1] (Wr1.alloc (.cells #[.string X] 9)) (WrP W bw (ts ++ [X])) := put_lit (W := W) [X] hB (HUR.out.trans ur) (hw2.up ur) hts (by show 1 ≤ 10; omega) Nat.one_pos
        have hz1 : Wr1.heap.size = wr.heap.size + 1 := by rw [← hWr1]; simp
        rw [hz1] at cP
        have cX : Wr1.cell? ⟨wr.heap.size, 0, none⟩ = some (.string X) := by rw [← hWr1]; exact cell_of_row _ wr.heap.size 0 _ _ _ (heap_alloc_new wr _)
        subst he
        have HJK := Lib.hid hjk
        clear hX hka hWr1 ur hw2 hjk hz1
        go_wp2_with fail
        rw [HW1.out]
        refine cP.mono ?_
        rintro en w2 ⟨⟨u, rfl⟩, u2, h2⟩
        have h2' := Lib.hid h2
        clear h2
        go_wp2_with fail
        go_roundw
        case rel => exact ⟨j + 1, by omega, i64_eq (by have := HKA.out; omega), u2, by have hjk := HJK.out; rw [if_pos (by omega), ← hjk, HX.out]; exact h2'.out⟩
        case measure => simp [intOf]; have := HKA.out; omega
      · have hne : ¬ j = k := fun e => he (by rw [← HKA.out, ← HKK.out, e])
        clear hX hka hWr1 ur
        go_wp2_with fail
        go_roundw
        case rel => exact ⟨j + 1, by omega, i64_eq (by have := HKA.out; omega), by rw [HW1.out]; exact HUR.out.trans UR.out, by
          rw [HW1.out]
          have h := HWR.out
          by_cases hkj : k < j
          · rw [if_pos hkj] at h; rw [if_pos (by omega)]; exact h.up UR.out
          · rw [if_neg hkj] at h; rw [if_neg (by omega)]; exact h.up UR.out⟩
        case measure => simp [intOf]; have := HKA.out; omega
    · obtain rfl : j = 3 := by omega
      go_wp2_with fail
      go_end0
      have h := HWR.out
      rw [if_pos (by omega)] at h
      exact ⟨⟨_, rfl⟩, HUR.out, h⟩
end Go.Proofs.YtklblhadhoppeaaGreatDoor
