/-
  NARROWER THAN 'FOR EVERY INPUT', by the rows' own cells (each row's printed sentence says how): CtorChecks: laid · CtorShifts: laid · CtorSubsts: laid · CtorBack: laid · CtorGone: laid · CtorVariable: laid.
  DERIVED. THE GIVEN ROWS OF THIS SEAT. 6 by the template 'for every input the law returns true; each argument reads behind the call as it read before'; 0 by the template 'total and deterministic' (their statements: YtdofcjnkpgbjaaaDoorTotals.lean).
  GIVEN WITH THE SEED: the statements are not yours to turn. If you find one false, say at which input.
  Laid BY PROGRAM, IN A SANDBOX (cutbox-rows.mjs): the forced cells as the released guide's own fill.sh prints them over the translation a6c83a429eeadeee… (all of the seat's roots in one cut). By AI agents, Wed Nov 11 2026. No macro, syntax, notation, axiom, sorry.
-/
import Derived.Test.YtdofcjnkpgbjaaaDoorChecked
import GoSem.Claim
import GoSem.ClaimJoined
import GoSem.ClaimMapViews
import Derived.JoinedTies
import Derived.KernelRfl
namespace Go.Proofs.YtdofcjnkpgbjaaaDoor
/- THE CELL 'sum', in the pinned program and in every row, IS THE sha256 OF THE DUMP (.gsa) THAT YtdofcjnkpgbjaaaDoorProg.lean LOADS. Nothing in Lean hashes anything: it is a label: what it is worth is what the hold of that sum in a sandbox is worth. -/
noncomputable def Tryd.pinned : Pinned := { name := "ytdofcjnkpgbjaaadoor", sum := "a6c83a429eeadeeec19c6f1460b796e4ab6089098325495e2fa3dec66d1aef0f", checked := Tryd.checked }
namespace Rows
def none {H : Type} : Left H := { results := [], args := [] }

/- WHAT THE LISTED PACKAGE-LEVEL VARIABLES READ AS WHEN THE CALL BEGINS. Each datum BY PROGRAM (the guide's laid-datum.mjs) off the statement by which the dump's own 'gosem.cut.vars' lays the variable. In a bare row this is a premise. The card (YtdofcjnkpgbjaaaDoorCards.lean) ties it to the program's text. -/
def laid_math_bits_deBruijn32tab {H : Type} : DataW H := .agg [.lit (.int .u8 0), .lit (.int .u8 1), .lit (.int .u8 28), .lit (.int .u8 2), .lit (.int .u8 29), .lit (.int .u8 14), .lit (.int .u8 24), .lit (.int .u8 3), .lit (.int .u8 30), .lit (.int .u8 22), .lit (.int .u8 20), .lit (.int .u8 15), .lit (.int .u8 25), .lit (.int .u8 17), .lit (.int .u8 4), .lit (.int .u8 8), .lit (.int .u8 31), .lit (.int .u8 27), .lit (.int .u8 13), .lit (.int .u8 23), .lit (.int .u8 21), .lit (.int .u8 19), .lit (.int .u8 16), .lit (.int .u8 7), .lit (.int .u8 26), .lit (.int .u8 12), .lit (.int .u8 18), .lit (.int .u8 6), .lit (.int .u8 11), .lit (.int .u8 5), .lit (.int .u8 10), .lit (.int .u8 9)]
def laid_math_bits_deBruijn64tab {H : Type} : DataW H := .agg [.lit (.int .u8 0), .lit (.int .u8 1), .lit (.int .u8 56), .lit (.int .u8 2), .lit (.int .u8 57), .lit (.int .u8 49), .lit (.int .u8 28), .lit (.int .u8 3), .lit (.int .u8 61), .lit (.int .u8 58), .lit (.int .u8 42), .lit (.int .u8 50), .lit (.int .u8 38), .lit (.int .u8 29), .lit (.int .u8 17), .lit (.int .u8 4), .lit (.int .u8 62), .lit (.int .u8 47), .lit (.int .u8 59), .lit (.int .u8 36), .lit (.int .u8 45), .lit (.int .u8 43), .lit (.int .u8 51), .lit (.int .u8 22), .lit (.int .u8 53), .lit (.int .u8 39), .lit (.int .u8 33), .lit (.int .u8 30), .lit (.int .u8 24), .lit (.int .u8 18), .lit (.int .u8 12), .lit (.int .u8 5), .lit (.int .u8 63), .lit (.int .u8 55), .lit (.int .u8 48), .lit (.int .u8 27), .lit (.int .u8 60), .lit (.int .u8 41), .lit (.int .u8 37), .lit (.int .u8 16), .lit (.int .u8 46), .lit (.int .u8 35), .lit (.int .u8 44), .lit (.int .u8 21), .lit (.int .u8 52), .lit (.int .u8 32), .lit (.int .u8 23), .lit (.int .u8 11), .lit (.int .u8 54), .lit (.int .u8 26), .lit (.int .u8 40), .lit (.int .u8 15), .lit (.int .u8 34), .lit (.int .u8 20), .lit (.int .u8 31), .lit (.int .u8 10), .lit (.int .u8 25), .lit (.int .u8 14), .lit (.int .u8 19), .lit (.int .u8 9), .lit (.int .u8 13), .lit (.int .u8 8), .lit (.int .u8 7), .lit (.int .u8 6)]
def laid_internal_strconv_uint64pow10 {H : Type} : DataW H := .agg [.lit (.int .u64 1), .lit (.int .u64 10), .lit (.int .u64 100), .lit (.int .u64 1000), .lit (.int .u64 10000), .lit (.int .u64 100000), .lit (.int .u64 1000000), .lit (.int .u64 10000000), .lit (.int .u64 100000000), .lit (.int .u64 1000000000), .lit (.int .u64 10000000000), .lit (.int .u64 100000000000), .lit (.int .u64 1000000000000), .lit (.int .u64 10000000000000), .lit (.int .u64 100000000000000), .lit (.int .u64 1000000000000000), .lit (.int .u64 10000000000000000), .lit (.int .u64 100000000000000000), .lit (.int .u64 1000000000000000000), .lit (.int .u64 10000000000000000000)]

/-- 'marquetrylaw10.CtorChecks': WHATEVER THE INPUT: true; the input reads as it did. -/
def ctorChecksSpec : ChangeSpec := { name := "ctorChecks", fn := fun _ => fun
  | [d] => { results := [.lit (.bool true)], args := [d] }
  | _ => none }
def ctorChecksRow : OpenClaim := { program := "ytdofcjnkpgbjaaadoor", sum := "a6c83a429eeadeeec19c6f1460b796e4ab6089098325495e2fa3dec66d1aef0f", func := "marquetry/marquetrylaw10.CtorChecks", spec := "ctorChecks", inPlace := ["internal/abi.NoEscape", "internal/bytealg.MakeNoZero"], unfollowed := true, recurses := true, named := ["internal/strconv.uint64pow10", "math/bits.deBruijn32tab", "math/bits.deBruijn64tab"], plainKeys := false, apart := false, laid := [("math/bits.deBruijn32tab", laid_math_bits_deBruijn32tab), ("math/bits.deBruijn64tab", laid_math_bits_deBruijn64tab), ("internal/strconv.uint64pow10", laid_internal_strconv_uint64pow10)] }
def CtorChecksSaid : Prop := ctorChecksRow.holds Tryd.pinned (OpenSpec.ofChange ctorChecksSpec)

/-- ITS FALSE NEIGHBOUR: 'it returns false'. Refute it at one input. -/
def ctorChecksWrong : ChangeSpec := { name := "ctorChecks", fn := fun _ => fun
  | [d] => { results := [.lit (.bool false)], args := [d] }
  | _ => none }
def CtorChecksWrongFalsely : Prop := ctorChecksRow.holds Tryd.pinned (OpenSpec.ofChange ctorChecksWrong)

/-- 'marquetrylaw10.CtorShifts': WHATEVER THE INPUT: true; the input reads as it did. -/
def ctorShiftsSpec : ChangeSpec := { name := "ctorShifts", fn := fun _ => fun
  | [d1, d2, d3] => { results := [.lit (.bool true)], args := [d1, d2, d3] }
  | _ => none }
def ctorShiftsRow : OpenClaim := { program := "ytdofcjnkpgbjaaadoor", sum := "a6c83a429eeadeeec19c6f1460b796e4ab6089098325495e2fa3dec66d1aef0f", func := "marquetry/marquetrylaw10.CtorShifts", spec := "ctorShifts", inPlace := ["internal/abi.NoEscape", "internal/bytealg.MakeNoZero"], unfollowed := true, recurses := true, named := ["internal/strconv.uint64pow10", "math/bits.deBruijn32tab", "math/bits.deBruijn64tab"], plainKeys := false, apart := false, laid := [("math/bits.deBruijn32tab", laid_math_bits_deBruijn32tab), ("math/bits.deBruijn64tab", laid_math_bits_deBruijn64tab), ("internal/strconv.uint64pow10", laid_internal_strconv_uint64pow10)] }
def CtorShiftsSaid : Prop := ctorShiftsRow.holds Tryd.pinned (OpenSpec.ofChange ctorShiftsSpec)

/-- ITS FALSE NEIGHBOUR: 'it returns false'. Refute it at one input. -/
def ctorShiftsWrong : ChangeSpec := { name := "ctorShifts", fn := fun _ => fun
  | [d1, d2, d3] => { results := [.lit (.bool false)], args := [d1, d2, d3] }
  | _ => none }
def CtorShiftsWrongFalsely : Prop := ctorShiftsRow.holds Tryd.pinned (OpenSpec.ofChange ctorShiftsWrong)

/-- 'marquetrylaw10.CtorSubsts': WHATEVER THE INPUT: true; the input reads as it did. -/
def ctorSubstsSpec : ChangeSpec := { name := "ctorSubsts", fn := fun _ => fun
  | [d1, d2, d3] => { results := [.lit (.bool true)], args := [d1, d2, d3] }
  | _ => none }
def ctorSubstsRow : OpenClaim := { program := "ytdofcjnkpgbjaaadoor", sum := "a6c83a429eeadeeec19c6f1460b796e4ab6089098325495e2fa3dec66d1aef0f", func := "marquetry/marquetrylaw10.CtorSubsts", spec := "ctorSubsts", inPlace := ["internal/abi.NoEscape", "internal/bytealg.MakeNoZero"], unfollowed := true, recurses := true, named := ["internal/strconv.uint64pow10", "math/bits.deBruijn32tab", "math/bits.deBruijn64tab"], plainKeys := false, apart := false, laid := [("math/bits.deBruijn32tab", laid_math_bits_deBruijn32tab), ("math/bits.deBruijn64tab", laid_math_bits_deBruijn64tab), ("internal/strconv.uint64pow10", laid_internal_strconv_uint64pow10)] }
def CtorSubstsSaid : Prop := ctorSubstsRow.holds Tryd.pinned (OpenSpec.ofChange ctorSubstsSpec)

/-- ITS FALSE NEIGHBOUR: 'it returns false'. Refute it at one input. -/
def ctorSubstsWrong : ChangeSpec := { name := "ctorSubsts", fn := fun _ => fun
  | [d1, d2, d3] => { results := [.lit (.bool false)], args := [d1, d2, d3] }
  | _ => none }
def CtorSubstsWrongFalsely : Prop := ctorSubstsRow.holds Tryd.pinned (OpenSpec.ofChange ctorSubstsWrong)

/-- 'marquetrylaw10.CtorBack': WHATEVER THE INPUT: true; the input reads as it did. -/
def ctorBackSpec : ChangeSpec := { name := "ctorBack", fn := fun _ => fun
  | [d1, d2, d3] => { results := [.lit (.bool true)], args := [d1, d2, d3] }
  | _ => none }
def ctorBackRow : OpenClaim := { program := "ytdofcjnkpgbjaaadoor", sum := "a6c83a429eeadeeec19c6f1460b796e4ab6089098325495e2fa3dec66d1aef0f", func := "marquetry/marquetrylaw10.CtorBack", spec := "ctorBack", inPlace := ["internal/abi.NoEscape", "internal/bytealg.MakeNoZero"], unfollowed := true, recurses := true, named := ["internal/strconv.uint64pow10", "math/bits.deBruijn32tab", "math/bits.deBruijn64tab"], plainKeys := false, apart := false, laid := [("math/bits.deBruijn32tab", laid_math_bits_deBruijn32tab), ("math/bits.deBruijn64tab", laid_math_bits_deBruijn64tab), ("internal/strconv.uint64pow10", laid_internal_strconv_uint64pow10)] }
def CtorBackSaid : Prop := ctorBackRow.holds Tryd.pinned (OpenSpec.ofChange ctorBackSpec)

/-- ITS FALSE NEIGHBOUR: 'it returns false'. Refute it at one input. -/
def ctorBackWrong : ChangeSpec := { name := "ctorBack", fn := fun _ => fun
  | [d1, d2, d3] => { results := [.lit (.bool false)], args := [d1, d2, d3] }
  | _ => none }
def CtorBackWrongFalsely : Prop := ctorBackRow.holds Tryd.pinned (OpenSpec.ofChange ctorBackWrong)

/-- 'marquetrylaw10.CtorGone': WHATEVER THE INPUT: true; the input reads as it did. -/
def ctorGoneSpec : ChangeSpec := { name := "ctorGone", fn := fun _ => fun
  | [d1, d2, d3] => { results := [.lit (.bool true)], args := [d1, d2, d3] }
  | _ => none }
def ctorGoneRow : OpenClaim := { program := "ytdofcjnkpgbjaaadoor", sum := "a6c83a429eeadeeec19c6f1460b796e4ab6089098325495e2fa3dec66d1aef0f", func := "marquetry/marquetrylaw10.CtorGone", spec := "ctorGone", inPlace := ["internal/abi.NoEscape", "internal/bytealg.MakeNoZero"], unfollowed := true, recurses := true, named := ["internal/strconv.uint64pow10", "math/bits.deBruijn32tab", "math/bits.deBruijn64tab"], plainKeys := false, apart := false, laid := [("math/bits.deBruijn32tab", laid_math_bits_deBruijn32tab), ("math/bits.deBruijn64tab", laid_math_bits_deBruijn64tab), ("internal/strconv.uint64pow10", laid_internal_strconv_uint64pow10)] }
def CtorGoneSaid : Prop := ctorGoneRow.holds Tryd.pinned (OpenSpec.ofChange ctorGoneSpec)

/-- ITS FALSE NEIGHBOUR: 'it returns false'. Refute it at one input. -/
def ctorGoneWrong : ChangeSpec := { name := "ctorGone", fn := fun _ => fun
  | [d1, d2, d3] => { results := [.lit (.bool false)], args := [d1, d2, d3] }
  | _ => none }
def CtorGoneWrongFalsely : Prop := ctorGoneRow.holds Tryd.pinned (OpenSpec.ofChange ctorGoneWrong)

/-- 'marquetrylaw10.CtorVariable': WHATEVER THE INPUT: true; the input reads as it did. -/
def ctorVariableSpec : ChangeSpec := { name := "ctorVariable", fn := fun _ => fun
  | [d] => { results := [.lit (.bool true)], args := [d] }
  | _ => none }
def ctorVariableRow : OpenClaim := { program := "ytdofcjnkpgbjaaadoor", sum := "a6c83a429eeadeeec19c6f1460b796e4ab6089098325495e2fa3dec66d1aef0f", func := "marquetry/marquetrylaw10.CtorVariable", spec := "ctorVariable", inPlace := ["internal/abi.NoEscape", "internal/bytealg.MakeNoZero"], unfollowed := true, recurses := true, named := ["internal/strconv.uint64pow10", "math/bits.deBruijn32tab", "math/bits.deBruijn64tab"], plainKeys := false, apart := false, laid := [("math/bits.deBruijn32tab", laid_math_bits_deBruijn32tab), ("math/bits.deBruijn64tab", laid_math_bits_deBruijn64tab), ("internal/strconv.uint64pow10", laid_internal_strconv_uint64pow10)] }
def CtorVariableSaid : Prop := ctorVariableRow.holds Tryd.pinned (OpenSpec.ofChange ctorVariableSpec)

/-- ITS FALSE NEIGHBOUR: 'it returns false'. Refute it at one input. -/
def ctorVariableWrong : ChangeSpec := { name := "ctorVariable", fn := fun _ => fun
  | [d] => { results := [.lit (.bool false)], args := [d] }
  | _ => none }
def CtorVariableWrongFalsely : Prop := ctorVariableRow.holds Tryd.pinned (OpenSpec.ofChange ctorVariableWrong)

/- THE SECOND FORM. 'bulk': how many values and letters a reading holds, each counted each time it is reached (what is shared counts as often as it is met; a slice's spare places count too). A statement '..UptoSaid' is the law's where the arguments, and the package variables that the reading takes, are together of bulk at most 1048576: NARROWER than '..Said'. Prove '..Said' where nothing that the law and all that it calls make is longer than what came in: it says more and counts as full. Else prove '..UptoSaid'. A law counts once. -/
mutual
def uptoBulk {H : Type} : DataW H → Nat
  | .lit (.string bytes) => bytes.length + 1
  | .lit _ => 1
  | .nil => 1
  | .ptr d => uptoBulk d + 1
  | .slice elems spare => uptoBulkAll elems + uptoBulkAll spare + 1
  | .agg parts => uptoBulkAll parts + 1
  | .iface _ d => uptoBulk d + 1
  | .map entries => uptoBulkEntries entries + 1
  | .held _ => 1
def uptoBulkAll {H : Type} : List (DataW H) → Nat
  | [] => 0
  | d :: r => uptoBulk d + uptoBulkAll r
def uptoBulkEntries {H : Type} : List (Lit × DataW H) → Nat
  | [] => 0
  | x :: r => uptoBulkEntry x + uptoBulkEntries r
def uptoBulkEntry {H : Type} : Lit × DataW H → Nat
  | (.string bytes, d) => bytes.length + uptoBulk d + 1
  | (_, d) => uptoBulk d + 1
 end
def uptoSmall : (H : Type) → List (DataW H) → Bool := fun _ ds => decide (uptoBulkAll ds ≤ 1048576)
def OpenSpec.upto (s : _root_.Go.ChangeSpec) : _root_.Go.OpenSpec := { _root_.Go.OpenSpec.ofChange s with cond := some uptoSmall }

/-- 'marquetrylaw10.CtorChecks', WHERE WHAT IT READS IS OF BULK AT MOST 1048576: true; the input reads as it did. -/
def ctorChecksUptoRow : OpenClaim := { program := "ytdofcjnkpgbjaaadoor", sum := "a6c83a429eeadeeec19c6f1460b796e4ab6089098325495e2fa3dec66d1aef0f", func := "marquetry/marquetrylaw10.CtorChecks", spec := "ctorChecks", inPlace := ["internal/abi.NoEscape", "internal/bytealg.MakeNoZero"], unfollowed := true, recurses := true, named := ["internal/strconv.uint64pow10", "math/bits.deBruijn32tab", "math/bits.deBruijn64tab"], plainKeys := false, apart := false, laid := [("math/bits.deBruijn32tab", laid_math_bits_deBruijn32tab), ("math/bits.deBruijn64tab", laid_math_bits_deBruijn64tab), ("internal/strconv.uint64pow10", laid_internal_strconv_uint64pow10)], narrowed := true }
def CtorChecksUptoSaid : Prop := ctorChecksUptoRow.holds Tryd.pinned (OpenSpec.upto ctorChecksSpec)

/-- 'marquetrylaw10.CtorShifts', WHERE WHAT IT READS IS OF BULK AT MOST 1048576: true; the input reads as it did. -/
def ctorShiftsUptoRow : OpenClaim := { program := "ytdofcjnkpgbjaaadoor", sum := "a6c83a429eeadeeec19c6f1460b796e4ab6089098325495e2fa3dec66d1aef0f", func := "marquetry/marquetrylaw10.CtorShifts", spec := "ctorShifts", inPlace := ["internal/abi.NoEscape", "internal/bytealg.MakeNoZero"], unfollowed := true, recurses := true, named := ["internal/strconv.uint64pow10", "math/bits.deBruijn32tab", "math/bits.deBruijn64tab"], plainKeys := false, apart := false, laid := [("math/bits.deBruijn32tab", laid_math_bits_deBruijn32tab), ("math/bits.deBruijn64tab", laid_math_bits_deBruijn64tab), ("internal/strconv.uint64pow10", laid_internal_strconv_uint64pow10)], narrowed := true }
def CtorShiftsUptoSaid : Prop := ctorShiftsUptoRow.holds Tryd.pinned (OpenSpec.upto ctorShiftsSpec)

/-- 'marquetrylaw10.CtorSubsts', WHERE WHAT IT READS IS OF BULK AT MOST 1048576: true; the input reads as it did. -/
def ctorSubstsUptoRow : OpenClaim := { program := "ytdofcjnkpgbjaaadoor", sum := "a6c83a429eeadeeec19c6f1460b796e4ab6089098325495e2fa3dec66d1aef0f", func := "marquetry/marquetrylaw10.CtorSubsts", spec := "ctorSubsts", inPlace := ["internal/abi.NoEscape", "internal/bytealg.MakeNoZero"], unfollowed := true, recurses := true, named := ["internal/strconv.uint64pow10", "math/bits.deBruijn32tab", "math/bits.deBruijn64tab"], plainKeys := false, apart := false, laid := [("math/bits.deBruijn32tab", laid_math_bits_deBruijn32tab), ("math/bits.deBruijn64tab", laid_math_bits_deBruijn64tab), ("internal/strconv.uint64pow10", laid_internal_strconv_uint64pow10)], narrowed := true }
def CtorSubstsUptoSaid : Prop := ctorSubstsUptoRow.holds Tryd.pinned (OpenSpec.upto ctorSubstsSpec)

/-- 'marquetrylaw10.CtorBack', WHERE WHAT IT READS IS OF BULK AT MOST 1048576: true; the input reads as it did. -/
def ctorBackUptoRow : OpenClaim := { program := "ytdofcjnkpgbjaaadoor", sum := "a6c83a429eeadeeec19c6f1460b796e4ab6089098325495e2fa3dec66d1aef0f", func := "marquetry/marquetrylaw10.CtorBack", spec := "ctorBack", inPlace := ["internal/abi.NoEscape", "internal/bytealg.MakeNoZero"], unfollowed := true, recurses := true, named := ["internal/strconv.uint64pow10", "math/bits.deBruijn32tab", "math/bits.deBruijn64tab"], plainKeys := false, apart := false, laid := [("math/bits.deBruijn32tab", laid_math_bits_deBruijn32tab), ("math/bits.deBruijn64tab", laid_math_bits_deBruijn64tab), ("internal/strconv.uint64pow10", laid_internal_strconv_uint64pow10)], narrowed := true }
def CtorBackUptoSaid : Prop := ctorBackUptoRow.holds Tryd.pinned (OpenSpec.upto ctorBackSpec)

/-- 'marquetrylaw10.CtorGone', WHERE WHAT IT READS IS OF BULK AT MOST 1048576: true; the input reads as it did. -/
def ctorGoneUptoRow : OpenClaim := { program := "ytdofcjnkpgbjaaadoor", sum := "a6c83a429eeadeeec19c6f1460b796e4ab6089098325495e2fa3dec66d1aef0f", func := "marquetry/marquetrylaw10.CtorGone", spec := "ctorGone", inPlace := ["internal/abi.NoEscape", "internal/bytealg.MakeNoZero"], unfollowed := true, recurses := true, named := ["internal/strconv.uint64pow10", "math/bits.deBruijn32tab", "math/bits.deBruijn64tab"], plainKeys := false, apart := false, laid := [("math/bits.deBruijn32tab", laid_math_bits_deBruijn32tab), ("math/bits.deBruijn64tab", laid_math_bits_deBruijn64tab), ("internal/strconv.uint64pow10", laid_internal_strconv_uint64pow10)], narrowed := true }
def CtorGoneUptoSaid : Prop := ctorGoneUptoRow.holds Tryd.pinned (OpenSpec.upto ctorGoneSpec)

/-- 'marquetrylaw10.CtorVariable', WHERE WHAT IT READS IS OF BULK AT MOST 1048576: true; the input reads as it did. -/
def ctorVariableUptoRow : OpenClaim := { program := "ytdofcjnkpgbjaaadoor", sum := "a6c83a429eeadeeec19c6f1460b796e4ab6089098325495e2fa3dec66d1aef0f", func := "marquetry/marquetrylaw10.CtorVariable", spec := "ctorVariable", inPlace := ["internal/abi.NoEscape", "internal/bytealg.MakeNoZero"], unfollowed := true, recurses := true, named := ["internal/strconv.uint64pow10", "math/bits.deBruijn32tab", "math/bits.deBruijn64tab"], plainKeys := false, apart := false, laid := [("math/bits.deBruijn32tab", laid_math_bits_deBruijn32tab), ("math/bits.deBruijn64tab", laid_math_bits_deBruijn64tab), ("internal/strconv.uint64pow10", laid_internal_strconv_uint64pow10)], narrowed := true }
def CtorVariableUptoSaid : Prop := ctorVariableUptoRow.holds Tryd.pinned (OpenSpec.upto ctorVariableSpec)

end Rows
end Go.Proofs.YtdofcjnkpgbjaaaDoor
