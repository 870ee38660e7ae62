/-
  NARROWER THAN 'FOR EVERY INPUT', by the rows' own cells (each row's printed sentence says how): PexprParses: laid · PexprReads: laid · PexprWrites: laid · PexprBack: laid · PexprForms: laid · PexprParens: laid.
  DERIVED. THE GIVEN ROWS OF THIS SEAT. 6 by the template 'for every input the law returns true; each argument reads behind the call as it read before'; 0 by the template 'total and deterministic' (their statements: YtbpijnalmakfaaaGreatDoorTotals.lean).
  GIVEN WITH THE SEED: the statements are not yours to turn. If you find one false, say at which input.
  Laid BY PROGRAM, IN A SANDBOX (cutbox-rows.mjs): the forced cells as the released guide's own fill.sh prints them over the translation 9e46e3e0b4831f3b… (all of the seat's roots in one cut). By AI agents, Wed Nov 11 2026. No macro, syntax, notation, axiom, sorry.
-/
import Derived.Test.YtbpijnalmakfaaaGreatDoorChecked
import GoSem.PinnedTables
import GoSem.Claim
import GoSem.ClaimJoined
import GoSem.ClaimMapViews
import Derived.JoinedTies
import Derived.KernelRfl
namespace Go.Proofs.YtbpijnalmakfaaaGreatDoor
/- THE CELL 'sum', in the pinned program and in every row, IS THE sha256 OF THE DUMP (.gsa) THAT YtbpijnalmakfaaaGreatDoorProg.lean LOADS. Nothing in Lean hashes anything: it is a label: what it is worth is what the hold of that sum in a sandbox is worth. -/
noncomputable def Tryz.pinned : Pinned := { name := "ytbpijnalmakfaaagreatdoor", sum := "9e46e3e0b4831f3b1680bea119a37b9a998035c1b7a99899c750b7ed1beac070", checked := Tryz.checked }
namespace Rows
def none {H : Type} : Left H := { results := [], args := [] }

/- WHAT THE LISTED PACKAGE-LEVEL VARIABLES READ AS WHEN THE CALL BEGINS. Each datum BY PROGRAM (the guide's laid-datum.mjs) off the statement by which the dump's own 'gosem.cut.vars' lays the variable. In a bare row this is a premise. The card (YtbpijnalmakfaaaGreatDoorCards.lean) ties it to the program's text. -/
def laid_math_bits_deBruijn32tab {H : Type} : DataW H := .agg [.lit (.int .u8 0), .lit (.int .u8 1), .lit (.int .u8 28), .lit (.int .u8 2), .lit (.int .u8 29), .lit (.int .u8 14), .lit (.int .u8 24), .lit (.int .u8 3), .lit (.int .u8 30), .lit (.int .u8 22), .lit (.int .u8 20), .lit (.int .u8 15), .lit (.int .u8 25), .lit (.int .u8 17), .lit (.int .u8 4), .lit (.int .u8 8), .lit (.int .u8 31), .lit (.int .u8 27), .lit (.int .u8 13), .lit (.int .u8 23), .lit (.int .u8 21), .lit (.int .u8 19), .lit (.int .u8 16), .lit (.int .u8 7), .lit (.int .u8 26), .lit (.int .u8 12), .lit (.int .u8 18), .lit (.int .u8 6), .lit (.int .u8 11), .lit (.int .u8 5), .lit (.int .u8 10), .lit (.int .u8 9)]
def laid_math_bits_deBruijn64tab {H : Type} : DataW H := .agg [.lit (.int .u8 0), .lit (.int .u8 1), .lit (.int .u8 56), .lit (.int .u8 2), .lit (.int .u8 57), .lit (.int .u8 49), .lit (.int .u8 28), .lit (.int .u8 3), .lit (.int .u8 61), .lit (.int .u8 58), .lit (.int .u8 42), .lit (.int .u8 50), .lit (.int .u8 38), .lit (.int .u8 29), .lit (.int .u8 17), .lit (.int .u8 4), .lit (.int .u8 62), .lit (.int .u8 47), .lit (.int .u8 59), .lit (.int .u8 36), .lit (.int .u8 45), .lit (.int .u8 43), .lit (.int .u8 51), .lit (.int .u8 22), .lit (.int .u8 53), .lit (.int .u8 39), .lit (.int .u8 33), .lit (.int .u8 30), .lit (.int .u8 24), .lit (.int .u8 18), .lit (.int .u8 12), .lit (.int .u8 5), .lit (.int .u8 63), .lit (.int .u8 55), .lit (.int .u8 48), .lit (.int .u8 27), .lit (.int .u8 60), .lit (.int .u8 41), .lit (.int .u8 37), .lit (.int .u8 16), .lit (.int .u8 46), .lit (.int .u8 35), .lit (.int .u8 44), .lit (.int .u8 21), .lit (.int .u8 52), .lit (.int .u8 32), .lit (.int .u8 23), .lit (.int .u8 11), .lit (.int .u8 54), .lit (.int .u8 26), .lit (.int .u8 40), .lit (.int .u8 15), .lit (.int .u8 34), .lit (.int .u8 20), .lit (.int .u8 31), .lit (.int .u8 10), .lit (.int .u8 25), .lit (.int .u8 14), .lit (.int .u8 19), .lit (.int .u8 9), .lit (.int .u8 13), .lit (.int .u8 8), .lit (.int .u8 7), .lit (.int .u8 6)]
def laid_internal_strconv_uint64pow10 {H : Type} : DataW H := .agg [.lit (.int .u64 1), .lit (.int .u64 10), .lit (.int .u64 100), .lit (.int .u64 1000), .lit (.int .u64 10000), .lit (.int .u64 100000), .lit (.int .u64 1000000), .lit (.int .u64 10000000), .lit (.int .u64 100000000), .lit (.int .u64 1000000000), .lit (.int .u64 10000000000), .lit (.int .u64 100000000000), .lit (.int .u64 1000000000000), .lit (.int .u64 10000000000000), .lit (.int .u64 100000000000000), .lit (.int .u64 1000000000000000), .lit (.int .u64 10000000000000000), .lit (.int .u64 100000000000000000), .lit (.int .u64 1000000000000000000), .lit (.int .u64 10000000000000000000)]
def laid_unicode_utf8_acceptRanges {H : Type} : DataW H := .agg [.agg [.lit (.int .u8 128), .lit (.int .u8 191)], .agg [.lit (.int .u8 160), .lit (.int .u8 191)], .agg [.lit (.int .u8 128), .lit (.int .u8 159)], .agg [.lit (.int .u8 144), .lit (.int .u8 191)], .agg [.lit (.int .u8 128), .lit (.int .u8 143)], .agg [.lit (.int .u8 0), .lit (.int .u8 0)], .agg [.lit (.int .u8 0), .lit (.int .u8 0)], .agg [.lit (.int .u8 0), .lit (.int .u8 0)], .agg [.lit (.int .u8 0), .lit (.int .u8 0)], .agg [.lit (.int .u8 0), .lit (.int .u8 0)], .agg [.lit (.int .u8 0), .lit (.int .u8 0)], .agg [.lit (.int .u8 0), .lit (.int .u8 0)], .agg [.lit (.int .u8 0), .lit (.int .u8 0)], .agg [.lit (.int .u8 0), .lit (.int .u8 0)], .agg [.lit (.int .u8 0), .lit (.int .u8 0)], .agg [.lit (.int .u8 0), .lit (.int .u8 0)]]
def laid_strconv_ErrRange {H : Type} : DataW H := .iface "*errors.errorString" (.ptr (.agg [.lit (.string [118, 97, 108, 117, 101, 32, 111, 117, 116, 32, 111, 102, 32, 114, 97, 110, 103, 101])]))
def laid_strconv_ErrSyntax {H : Type} : DataW H := .iface "*errors.errorString" (.ptr (.agg [.lit (.string [105, 110, 118, 97, 108, 105, 100, 32, 115, 121, 110, 116, 97, 120])]))
def laid_marquetry_lexer_signs {H : Type} : DataW H := .agg [.lit (.string [58, 62]), .lit (.string [61, 62]), .lit (.string [45, 62]), .lit (.string [35, 49]), .lit (.string [35, 50]), .lit (.string [40]), .lit (.string [41]), .lit (.string [123]), .lit (.string [125]), .lit (.string [44]), .lit (.string [58]), .lit (.string [61]), .lit (.string [42]), .lit (.string [43]), .lit (.string [45]), .lit (.string [60]), .lit (.string [124])]
def laid_marquetry_ptype_plain {H : Type} : DataW H := .agg [.agg [.lit (.string [105, 110, 116]), .lit (.int .i64 1)], .agg [.lit (.string [98, 111, 111, 108]), .lit (.int .i64 2)], .agg [.lit (.string [117, 110, 105, 116]), .lit (.int .i64 3)]]
def laid_marquetry_pexpr_operators {H : Type} : DataW H := .agg [.agg [.lit (.string [43]), .lit (.int .i64 1), .lit (.int .i64 2), .lit (.int .i64 2), .lit (.int .i64 3)], .agg [.lit (.string [45]), .lit (.int .i64 2), .lit (.int .i64 2), .lit (.int .i64 2), .lit (.int .i64 3)], .agg [.lit (.string [42]), .lit (.int .i64 3), .lit (.int .i64 3), .lit (.int .i64 3), .lit (.int .i64 4)], .agg [.lit (.string [61]), .lit (.int .i64 4), .lit (.int .i64 1), .lit (.int .i64 2), .lit (.int .i64 2)], .agg [.lit (.string [60]), .lit (.int .i64 5), .lit (.int .i64 1), .lit (.int .i64 2), .lit (.int .i64 2)]]
/-- One of Go's own tables, pinned by name: the form's constant. -/
def laid_unicode_utf8_first : DataW Unit := Go.Pinned.utf8First

/-- 'marquetrylaw07.PexprParses': WHATEVER THE INPUT: true; the input reads as it did. -/
def pexprParsesSpec : ChangeSpec := { name := "pexprParses", fn := fun _ => fun
  | [d1, d2] => { results := [.lit (.bool true)], args := [d1, d2] }
  | _ => none }
def pexprParsesRow : OpenClaim := { program := "ytbpijnalmakfaaagreatdoor", sum := "9e46e3e0b4831f3b1680bea119a37b9a998035c1b7a99899c750b7ed1beac070", func := "marquetry/marquetrylaw07.PexprParses", spec := "pexprParses", inPlace := ["internal/bytealg.IndexByteString", "internal/bytealg.IndexString", "internal/bytealg.CountString", "internal/abi.NoEscape", "internal/bytealg.MakeNoZero"], unfollowed := true, recurses := true, named := ["internal/bytealg.MaxLen", "marquetry/ptype.plain", "marquetry/pexpr.operators", "unicode/utf8.first", "unicode/utf8.acceptRanges", "strconv.ErrSyntax", "strconv.ErrRange", "internal/strconv.uint64pow10", "math/bits.deBruijn32tab", "math/bits.deBruijn64tab", "marquetry/lexer.signs"], plainKeys := false, apart := false, laid := [("math/bits.deBruijn32tab", laid_math_bits_deBruijn32tab), ("math/bits.deBruijn64tab", laid_math_bits_deBruijn64tab), ("internal/strconv.uint64pow10", laid_internal_strconv_uint64pow10), ("unicode/utf8.acceptRanges", laid_unicode_utf8_acceptRanges), ("strconv.ErrRange", laid_strconv_ErrRange), ("strconv.ErrSyntax", laid_strconv_ErrSyntax), ("marquetry/lexer.signs", laid_marquetry_lexer_signs), ("marquetry/ptype.plain", laid_marquetry_ptype_plain), ("marquetry/pexpr.operators", laid_marquetry_pexpr_operators), ("unicode/utf8.first", laid_unicode_utf8_first)] }
def PexprParsesSaid : Prop := pexprParsesRow.holds Tryz.pinned (OpenSpec.ofChange pexprParsesSpec)

/-- ITS FALSE NEIGHBOUR: 'it returns false'. Refute it at one input. -/
def pexprParsesWrong : ChangeSpec := { name := "pexprParses", fn := fun _ => fun
  | [d1, d2] => { results := [.lit (.bool false)], args := [d1, d2] }
  | _ => none }
def PexprParsesWrongFalsely : Prop := pexprParsesRow.holds Tryz.pinned (OpenSpec.ofChange pexprParsesWrong)

/-- 'marquetrylaw07.PexprReads': WHATEVER THE INPUT: true; the input reads as it did. -/
def pexprReadsSpec : ChangeSpec := { name := "pexprReads", fn := fun _ => fun
  | [d] => { results := [.lit (.bool true)], args := [d] }
  | _ => none }
def pexprReadsRow : OpenClaim := { program := "ytbpijnalmakfaaagreatdoor", sum := "9e46e3e0b4831f3b1680bea119a37b9a998035c1b7a99899c750b7ed1beac070", func := "marquetry/marquetrylaw07.PexprReads", spec := "pexprReads", inPlace := ["internal/bytealg.CountString", "internal/bytealg.IndexByteString", "internal/bytealg.IndexString", "internal/abi.NoEscape", "internal/bytealg.MakeNoZero"], unfollowed := true, recurses := true, named := ["unicode/utf8.first", "unicode/utf8.acceptRanges", "internal/bytealg.MaxLen", "strconv.ErrSyntax", "strconv.ErrRange", "internal/strconv.uint64pow10", "math/bits.deBruijn32tab", "math/bits.deBruijn64tab", "marquetry/lexer.signs", "marquetry/ptype.plain", "marquetry/pexpr.operators"], plainKeys := false, apart := false, laid := [("math/bits.deBruijn32tab", laid_math_bits_deBruijn32tab), ("math/bits.deBruijn64tab", laid_math_bits_deBruijn64tab), ("internal/strconv.uint64pow10", laid_internal_strconv_uint64pow10), ("unicode/utf8.acceptRanges", laid_unicode_utf8_acceptRanges), ("strconv.ErrRange", laid_strconv_ErrRange), ("strconv.ErrSyntax", laid_strconv_ErrSyntax), ("marquetry/lexer.signs", laid_marquetry_lexer_signs), ("marquetry/ptype.plain", laid_marquetry_ptype_plain), ("marquetry/pexpr.operators", laid_marquetry_pexpr_operators), ("unicode/utf8.first", laid_unicode_utf8_first)] }
def PexprReadsSaid : Prop := pexprReadsRow.holds Tryz.pinned (OpenSpec.ofChange pexprReadsSpec)

/-- ITS FALSE NEIGHBOUR: 'it returns false'. Refute it at one input. -/
def pexprReadsWrong : ChangeSpec := { name := "pexprReads", fn := fun _ => fun
  | [d] => { results := [.lit (.bool false)], args := [d] }
  | _ => none }
def PexprReadsWrongFalsely : Prop := pexprReadsRow.holds Tryz.pinned (OpenSpec.ofChange pexprReadsWrong)

/-- 'marquetrylaw07.PexprWrites': WHATEVER THE INPUT: true; the input reads as it did. -/
def pexprWritesSpec : ChangeSpec := { name := "pexprWrites", fn := fun _ => fun
  | [d] => { results := [.lit (.bool true)], args := [d] }
  | _ => none }
def pexprWritesRow : OpenClaim := { program := "ytbpijnalmakfaaagreatdoor", sum := "9e46e3e0b4831f3b1680bea119a37b9a998035c1b7a99899c750b7ed1beac070", func := "marquetry/marquetrylaw07.PexprWrites", spec := "pexprWrites", inPlace := ["internal/bytealg.IndexByteString", "internal/bytealg.IndexString", "internal/bytealg.CountString", "internal/abi.NoEscape", "internal/bytealg.MakeNoZero"], unfollowed := true, recurses := true, named := ["internal/bytealg.MaxLen", "marquetry/pexpr.operators", "internal/strconv.uint64pow10", "math/bits.deBruijn32tab", "math/bits.deBruijn64tab", "unicode/utf8.first", "unicode/utf8.acceptRanges", "marquetry/ptype.plain", "strconv.ErrSyntax", "strconv.ErrRange", "marquetry/lexer.signs"], plainKeys := false, apart := false, laid := [("math/bits.deBruijn32tab", laid_math_bits_deBruijn32tab), ("math/bits.deBruijn64tab", laid_math_bits_deBruijn64tab), ("internal/strconv.uint64pow10", laid_internal_strconv_uint64pow10), ("unicode/utf8.acceptRanges", laid_unicode_utf8_acceptRanges), ("strconv.ErrRange", laid_strconv_ErrRange), ("strconv.ErrSyntax", laid_strconv_ErrSyntax), ("marquetry/lexer.signs", laid_marquetry_lexer_signs), ("marquetry/ptype.plain", laid_marquetry_ptype_plain), ("marquetry/pexpr.operators", laid_marquetry_pexpr_operators), ("unicode/utf8.first", laid_unicode_utf8_first)] }
def PexprWritesSaid : Prop := pexprWritesRow.holds Tryz.pinned (OpenSpec.ofChange pexprWritesSpec)

/-- ITS FALSE NEIGHBOUR: 'it returns false'. Refute it at one input. -/
def pexprWritesWrong : ChangeSpec := { name := "pexprWrites", fn := fun _ => fun
  | [d] => { results := [.lit (.bool false)], args := [d] }
  | _ => none }
def PexprWritesWrongFalsely : Prop := pexprWritesRow.holds Tryz.pinned (OpenSpec.ofChange pexprWritesWrong)

/-- 'marquetrylaw07.PexprBack': WHATEVER THE INPUT: true; the input reads as it did. -/
def pexprBackSpec : ChangeSpec := { name := "pexprBack", fn := fun _ => fun
  | [d] => { results := [.lit (.bool true)], args := [d] }
  | _ => none }
def pexprBackRow : OpenClaim := { program := "ytbpijnalmakfaaagreatdoor", sum := "9e46e3e0b4831f3b1680bea119a37b9a998035c1b7a99899c750b7ed1beac070", func := "marquetry/marquetrylaw07.PexprBack", spec := "pexprBack", inPlace := ["internal/bytealg.IndexByteString", "internal/bytealg.IndexString", "internal/bytealg.CountString", "internal/abi.NoEscape", "internal/bytealg.MakeNoZero"], unfollowed := true, recurses := true, named := ["internal/bytealg.MaxLen", "marquetry/pexpr.operators", "internal/strconv.uint64pow10", "math/bits.deBruijn32tab", "math/bits.deBruijn64tab", "unicode/utf8.first", "unicode/utf8.acceptRanges", "marquetry/ptype.plain", "strconv.ErrSyntax", "strconv.ErrRange", "marquetry/lexer.signs"], plainKeys := false, apart := false, laid := [("math/bits.deBruijn32tab", laid_math_bits_deBruijn32tab), ("math/bits.deBruijn64tab", laid_math_bits_deBruijn64tab), ("internal/strconv.uint64pow10", laid_internal_strconv_uint64pow10), ("unicode/utf8.acceptRanges", laid_unicode_utf8_acceptRanges), ("strconv.ErrRange", laid_strconv_ErrRange), ("strconv.ErrSyntax", laid_strconv_ErrSyntax), ("marquetry/lexer.signs", laid_marquetry_lexer_signs), ("marquetry/ptype.plain", laid_marquetry_ptype_plain), ("marquetry/pexpr.operators", laid_marquetry_pexpr_operators), ("unicode/utf8.first", laid_unicode_utf8_first)] }
def PexprBackSaid : Prop := pexprBackRow.holds Tryz.pinned (OpenSpec.ofChange pexprBackSpec)

/-- ITS FALSE NEIGHBOUR: 'it returns false'. Refute it at one input. -/
def pexprBackWrong : ChangeSpec := { name := "pexprBack", fn := fun _ => fun
  | [d] => { results := [.lit (.bool false)], args := [d] }
  | _ => none }
def PexprBackWrongFalsely : Prop := pexprBackRow.holds Tryz.pinned (OpenSpec.ofChange pexprBackWrong)

/-- 'marquetrylaw07.PexprForms': WHATEVER THE INPUT: true; the input reads as it did. -/
def pexprFormsSpec : ChangeSpec := { name := "pexprForms", fn := fun _ => fun
  | [d1, d2] => { results := [.lit (.bool true)], args := [d1, d2] }
  | _ => none }
def pexprFormsRow : OpenClaim := { program := "ytbpijnalmakfaaagreatdoor", sum := "9e46e3e0b4831f3b1680bea119a37b9a998035c1b7a99899c750b7ed1beac070", func := "marquetry/marquetrylaw07.PexprForms", spec := "pexprForms", inPlace := ["internal/bytealg.IndexByteString", "internal/bytealg.IndexString", "internal/bytealg.CountString", "internal/abi.NoEscape", "internal/bytealg.MakeNoZero"], unfollowed := true, recurses := true, named := ["internal/bytealg.MaxLen", "marquetry/ptype.plain", "marquetry/pexpr.operators", "unicode/utf8.first", "unicode/utf8.acceptRanges", "strconv.ErrSyntax", "strconv.ErrRange", "internal/strconv.uint64pow10", "math/bits.deBruijn32tab", "math/bits.deBruijn64tab", "marquetry/lexer.signs"], plainKeys := false, apart := false, laid := [("math/bits.deBruijn32tab", laid_math_bits_deBruijn32tab), ("math/bits.deBruijn64tab", laid_math_bits_deBruijn64tab), ("internal/strconv.uint64pow10", laid_internal_strconv_uint64pow10), ("unicode/utf8.acceptRanges", laid_unicode_utf8_acceptRanges), ("strconv.ErrRange", laid_strconv_ErrRange), ("strconv.ErrSyntax", laid_strconv_ErrSyntax), ("marquetry/lexer.signs", laid_marquetry_lexer_signs), ("marquetry/ptype.plain", laid_marquetry_ptype_plain), ("marquetry/pexpr.operators", laid_marquetry_pexpr_operators), ("unicode/utf8.first", laid_unicode_utf8_first)] }
def PexprFormsSaid : Prop := pexprFormsRow.holds Tryz.pinned (OpenSpec.ofChange pexprFormsSpec)

/-- ITS FALSE NEIGHBOUR: 'it returns false'. Refute it at one input. -/
def pexprFormsWrong : ChangeSpec := { name := "pexprForms", fn := fun _ => fun
  | [d1, d2] => { results := [.lit (.bool false)], args := [d1, d2] }
  | _ => none }
def PexprFormsWrongFalsely : Prop := pexprFormsRow.holds Tryz.pinned (OpenSpec.ofChange pexprFormsWrong)

/-- 'marquetrylaw07.PexprParens': WHATEVER THE INPUT: true; the input reads as it did. -/
def pexprParensSpec : ChangeSpec := { name := "pexprParens", fn := fun _ => fun
  | [d1, d2] => { results := [.lit (.bool true)], args := [d1, d2] }
  | _ => none }
def pexprParensRow : OpenClaim := { program := "ytbpijnalmakfaaagreatdoor", sum := "9e46e3e0b4831f3b1680bea119a37b9a998035c1b7a99899c750b7ed1beac070", func := "marquetry/marquetrylaw07.PexprParens", spec := "pexprParens", inPlace := ["internal/bytealg.IndexByteString", "internal/bytealg.IndexString", "internal/bytealg.CountString", "internal/abi.NoEscape", "internal/bytealg.MakeNoZero"], unfollowed := true, recurses := true, named := ["internal/bytealg.MaxLen", "marquetry/ptype.plain", "marquetry/pexpr.operators", "unicode/utf8.first", "unicode/utf8.acceptRanges", "strconv.ErrSyntax", "strconv.ErrRange", "internal/strconv.uint64pow10", "math/bits.deBruijn32tab", "math/bits.deBruijn64tab", "marquetry/lexer.signs"], plainKeys := false, apart := false, laid := [("math/bits.deBruijn32tab", laid_math_bits_deBruijn32tab), ("math/bits.deBruijn64tab", laid_math_bits_deBruijn64tab), ("internal/strconv.uint64pow10", laid_internal_strconv_uint64pow10), ("unicode/utf8.acceptRanges", laid_unicode_utf8_acceptRanges), ("strconv.ErrRange", laid_strconv_ErrRange), ("strconv.ErrSyntax", laid_strconv_ErrSyntax), ("marquetry/lexer.signs", laid_marquetry_lexer_signs), ("marquetry/ptype.plain", laid_marquetry_ptype_plain), ("marquetry/pexpr.operators", laid_marquetry_pexpr_operators), ("unicode/utf8.first", laid_unicode_utf8_first)] }
def PexprParensSaid : Prop := pexprParensRow.holds Tryz.pinned (OpenSpec.ofChange pexprParensSpec)

/-- ITS FALSE NEIGHBOUR: 'it returns false'. Refute it at one input. -/
def pexprParensWrong : ChangeSpec := { name := "pexprParens", fn := fun _ => fun
  | [d1, d2] => { results := [.lit (.bool false)], args := [d1, d2] }
  | _ => none }
def PexprParensWrongFalsely : Prop := pexprParensRow.holds Tryz.pinned (OpenSpec.ofChange pexprParensWrong)

/- THE SECOND FORM. 'bulk': how many values and letters a reading holds, each counted each time it is reached (what is shared counts as often as it is met; a slice's spare places count too). A statement '..UptoSaid' is the law's where the arguments, and the package variables that the reading takes, are together of bulk at most 1048576: NARROWER than '..Said'. Prove '..Said' where nothing that the law and all that it calls make is longer than what came in: it says more and counts as full. Else prove '..UptoSaid'. A law counts once. -/
mutual
def uptoBulk {H : Type} : DataW H → Nat
  | .lit (.string bytes) => bytes.length + 1
  | .lit _ => 1
  | .nil => 1
  | .ptr d => uptoBulk d + 1
  | .slice elems spare => uptoBulkAll elems + uptoBulkAll spare + 1
  | .agg parts => uptoBulkAll parts + 1
  | .iface _ d => uptoBulk d + 1
  | .map entries => uptoBulkEntries entries + 1
  | .held _ => 1
def uptoBulkAll {H : Type} : List (DataW H) → Nat
  | [] => 0
  | d :: r => uptoBulk d + uptoBulkAll r
def uptoBulkEntries {H : Type} : List (Lit × DataW H) → Nat
  | [] => 0
  | x :: r => uptoBulkEntry x + uptoBulkEntries r
def uptoBulkEntry {H : Type} : Lit × DataW H → Nat
  | (.string bytes, d) => bytes.length + uptoBulk d + 1
  | (_, d) => uptoBulk d + 1
 end
def uptoSmall : (H : Type) → List (DataW H) → Bool := fun _ ds => decide (uptoBulkAll ds ≤ 1048576)
def OpenSpec.upto (s : _root_.Go.ChangeSpec) : _root_.Go.OpenSpec := { _root_.Go.OpenSpec.ofChange s with cond := some uptoSmall }

/-- 'marquetrylaw07.PexprParses', WHERE WHAT IT READS IS OF BULK AT MOST 1048576: true; the input reads as it did. -/
def pexprParsesUptoRow : OpenClaim := { program := "ytbpijnalmakfaaagreatdoor", sum := "9e46e3e0b4831f3b1680bea119a37b9a998035c1b7a99899c750b7ed1beac070", func := "marquetry/marquetrylaw07.PexprParses", spec := "pexprParses", inPlace := ["internal/bytealg.IndexByteString", "internal/bytealg.IndexString", "internal/bytealg.CountString", "internal/abi.NoEscape", "internal/bytealg.MakeNoZero"], unfollowed := true, recurses := true, named := ["internal/bytealg.MaxLen", "marquetry/ptype.plain", "marquetry/pexpr.operators", "unicode/utf8.first", "unicode/utf8.acceptRanges", "strconv.ErrSyntax", "strconv.ErrRange", "internal/strconv.uint64pow10", "math/bits.deBruijn32tab", "math/bits.deBruijn64tab", "marquetry/lexer.signs"], plainKeys := false, apart := false, laid := [("math/bits.deBruijn32tab", laid_math_bits_deBruijn32tab), ("math/bits.deBruijn64tab", laid_math_bits_deBruijn64tab), ("internal/strconv.uint64pow10", laid_internal_strconv_uint64pow10), ("unicode/utf8.acceptRanges", laid_unicode_utf8_acceptRanges), ("strconv.ErrRange", laid_strconv_ErrRange), ("strconv.ErrSyntax", laid_strconv_ErrSyntax), ("marquetry/lexer.signs", laid_marquetry_lexer_signs), ("marquetry/ptype.plain", laid_marquetry_ptype_plain), ("marquetry/pexpr.operators", laid_marquetry_pexpr_operators), ("unicode/utf8.first", laid_unicode_utf8_first)], narrowed := true }
def PexprParsesUptoSaid : Prop := pexprParsesUptoRow.holds Tryz.pinned (OpenSpec.upto pexprParsesSpec)

/-- 'marquetrylaw07.PexprReads', WHERE WHAT IT READS IS OF BULK AT MOST 1048576: true; the input reads as it did. -/
def pexprReadsUptoRow : OpenClaim := { program := "ytbpijnalmakfaaagreatdoor", sum := "9e46e3e0b4831f3b1680bea119a37b9a998035c1b7a99899c750b7ed1beac070", func := "marquetry/marquetrylaw07.PexprReads", spec := "pexprReads", inPlace := ["internal/bytealg.CountString", "internal/bytealg.IndexByteString", "internal/bytealg.IndexString", "internal/abi.NoEscape", "internal/bytealg.MakeNoZero"], unfollowed := true, recurses := true, named := ["unicode/utf8.first", "unicode/utf8.acceptRanges", "internal/bytealg.MaxLen", "strconv.ErrSyntax", "strconv.ErrRange", "internal/strconv.uint64pow10", "math/bits.deBruijn32tab", "math/bits.deBruijn64tab", "marquetry/lexer.signs", "marquetry/ptype.plain", "marquetry/pexpr.operators"], plainKeys := false, apart := false, laid := [("math/bits.deBruijn32tab", laid_math_bits_deBruijn32tab), ("math/bits.deBruijn64tab", laid_math_bits_deBruijn64tab), ("internal/strconv.uint64pow10", laid_internal_strconv_uint64pow10), ("unicode/utf8.acceptRanges", laid_unicode_utf8_acceptRanges), ("strconv.ErrRange", laid_strconv_ErrRange), ("strconv.ErrSyntax", laid_strconv_ErrSyntax), ("marquetry/lexer.signs", laid_marquetry_lexer_signs), ("marquetry/ptype.plain", laid_marquetry_ptype_plain), ("marquetry/pexpr.operators", laid_marquetry_pexpr_operators), ("unicode/utf8.first", laid_unicode_utf8_first)], narrowed := true }
def PexprReadsUptoSaid : Prop := pexprReadsUptoRow.holds Tryz.pinned (OpenSpec.upto pexprReadsSpec)

/-- 'marquetrylaw07.PexprWrites', WHERE WHAT IT READS IS OF BULK AT MOST 1048576: true; the input reads as it did. -/
def pexprWritesUptoRow : OpenClaim := { program := "ytbpijnalmakfaaagreatdoor", sum := "9e46e3e0b4831f3b1680bea119a37b9a998035c1b7a99899c750b7ed1beac070", func := "marquetry/marquetrylaw07.PexprWrites", spec := "pexprWrites", inPlace := ["internal/bytealg.IndexByteString", "internal/bytealg.IndexString", "internal/bytealg.CountString", "internal/abi.NoEscape", "internal/bytealg.MakeNoZero"], unfollowed := true, recurses := true, named := ["internal/bytealg.MaxLen", "marquetry/pexpr.operators", "internal/strconv.uint64pow10", "math/bits.deBruijn32tab", "math/bits.deBruijn64tab", "unicode/utf8.first", "unicode/utf8.acceptRanges", "marquetry/ptype.plain", "strconv.ErrSyntax", "strconv.ErrRange", "marquetry/lexer.signs"], plainKeys := false, apart := false, laid := [("math/bits.deBruijn32tab", laid_math_bits_deBruijn32tab), ("math/bits.deBruijn64tab", laid_math_bits_deBruijn64tab), ("internal/strconv.uint64pow10", laid_internal_strconv_uint64pow10), ("unicode/utf8.acceptRanges", laid_unicode_utf8_acceptRanges), ("strconv.ErrRange", laid_strconv_ErrRange), ("strconv.ErrSyntax", laid_strconv_ErrSyntax), ("marquetry/lexer.signs", laid_marquetry_lexer_signs), ("marquetry/ptype.plain", laid_marquetry_ptype_plain), ("marquetry/pexpr.operators", laid_marquetry_pexpr_operators), ("unicode/utf8.first", laid_unicode_utf8_first)], narrowed := true }
def PexprWritesUptoSaid : Prop := pexprWritesUptoRow.holds Tryz.pinned (OpenSpec.upto pexprWritesSpec)

/-- 'marquetrylaw07.PexprBack', WHERE WHAT IT READS IS OF BULK AT MOST 1048576: true; the input reads as it did. -/
def pexprBackUptoRow : OpenClaim := { program := "ytbpijnalmakfaaagreatdoor", sum := "9e46e3e0b4831f3b1680bea119a37b9a998035c1b7a99899c750b7ed1beac070", func := "marquetry/marquetrylaw07.PexprBack", spec := "pexprBack", inPlace := ["internal/bytealg.IndexByteString", "internal/bytealg.IndexString", "internal/bytealg.CountString", "internal/abi.NoEscape", "internal/bytealg.MakeNoZero"], unfollowed := true, recurses := true, named := ["internal/bytealg.MaxLen", "marquetry/pexpr.operators", "internal/strconv.uint64pow10", "math/bits.deBruijn32tab", "math/bits.deBruijn64tab", "unicode/utf8.first", "unicode/utf8.acceptRanges", "marquetry/ptype.plain", "strconv.ErrSyntax", "strconv.ErrRange", "marquetry/lexer.signs"], plainKeys := false, apart := false, laid := [("math/bits.deBruijn32tab", laid_math_bits_deBruijn32tab), ("math/bits.deBruijn64tab", laid_math_bits_deBruijn64tab), ("internal/strconv.uint64pow10", laid_internal_strconv_uint64pow10), ("unicode/utf8.acceptRanges", laid_unicode_utf8_acceptRanges), ("strconv.ErrRange", laid_strconv_ErrRange), ("strconv.ErrSyntax", laid_strconv_ErrSyntax), ("marquetry/lexer.signs", laid_marquetry_lexer_signs), ("marquetry/ptype.plain", laid_marquetry_ptype_plain), ("marquetry/pexpr.operators", laid_marquetry_pexpr_operators), ("unicode/utf8.first", laid_unicode_utf8_first)], narrowed := true }
def PexprBackUptoSaid : Prop := pexprBackUptoRow.holds Tryz.pinned (OpenSpec.upto pexprBackSpec)

/-- 'marquetrylaw07.PexprForms', WHERE WHAT IT READS IS OF BULK AT MOST 1048576: true; the input reads as it did. -/
def pexprFormsUptoRow : OpenClaim := { program := "ytbpijnalmakfaaagreatdoor", sum := "9e46e3e0b4831f3b1680bea119a37b9a998035c1b7a99899c750b7ed1beac070", func := "marquetry/marquetrylaw07.PexprForms", spec := "pexprForms", inPlace := ["internal/bytealg.IndexByteString", "internal/bytealg.IndexString", "internal/bytealg.CountString", "internal/abi.NoEscape", "internal/bytealg.MakeNoZero"], unfollowed := true, recurses := true, named := ["internal/bytealg.MaxLen", "marquetry/ptype.plain", "marquetry/pexpr.operators", "unicode/utf8.first", "unicode/utf8.acceptRanges", "strconv.ErrSyntax", "strconv.ErrRange", "internal/strconv.uint64pow10", "math/bits.deBruijn32tab", "math/bits.deBruijn64tab", "marquetry/lexer.signs"], plainKeys := false, apart := false, laid := [("math/bits.deBruijn32tab", laid_math_bits_deBruijn32tab), ("math/bits.deBruijn64tab", laid_math_bits_deBruijn64tab), ("internal/strconv.uint64pow10", laid_internal_strconv_uint64pow10), ("unicode/utf8.acceptRanges", laid_unicode_utf8_acceptRanges), ("strconv.ErrRange", laid_strconv_ErrRange), ("strconv.ErrSyntax", laid_strconv_ErrSyntax), ("marquetry/lexer.signs", laid_marquetry_lexer_signs), ("marquetry/ptype.plain", laid_marquetry_ptype_plain), ("marquetry/pexpr.operators", laid_marquetry_pexpr_operators), ("unicode/utf8.first", laid_unicode_utf8_first)], narrowed := true }
def PexprFormsUptoSaid : Prop := pexprFormsUptoRow.holds Tryz.pinned (OpenSpec.upto pexprFormsSpec)

/-- 'marquetrylaw07.PexprParens', WHERE WHAT IT READS IS OF BULK AT MOST 1048576: true; the input reads as it did. -/
def pexprParensUptoRow : OpenClaim := { program := "ytbpijnalmakfaaagreatdoor", sum := "9e46e3e0b4831f3b1680bea119a37b9a998035c1b7a99899c750b7ed1beac070", func := "marquetry/marquetrylaw07.PexprParens", spec := "pexprParens", inPlace := ["internal/bytealg.IndexByteString", "internal/bytealg.IndexString", "internal/bytealg.CountString", "internal/abi.NoEscape", "internal/bytealg.MakeNoZero"], unfollowed := true, recurses := true, named := ["internal/bytealg.MaxLen", "marquetry/ptype.plain", "marquetry/pexpr.operators", "unicode/utf8.first", "unicode/utf8.acceptRanges", "strconv.ErrSyntax", "strconv.ErrRange", "internal/strconv.uint64pow10", "math/bits.deBruijn32tab", "math/bits.deBruijn64tab", "marquetry/lexer.signs"], plainKeys := false, apart := false, laid := [("math/bits.deBruijn32tab", laid_math_bits_deBruijn32tab), ("math/bits.deBruijn64tab", laid_math_bits_deBruijn64tab), ("internal/strconv.uint64pow10", laid_internal_strconv_uint64pow10), ("unicode/utf8.acceptRanges", laid_unicode_utf8_acceptRanges), ("strconv.ErrRange", laid_strconv_ErrRange), ("strconv.ErrSyntax", laid_strconv_ErrSyntax), ("marquetry/lexer.signs", laid_marquetry_lexer_signs), ("marquetry/ptype.plain", laid_marquetry_ptype_plain), ("marquetry/pexpr.operators", laid_marquetry_pexpr_operators), ("unicode/utf8.first", laid_unicode_utf8_first)], narrowed := true }
def PexprParensUptoSaid : Prop := pexprParensUptoRow.holds Tryz.pinned (OpenSpec.upto pexprParensSpec)

end Rows
end Go.Proofs.YtbpijnalmakfaaaGreatDoor
