/-
  DERIVED. GIVEN WITH THE SEED: THE CARDS: each row of YtdofcjnkpgbjaaaDoorRows.lean that lists a variable, with what it lists TIED to the program's text (the seventh form; the later family's looks); each row that meets fmt, with fmt's text TOLD by the authors' own Lean function (tested against real Go, not proved from fmt's source: count such statements apart). THE CARD IS WHAT COUNTS. Prove the row's statement (the work); the ties are given (YtdofcjnkpgbjaaaDoorTie.lean); close each card by the builder's one call (the guide's Derived/Test/ToyasCard.lean, 'card_holds'). Laid BY PROGRAM, IN A SANDBOX (cutbox-door.mjs). By AI agents, Wed Nov 11 2026. No macro, syntax, notation, axiom, sorry.
-/
import Derived.Test.YtdofcjnkpgbjaaaDoorRows
import GoSem.ClaimSeven
namespace Go.Proofs.YtdofcjnkpgbjaaaDoor
namespace Rows

/-- THE TIED CARD OF 'marquetrylaw10.CtorChecks'. -/
def ctorChecksCard : Claim7 := { stood := { row := ctorChecksRow, standIns := [], harness := (true, "3efbd06268e102b23c3875f25e603ca62d718d1de4bb1fb80dc9fcf049462629"), looks := false }, kinds := [], alts := [], laidByText := true, laidKinds := [.data, .data, .data], laidTests := true, laidLooks := .later }
def CtorChecksCardSaid : Prop := Claim7.holds Tryd.pinned (.plain (OpenSpec.ofChange ctorChecksSpec)) ctorChecksCard

/-- THE TIED CARD OF 'marquetrylaw10.CtorShifts'. -/
def ctorShiftsCard : Claim7 := { stood := { row := ctorShiftsRow, standIns := [], harness := (true, "3efbd06268e102b23c3875f25e603ca62d718d1de4bb1fb80dc9fcf049462629"), looks := false }, kinds := [], alts := [], laidByText := true, laidKinds := [.data, .data, .data], laidTests := true, laidLooks := .later }
def CtorShiftsCardSaid : Prop := Claim7.holds Tryd.pinned (.plain (OpenSpec.ofChange ctorShiftsSpec)) ctorShiftsCard

/-- THE TIED CARD OF 'marquetrylaw10.CtorSubsts'. -/
def ctorSubstsCard : Claim7 := { stood := { row := ctorSubstsRow, standIns := [], harness := (true, "3efbd06268e102b23c3875f25e603ca62d718d1de4bb1fb80dc9fcf049462629"), looks := false }, kinds := [], alts := [], laidByText := true, laidKinds := [.data, .data, .data], laidTests := true, laidLooks := .later }
def CtorSubstsCardSaid : Prop := Claim7.holds Tryd.pinned (.plain (OpenSpec.ofChange ctorSubstsSpec)) ctorSubstsCard

/-- THE TIED CARD OF 'marquetrylaw10.CtorBack'. -/
def ctorBackCard : Claim7 := { stood := { row := ctorBackRow, standIns := [], harness := (true, "3efbd06268e102b23c3875f25e603ca62d718d1de4bb1fb80dc9fcf049462629"), looks := false }, kinds := [], alts := [], laidByText := true, laidKinds := [.data, .data, .data], laidTests := true, laidLooks := .later }
def CtorBackCardSaid : Prop := Claim7.holds Tryd.pinned (.plain (OpenSpec.ofChange ctorBackSpec)) ctorBackCard

/-- THE TIED CARD OF 'marquetrylaw10.CtorGone'. -/
def ctorGoneCard : Claim7 := { stood := { row := ctorGoneRow, standIns := [], harness := (true, "3efbd06268e102b23c3875f25e603ca62d718d1de4bb1fb80dc9fcf049462629"), looks := false }, kinds := [], alts := [], laidByText := true, laidKinds := [.data, .data, .data], laidTests := true, laidLooks := .later }
def CtorGoneCardSaid : Prop := Claim7.holds Tryd.pinned (.plain (OpenSpec.ofChange ctorGoneSpec)) ctorGoneCard

/-- THE TIED CARD OF 'marquetrylaw10.CtorVariable'. -/
def ctorVariableCard : Claim7 := { stood := { row := ctorVariableRow, standIns := [], harness := (true, "3efbd06268e102b23c3875f25e603ca62d718d1de4bb1fb80dc9fcf049462629"), looks := false }, kinds := [], alts := [], laidByText := true, laidKinds := [.data, .data, .data], laidTests := true, laidLooks := .later }
def CtorVariableCardSaid : Prop := Claim7.holds Tryd.pinned (.plain (OpenSpec.ofChange ctorVariableSpec)) ctorVariableCard

/-- THE SECOND FORM's CARD OF 'marquetrylaw10.CtorChecks'. -/
def ctorChecksUptoCard : Claim7 := { stood := { row := ctorChecksUptoRow, standIns := [], harness := (true, "3efbd06268e102b23c3875f25e603ca62d718d1de4bb1fb80dc9fcf049462629"), looks := false }, kinds := [], alts := [], laidByText := true, laidKinds := [.data, .data, .data], laidTests := true, laidLooks := .later }
def CtorChecksUptoCardSaid : Prop := Claim7.holds Tryd.pinned (.plain (OpenSpec.upto ctorChecksSpec)) ctorChecksUptoCard

/-- THE SECOND FORM's CARD OF 'marquetrylaw10.CtorShifts'. -/
def ctorShiftsUptoCard : Claim7 := { stood := { row := ctorShiftsUptoRow, standIns := [], harness := (true, "3efbd06268e102b23c3875f25e603ca62d718d1de4bb1fb80dc9fcf049462629"), looks := false }, kinds := [], alts := [], laidByText := true, laidKinds := [.data, .data, .data], laidTests := true, laidLooks := .later }
def CtorShiftsUptoCardSaid : Prop := Claim7.holds Tryd.pinned (.plain (OpenSpec.upto ctorShiftsSpec)) ctorShiftsUptoCard

/-- THE SECOND FORM's CARD OF 'marquetrylaw10.CtorSubsts'. -/
def ctorSubstsUptoCard : Claim7 := { stood := { row := ctorSubstsUptoRow, standIns := [], harness := (true, "3efbd06268e102b23c3875f25e603ca62d718d1de4bb1fb80dc9fcf049462629"), looks := false }, kinds := [], alts := [], laidByText := true, laidKinds := [.data, .data, .data], laidTests := true, laidLooks := .later }
def CtorSubstsUptoCardSaid : Prop := Claim7.holds Tryd.pinned (.plain (OpenSpec.upto ctorSubstsSpec)) ctorSubstsUptoCard

/-- THE SECOND FORM's CARD OF 'marquetrylaw10.CtorBack'. -/
def ctorBackUptoCard : Claim7 := { stood := { row := ctorBackUptoRow, standIns := [], harness := (true, "3efbd06268e102b23c3875f25e603ca62d718d1de4bb1fb80dc9fcf049462629"), looks := false }, kinds := [], alts := [], laidByText := true, laidKinds := [.data, .data, .data], laidTests := true, laidLooks := .later }
def CtorBackUptoCardSaid : Prop := Claim7.holds Tryd.pinned (.plain (OpenSpec.upto ctorBackSpec)) ctorBackUptoCard

/-- THE SECOND FORM's CARD OF 'marquetrylaw10.CtorGone'. -/
def ctorGoneUptoCard : Claim7 := { stood := { row := ctorGoneUptoRow, standIns := [], harness := (true, "3efbd06268e102b23c3875f25e603ca62d718d1de4bb1fb80dc9fcf049462629"), looks := false }, kinds := [], alts := [], laidByText := true, laidKinds := [.data, .data, .data], laidTests := true, laidLooks := .later }
def CtorGoneUptoCardSaid : Prop := Claim7.holds Tryd.pinned (.plain (OpenSpec.upto ctorGoneSpec)) ctorGoneUptoCard

/-- THE SECOND FORM's CARD OF 'marquetrylaw10.CtorVariable'. -/
def ctorVariableUptoCard : Claim7 := { stood := { row := ctorVariableUptoRow, standIns := [], harness := (true, "3efbd06268e102b23c3875f25e603ca62d718d1de4bb1fb80dc9fcf049462629"), looks := false }, kinds := [], alts := [], laidByText := true, laidKinds := [.data, .data, .data], laidTests := true, laidLooks := .later }
def CtorVariableUptoCardSaid : Prop := Claim7.holds Tryd.pinned (.plain (OpenSpec.upto ctorVariableSpec)) ctorVariableUptoCard
end Rows
end Go.Proofs.YtdofcjnkpgbjaaaDoor
