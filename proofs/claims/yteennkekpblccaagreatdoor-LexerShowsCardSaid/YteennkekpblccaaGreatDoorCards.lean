/-
  DERIVED. GIVEN WITH THE SEED: THE CARDS: each row of YteennkekpblccaaGreatDoorRows.lean that lists a variable, with what it lists TIED to the program's text (the seventh form; the later family's looks); each row that meets fmt, with fmt's text TOLD by the authors' own Lean function (tested against real Go, not proved from fmt's source: count such statements apart). THE CARD IS WHAT COUNTS. Prove the row's statement (the work); the ties are given (YteennkekpblccaaGreatDoorTie.lean); close each card by the builder's one call (the guide's Derived/Test/ToyasCard.lean, 'card_holds'). Laid BY PROGRAM, IN A SANDBOX (cutbox-door.mjs). By AI agents, Wed Nov 11 2026. No macro, syntax, notation, axiom, sorry.
-/
import Derived.Test.YteennkekpblccaaGreatDoorRows
import GoSem.ClaimSeven
namespace Go.Proofs.YteennkekpblccaaGreatDoor
namespace Rows

/-- THE TIED CARD OF 'marquetrylaw02.LexerShows'. -/
def lexerShowsCard : Claim7 := { stood := { row := lexerShowsRow, standIns := [], harness := (true, "e6ab0b07f00faa28a9e06e1fdf8f547a9516f9ec9814cfdb7c79a759d57546d5"), looks := true }, kinds := [], alts := [], laidByText := true, laidKinds := [.data, .data, .data, .data, .sentinel, .sentinel, .data, .pinned], laidTests := true, laidLooks := .later }
def LexerShowsCardSaid : Prop := Claim7.holds Tryz.pinned (.plain (OpenSpec.ofChange lexerShowsSpec)) lexerShowsCard

/-- THE SECOND FORM's CARD OF 'marquetrylaw02.LexerShows'. -/
def lexerShowsUptoCard : Claim7 := { stood := { row := lexerShowsUptoRow, standIns := [], harness := (true, "e6ab0b07f00faa28a9e06e1fdf8f547a9516f9ec9814cfdb7c79a759d57546d5"), looks := true }, kinds := [], alts := [], laidByText := true, laidKinds := [.data, .data, .data, .data, .sentinel, .sentinel, .data, .pinned], laidTests := true, laidLooks := .later }
def LexerShowsUptoCardSaid : Prop := Claim7.holds Tryz.pinned (.plain (OpenSpec.upto lexerShowsSpec)) lexerShowsUptoCard
end Rows
end Go.Proofs.YteennkekpblccaaGreatDoor
