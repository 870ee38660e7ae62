/-
  DERIVED. GIVEN WITH THE SEED: THE CARDS: each row of YtklblhadhoppeaaGreatDoorRows.lean that lists a variable, with what it lists TIED to the program's text (the seventh form; the later family's looks); each row that meets fmt, with fmt's text TOLD by the authors' own Lean function (tested against real Go, not proved from fmt's source: count such statements apart). THE CARD IS WHAT COUNTS. Prove the row's statement (the work); the ties are given (YtklblhadhoppeaaGreatDoorTie.lean); close each card by the builder's one call (the guide's Derived/Test/ToyasCard.lean, 'card_holds'). Laid BY PROGRAM, IN A SANDBOX (cutbox-door.mjs). By AI agents, Wed Nov 11 2026. No macro, syntax, notation, axiom, sorry.
-/
import Derived.Test.YtklblhadhoppeaaGreatDoorRows
import GoSem.ClaimSeven
namespace Go.Proofs.YtklblhadhoppeaaGreatDoor
namespace Rows

/-- THE TIED CARD OF 'marquetrylaw06.PtypeParses'. -/
def ptypeParsesCard : Claim7 := { stood := { row := ptypeParsesRow, standIns := [], harness := (true, "dc575f9b6cedcaa40d0e29508b3794ae29109e4d3654adc99bb694ef7669951e"), looks := true }, kinds := [], alts := [], laidByText := true, laidKinds := [.data, .data, .data, .data, .sentinel, .sentinel, .data, .data, .pinned], laidTests := true, laidLooks := .later }
def PtypeParsesCardSaid : Prop := Claim7.holds Tryz.pinned (.plain (OpenSpec.ofChange ptypeParsesSpec)) ptypeParsesCard

/-- THE TIED CARD OF 'marquetrylaw06.PtypeReads'. -/
def ptypeReadsCard : Claim7 := { stood := { row := ptypeReadsRow, standIns := [], harness := (true, "dc575f9b6cedcaa40d0e29508b3794ae29109e4d3654adc99bb694ef7669951e"), looks := true }, kinds := [], alts := [], laidByText := true, laidKinds := [.data, .data, .data, .data, .sentinel, .sentinel, .data, .data, .pinned], laidTests := true, laidLooks := .later }
def PtypeReadsCardSaid : Prop := Claim7.holds Tryz.pinned (.plain (OpenSpec.ofChange ptypeReadsSpec)) ptypeReadsCard

/-- THE TIED CARD OF 'marquetrylaw06.PtypeWrites'. -/
def ptypeWritesCard : Claim7 := { stood := { row := ptypeWritesRow, standIns := [], harness := (true, "dc575f9b6cedcaa40d0e29508b3794ae29109e4d3654adc99bb694ef7669951e"), looks := true }, kinds := [], alts := [], laidByText := true, laidKinds := [.data, .data, .data, .data, .sentinel, .sentinel, .data, .data, .pinned], laidTests := true, laidLooks := .later }
def PtypeWritesCardSaid : Prop := Claim7.holds Tryz.pinned (.plain (OpenSpec.ofChange ptypeWritesSpec)) ptypeWritesCard

/-- THE TIED CARD OF 'marquetrylaw06.PtypeBack'. -/
def ptypeBackCard : Claim7 := { stood := { row := ptypeBackRow, standIns := [], harness := (true, "dc575f9b6cedcaa40d0e29508b3794ae29109e4d3654adc99bb694ef7669951e"), looks := true }, kinds := [], alts := [], laidByText := true, laidKinds := [.data, .data, .data, .data, .sentinel, .sentinel, .data, .data, .pinned], laidTests := true, laidLooks := .later }
def PtypeBackCardSaid : Prop := Claim7.holds Tryz.pinned (.plain (OpenSpec.ofChange ptypeBackSpec)) ptypeBackCard

/-- THE TIED CARD OF 'marquetrylaw06.PtypeForms'. -/
def ptypeFormsCard : Claim7 := { stood := { row := ptypeFormsRow, standIns := [], harness := (true, "dc575f9b6cedcaa40d0e29508b3794ae29109e4d3654adc99bb694ef7669951e"), looks := true }, kinds := [], alts := [], laidByText := true, laidKinds := [.data, .data, .data, .data, .sentinel, .sentinel, .data, .data, .pinned], laidTests := true, laidLooks := .later }
def PtypeFormsCardSaid : Prop := Claim7.holds Tryz.pinned (.plain (OpenSpec.ofChange ptypeFormsSpec)) ptypeFormsCard

/-- THE TIED CARD OF 'marquetrylaw06.PtypeStops'. -/
def ptypeStopsCard : Claim7 := { stood := { row := ptypeStopsRow, standIns := [], harness := (true, "dc575f9b6cedcaa40d0e29508b3794ae29109e4d3654adc99bb694ef7669951e"), looks := true }, kinds := [], alts := [], laidByText := true, laidKinds := [.data, .data, .data, .data, .sentinel, .sentinel, .data, .data, .pinned], laidTests := true, laidLooks := .later }
def PtypeStopsCardSaid : Prop := Claim7.holds Tryz.pinned (.plain (OpenSpec.ofChange ptypeStopsSpec)) ptypeStopsCard

/-- THE SECOND FORM's CARD OF 'marquetrylaw06.PtypeParses'. -/
def ptypeParsesUptoCard : Claim7 := { stood := { row := ptypeParsesUptoRow, standIns := [], harness := (true, "dc575f9b6cedcaa40d0e29508b3794ae29109e4d3654adc99bb694ef7669951e"), looks := true }, kinds := [], alts := [], laidByText := true, laidKinds := [.data, .data, .data, .data, .sentinel, .sentinel, .data, .data, .pinned], laidTests := true, laidLooks := .later }
def PtypeParsesUptoCardSaid : Prop := Claim7.holds Tryz.pinned (.plain (OpenSpec.upto ptypeParsesSpec)) ptypeParsesUptoCard

/-- THE SECOND FORM's CARD OF 'marquetrylaw06.PtypeReads'. -/
def ptypeReadsUptoCard : Claim7 := { stood := { row := ptypeReadsUptoRow, standIns := [], harness := (true, "dc575f9b6cedcaa40d0e29508b3794ae29109e4d3654adc99bb694ef7669951e"), looks := true }, kinds := [], alts := [], laidByText := true, laidKinds := [.data, .data, .data, .data, .sentinel, .sentinel, .data, .data, .pinned], laidTests := true, laidLooks := .later }
def PtypeReadsUptoCardSaid : Prop := Claim7.holds Tryz.pinned (.plain (OpenSpec.upto ptypeReadsSpec)) ptypeReadsUptoCard

/-- THE SECOND FORM's CARD OF 'marquetrylaw06.PtypeWrites'. -/
def ptypeWritesUptoCard : Claim7 := { stood := { row := ptypeWritesUptoRow, standIns := [], harness := (true, "dc575f9b6cedcaa40d0e29508b3794ae29109e4d3654adc99bb694ef7669951e"), looks := true }, kinds := [], alts := [], laidByText := true, laidKinds := [.data, .data, .data, .data, .sentinel, .sentinel, .data, .data, .pinned], laidTests := true, laidLooks := .later }
def PtypeWritesUptoCardSaid : Prop := Claim7.holds Tryz.pinned (.plain (OpenSpec.upto ptypeWritesSpec)) ptypeWritesUptoCard

/-- THE SECOND FORM's CARD OF 'marquetrylaw06.PtypeBack'. -/
def ptypeBackUptoCard : Claim7 := { stood := { row := ptypeBackUptoRow, standIns := [], harness := (true, "dc575f9b6cedcaa40d0e29508b3794ae29109e4d3654adc99bb694ef7669951e"), looks := true }, kinds := [], alts := [], laidByText := true, laidKinds := [.data, .data, .data, .data, .sentinel, .sentinel, .data, .data, .pinned], laidTests := true, laidLooks := .later }
def PtypeBackUptoCardSaid : Prop := Claim7.holds Tryz.pinned (.plain (OpenSpec.upto ptypeBackSpec)) ptypeBackUptoCard

/-- THE SECOND FORM's CARD OF 'marquetrylaw06.PtypeForms'. -/
def ptypeFormsUptoCard : Claim7 := { stood := { row := ptypeFormsUptoRow, standIns := [], harness := (true, "dc575f9b6cedcaa40d0e29508b3794ae29109e4d3654adc99bb694ef7669951e"), looks := true }, kinds := [], alts := [], laidByText := true, laidKinds := [.data, .data, .data, .data, .sentinel, .sentinel, .data, .data, .pinned], laidTests := true, laidLooks := .later }
def PtypeFormsUptoCardSaid : Prop := Claim7.holds Tryz.pinned (.plain (OpenSpec.upto ptypeFormsSpec)) ptypeFormsUptoCard

/-- THE SECOND FORM's CARD OF 'marquetrylaw06.PtypeStops'. -/
def ptypeStopsUptoCard : Claim7 := { stood := { row := ptypeStopsUptoRow, standIns := [], harness := (true, "dc575f9b6cedcaa40d0e29508b3794ae29109e4d3654adc99bb694ef7669951e"), looks := true }, kinds := [], alts := [], laidByText := true, laidKinds := [.data, .data, .data, .data, .sentinel, .sentinel, .data, .data, .pinned], laidTests := true, laidLooks := .later }
def PtypeStopsUptoCardSaid : Prop := Claim7.holds Tryz.pinned (.plain (OpenSpec.upto ptypeStopsSpec)) ptypeStopsUptoCard
end Rows
end Go.Proofs.YtklblhadhoppeaaGreatDoor
