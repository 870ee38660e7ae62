/-
  DERIVED. GIVEN WITH THE SEED: THE CARDS: each row of YtofgniceilbpaaaDoorRows.lean that lists a variable, with what it lists TIED to the program's text (the seventh form; the later family's looks); each row that meets fmt, with fmt's text TOLD by the authors' own Lean function (tested against real Go, not proved from fmt's source: count such statements apart). THE CARD IS WHAT COUNTS. Prove the row's statement (the work); the ties are given (YtofgniceilbpaaaDoorTie.lean); close each card by the builder's one call (the guide's Derived/Test/ToyasCard.lean, 'card_holds'). Laid BY PROGRAM, IN A SANDBOX (cutbox-door.mjs). By AI agents, Wed Nov 11 2026. No macro, syntax, notation, axiom, sorry.
-/
import Derived.Test.YtofgniceilbpaaaDoorRows
import GoSem.ClaimSeven
namespace Go.Proofs.YtofgniceilbpaaaDoor
namespace Rows

/-- THE TIED CARD OF 'marquetrylaw11.NormSteps'. -/
def normStepsCard : Claim7 := { stood := { row := normStepsRow, standIns := [], harness := (true, "a6bc9c30f37e82ae41f2503e9cc0a0e10b20eb1e7f6140ddb975a82b5579efaa"), looks := false }, kinds := [], alts := [], laidByText := true, laidKinds := [.data, .data, .data], laidTests := true, laidLooks := .later }
def NormStepsCardSaid : Prop := Claim7.holds Tryd.pinned (.plain (OpenSpec.ofChange normStepsSpec)) normStepsCard

/-- THE TIED CARD OF 'marquetrylaw11.NormForms'. -/
def normFormsCard : Claim7 := { stood := { row := normFormsRow, standIns := [], harness := (true, "a6bc9c30f37e82ae41f2503e9cc0a0e10b20eb1e7f6140ddb975a82b5579efaa"), looks := false }, kinds := [], alts := [], laidByText := true, laidKinds := [.data, .data, .data], laidTests := true, laidLooks := .later }
def NormFormsCardSaid : Prop := Claim7.holds Tryd.pinned (.plain (OpenSpec.ofChange normFormsSpec)) normFormsCard

/-- THE TIED CARD OF 'marquetrylaw11.NormEnds'. -/
def normEndsCard : Claim7 := { stood := { row := normEndsRow, standIns := [], harness := (true, "a6bc9c30f37e82ae41f2503e9cc0a0e10b20eb1e7f6140ddb975a82b5579efaa"), looks := false }, kinds := [], alts := [], laidByText := true, laidKinds := [.data, .data, .data], laidTests := true, laidLooks := .later }
def NormEndsCardSaid : Prop := Claim7.holds Tryd.pinned (.plain (OpenSpec.ofChange normEndsSpec)) normEndsCard

/-- THE TIED CARD OF 'marquetrylaw11.NormBeta'. -/
def normBetaCard : Claim7 := { stood := { row := normBetaRow, standIns := [], harness := (true, "a6bc9c30f37e82ae41f2503e9cc0a0e10b20eb1e7f6140ddb975a82b5579efaa"), looks := false }, kinds := [], alts := [], laidByText := true, laidKinds := [.data, .data, .data], laidTests := true, laidLooks := .later }
def NormBetaCardSaid : Prop := Claim7.holds Tryd.pinned (.plain (OpenSpec.ofChange normBetaSpec)) normBetaCard

/-- THE TIED CARD OF 'marquetrylaw11.NormWithin'. -/
def normWithinCard : Claim7 := { stood := { row := normWithinRow, standIns := [], harness := (true, "a6bc9c30f37e82ae41f2503e9cc0a0e10b20eb1e7f6140ddb975a82b5579efaa"), looks := false }, kinds := [], alts := [], laidByText := true, laidKinds := [.data, .data, .data], laidTests := true, laidLooks := .later }
def NormWithinCardSaid : Prop := Claim7.holds Tryd.pinned (.plain (OpenSpec.ofChange normWithinSpec)) normWithinCard

/-- THE SECOND FORM's CARD OF 'marquetrylaw11.NormSteps'. -/
def normStepsUptoCard : Claim7 := { stood := { row := normStepsUptoRow, standIns := [], harness := (true, "a6bc9c30f37e82ae41f2503e9cc0a0e10b20eb1e7f6140ddb975a82b5579efaa"), looks := false }, kinds := [], alts := [], laidByText := true, laidKinds := [.data, .data, .data], laidTests := true, laidLooks := .later }
def NormStepsUptoCardSaid : Prop := Claim7.holds Tryd.pinned (.plain (OpenSpec.upto normStepsSpec)) normStepsUptoCard

/-- THE SECOND FORM's CARD OF 'marquetrylaw11.NormForms'. -/
def normFormsUptoCard : Claim7 := { stood := { row := normFormsUptoRow, standIns := [], harness := (true, "a6bc9c30f37e82ae41f2503e9cc0a0e10b20eb1e7f6140ddb975a82b5579efaa"), looks := false }, kinds := [], alts := [], laidByText := true, laidKinds := [.data, .data, .data], laidTests := true, laidLooks := .later }
def NormFormsUptoCardSaid : Prop := Claim7.holds Tryd.pinned (.plain (OpenSpec.upto normFormsSpec)) normFormsUptoCard

/-- THE SECOND FORM's CARD OF 'marquetrylaw11.NormEnds'. -/
def normEndsUptoCard : Claim7 := { stood := { row := normEndsUptoRow, standIns := [], harness := (true, "a6bc9c30f37e82ae41f2503e9cc0a0e10b20eb1e7f6140ddb975a82b5579efaa"), looks := false }, kinds := [], alts := [], laidByText := true, laidKinds := [.data, .data, .data], laidTests := true, laidLooks := .later }
def NormEndsUptoCardSaid : Prop := Claim7.holds Tryd.pinned (.plain (OpenSpec.upto normEndsSpec)) normEndsUptoCard

/-- THE SECOND FORM's CARD OF 'marquetrylaw11.NormBeta'. -/
def normBetaUptoCard : Claim7 := { stood := { row := normBetaUptoRow, standIns := [], harness := (true, "a6bc9c30f37e82ae41f2503e9cc0a0e10b20eb1e7f6140ddb975a82b5579efaa"), looks := false }, kinds := [], alts := [], laidByText := true, laidKinds := [.data, .data, .data], laidTests := true, laidLooks := .later }
def NormBetaUptoCardSaid : Prop := Claim7.holds Tryd.pinned (.plain (OpenSpec.upto normBetaSpec)) normBetaUptoCard

/-- THE SECOND FORM's CARD OF 'marquetrylaw11.NormWithin'. -/
def normWithinUptoCard : Claim7 := { stood := { row := normWithinUptoRow, standIns := [], harness := (true, "a6bc9c30f37e82ae41f2503e9cc0a0e10b20eb1e7f6140ddb975a82b5579efaa"), looks := false }, kinds := [], alts := [], laidByText := true, laidKinds := [.data, .data, .data], laidTests := true, laidLooks := .later }
def NormWithinUptoCardSaid : Prop := Claim7.holds Tryd.pinned (.plain (OpenSpec.upto normWithinSpec)) normWithinUptoCard
end Rows
end Go.Proofs.YtofgniceilbpaaaDoor
