/-
  DERIVED. GIVEN WITH THE SEED: THE CARDS: each row of YtagocfifagnpkaaDoorRows.lean that lists a variable, with what it lists TIED to the program's text (the seventh form; the later family's looks); each row that meets fmt, with fmt's text TOLD by the authors' own Lean function (tested against real Go, not proved from fmt's source: count such statements apart). THE CARD IS WHAT COUNTS. Prove the row's statement (the work); the ties are given (YtagocfifagnpkaaDoorTie.lean); close each card by the builder's one call (the guide's Derived/Test/ToyasCard.lean, 'card_holds'). Laid BY PROGRAM, IN A SANDBOX (cutbox-door.mjs). By AI agents, Wed Nov 11 2026. No macro, syntax, notation, axiom, sorry.
-/
import Derived.Test.YtagocfifagnpkaaDoorRows
import GoSem.ClaimSeven
namespace Go.Proofs.YtagocfifagnpkaaDoor
namespace Rows

/-- THE TIED CARD OF 'marquetrylaw03.NamesParts'. -/
def namesPartsCard : Claim7 := { stood := { row := namesPartsRow, standIns := [], harness := (true, "b0da903f446b1d488b9c4ed0cdad1520b8a38e94a429053cf57e2175086707c1"), looks := false }, kinds := [], alts := [], laidByText := true, laidKinds := [.data, .data, .data, .data, .pinned], laidTests := true, laidLooks := .later }
def NamesPartsCardSaid : Prop := Claim7.holds Tryd.pinned (.plain (OpenSpec.ofChange namesPartsSpec)) namesPartsCard

/-- THE TIED CARD OF 'marquetrylaw03.NamesMoves'. -/
def namesMovesCard : Claim7 := { stood := { row := namesMovesRow, standIns := [], harness := (true, "b0da903f446b1d488b9c4ed0cdad1520b8a38e94a429053cf57e2175086707c1"), looks := false }, kinds := [], alts := [], laidByText := true, laidKinds := [.data, .data, .data, .data, .pinned], laidTests := true, laidLooks := .later }
def NamesMovesCardSaid : Prop := Claim7.holds Tryd.pinned (.plain (OpenSpec.ofChange namesMovesSpec)) namesMovesCard

/-- THE TIED CARD OF 'marquetrylaw03.NamesFresh'. -/
def namesFreshCard : Claim7 := { stood := { row := namesFreshRow, standIns := [], harness := (true, "b0da903f446b1d488b9c4ed0cdad1520b8a38e94a429053cf57e2175086707c1"), looks := false }, kinds := [], alts := [], laidByText := true, laidKinds := [.data, .data, .data, .data, .pinned], laidTests := true, laidLooks := .later }
def NamesFreshCardSaid : Prop := Claim7.holds Tryd.pinned (.plain (OpenSpec.ofChange namesFreshSpec)) namesFreshCard

/-- THE TIED CARD OF 'marquetrylaw03.NamesBack'. -/
def namesBackCard : Claim7 := { stood := { row := namesBackRow, standIns := [], harness := (true, "b0da903f446b1d488b9c4ed0cdad1520b8a38e94a429053cf57e2175086707c1"), looks := false }, kinds := [], alts := [], laidByText := true, laidKinds := [.data, .data, .data, .data, .pinned], laidTests := true, laidLooks := .later }
def NamesBackCardSaid : Prop := Claim7.holds Tryd.pinned (.plain (OpenSpec.ofChange namesBackSpec)) namesBackCard

/-- THE TIED CARD OF 'marquetrylaw03.NamesThere'. -/
def namesThereCard : Claim7 := { stood := { row := namesThereRow, standIns := [], harness := (true, "b0da903f446b1d488b9c4ed0cdad1520b8a38e94a429053cf57e2175086707c1"), looks := false }, kinds := [], alts := [], laidByText := true, laidKinds := [.data, .data, .data, .data, .pinned], laidTests := true, laidLooks := .later }
def NamesThereCardSaid : Prop := Claim7.holds Tryd.pinned (.plain (OpenSpec.ofChange namesThereSpec)) namesThereCard

/-- THE TIED CARD OF 'marquetrylaw03.NamesNew'. -/
def namesNewCard : Claim7 := { stood := { row := namesNewRow, standIns := [], harness := (true, "b0da903f446b1d488b9c4ed0cdad1520b8a38e94a429053cf57e2175086707c1"), looks := false }, kinds := [], alts := [], laidByText := true, laidKinds := [.data, .data, .data, .data, .pinned], laidTests := true, laidLooks := .later }
def NamesNewCardSaid : Prop := Claim7.holds Tryd.pinned (.plain (OpenSpec.ofChange namesNewSpec)) namesNewCard

/-- THE SECOND FORM's CARD OF 'marquetrylaw03.NamesParts'. -/
def namesPartsUptoCard : Claim7 := { stood := { row := namesPartsUptoRow, standIns := [], harness := (true, "b0da903f446b1d488b9c4ed0cdad1520b8a38e94a429053cf57e2175086707c1"), looks := false }, kinds := [], alts := [], laidByText := true, laidKinds := [.data, .data, .data, .data, .pinned], laidTests := true, laidLooks := .later }
def NamesPartsUptoCardSaid : Prop := Claim7.holds Tryd.pinned (.plain (OpenSpec.upto namesPartsSpec)) namesPartsUptoCard

/-- THE SECOND FORM's CARD OF 'marquetrylaw03.NamesMoves'. -/
def namesMovesUptoCard : Claim7 := { stood := { row := namesMovesUptoRow, standIns := [], harness := (true, "b0da903f446b1d488b9c4ed0cdad1520b8a38e94a429053cf57e2175086707c1"), looks := false }, kinds := [], alts := [], laidByText := true, laidKinds := [.data, .data, .data, .data, .pinned], laidTests := true, laidLooks := .later }
def NamesMovesUptoCardSaid : Prop := Claim7.holds Tryd.pinned (.plain (OpenSpec.upto namesMovesSpec)) namesMovesUptoCard

/-- THE SECOND FORM's CARD OF 'marquetrylaw03.NamesFresh'. -/
def namesFreshUptoCard : Claim7 := { stood := { row := namesFreshUptoRow, standIns := [], harness := (true, "b0da903f446b1d488b9c4ed0cdad1520b8a38e94a429053cf57e2175086707c1"), looks := false }, kinds := [], alts := [], laidByText := true, laidKinds := [.data, .data, .data, .data, .pinned], laidTests := true, laidLooks := .later }
def NamesFreshUptoCardSaid : Prop := Claim7.holds Tryd.pinned (.plain (OpenSpec.upto namesFreshSpec)) namesFreshUptoCard

/-- THE SECOND FORM's CARD OF 'marquetrylaw03.NamesBack'. -/
def namesBackUptoCard : Claim7 := { stood := { row := namesBackUptoRow, standIns := [], harness := (true, "b0da903f446b1d488b9c4ed0cdad1520b8a38e94a429053cf57e2175086707c1"), looks := false }, kinds := [], alts := [], laidByText := true, laidKinds := [.data, .data, .data, .data, .pinned], laidTests := true, laidLooks := .later }
def NamesBackUptoCardSaid : Prop := Claim7.holds Tryd.pinned (.plain (OpenSpec.upto namesBackSpec)) namesBackUptoCard

/-- THE SECOND FORM's CARD OF 'marquetrylaw03.NamesThere'. -/
def namesThereUptoCard : Claim7 := { stood := { row := namesThereUptoRow, standIns := [], harness := (true, "b0da903f446b1d488b9c4ed0cdad1520b8a38e94a429053cf57e2175086707c1"), looks := false }, kinds := [], alts := [], laidByText := true, laidKinds := [.data, .data, .data, .data, .pinned], laidTests := true, laidLooks := .later }
def NamesThereUptoCardSaid : Prop := Claim7.holds Tryd.pinned (.plain (OpenSpec.upto namesThereSpec)) namesThereUptoCard

/-- THE SECOND FORM's CARD OF 'marquetrylaw03.NamesNew'. -/
def namesNewUptoCard : Claim7 := { stood := { row := namesNewUptoRow, standIns := [], harness := (true, "b0da903f446b1d488b9c4ed0cdad1520b8a38e94a429053cf57e2175086707c1"), looks := false }, kinds := [], alts := [], laidByText := true, laidKinds := [.data, .data, .data, .data, .pinned], laidTests := true, laidLooks := .later }
def NamesNewUptoCardSaid : Prop := Claim7.holds Tryd.pinned (.plain (OpenSpec.upto namesNewSpec)) namesNewUptoCard
end Rows
end Go.Proofs.YtagocfifagnpkaaDoor
