/-
  DERIVED. GIVEN WITH THE SEED: THE CARDS: each row of YtmiicfdigkkbdaaDoorRows.lean that lists a variable, with what it lists TIED to the program's text (the seventh form; the later family's looks); each row that meets fmt, with fmt's text TOLD by the authors' own Lean function (tested against real Go, not proved from fmt's source: count such statements apart). THE CARD IS WHAT COUNTS. Prove the row's statement (the work); the ties are given (YtmiicfdigkkbdaaDoorTie.lean); close each card by the builder's one call (the guide's Derived/Test/ToyasCard.lean, 'card_holds'). Laid BY PROGRAM, IN A SANDBOX (cutbox-door.mjs). By AI agents, Wed Nov 11 2026. No macro, syntax, notation, axiom, sorry.
-/
import Derived.Test.YtmiicfdigkkbdaaDoorRows
import GoSem.ClaimSeven
namespace Go.Proofs.YtmiicfdigkkbdaaDoor
namespace Rows

/-- THE TIED CARD OF 'marquetrylaw12.KindingFits'. -/
def kindingFitsCard : Claim7 := { stood := { row := kindingFitsRow, standIns := [], harness := (true, "daef91d39f7c3a37199862d39878cf27321aa63974b5c724b6cb9175d0088c8d"), looks := false }, kinds := [], alts := [], laidByText := true, laidKinds := [.data, .data, .data], laidTests := true, laidLooks := .later }
def KindingFitsCardSaid : Prop := Claim7.holds Tryd.pinned (.plain (OpenSpec.ofChange kindingFitsSpec)) kindingFitsCard

/-- THE TIED CARD OF 'marquetrylaw12.KindingMore'. -/
def kindingMoreCard : Claim7 := { stood := { row := kindingMoreRow, standIns := [], harness := (true, "daef91d39f7c3a37199862d39878cf27321aa63974b5c724b6cb9175d0088c8d"), looks := false }, kinds := [], alts := [], laidByText := true, laidKinds := [.data, .data, .data], laidTests := true, laidLooks := .later }
def KindingMoreCardSaid : Prop := Claim7.holds Tryd.pinned (.plain (OpenSpec.ofChange kindingMoreSpec)) kindingMoreCard

/-- THE TIED CARD OF 'marquetrylaw12.KindingSubst'. -/
def kindingSubstCard : Claim7 := { stood := { row := kindingSubstRow, standIns := [], harness := (true, "daef91d39f7c3a37199862d39878cf27321aa63974b5c724b6cb9175d0088c8d"), looks := false }, kinds := [], alts := [], laidByText := true, laidKinds := [.data, .data, .data], laidTests := true, laidLooks := .later }
def KindingSubstCardSaid : Prop := Claim7.holds Tryd.pinned (.plain (OpenSpec.ofChange kindingSubstSpec)) kindingSubstCard

/-- THE TIED CARD OF 'marquetrylaw12.KindingNorm'. -/
def kindingNormCard : Claim7 := { stood := { row := kindingNormRow, standIns := [], harness := (true, "daef91d39f7c3a37199862d39878cf27321aa63974b5c724b6cb9175d0088c8d"), looks := false }, kinds := [], alts := [], laidByText := true, laidKinds := [.data, .data, .data], laidTests := true, laidLooks := .later }
def KindingNormCardSaid : Prop := Claim7.holds Tryd.pinned (.plain (OpenSpec.ofChange kindingNormSpec)) kindingNormCard

/-- THE SECOND FORM's CARD OF 'marquetrylaw12.KindingFits'. -/
def kindingFitsUptoCard : Claim7 := { stood := { row := kindingFitsUptoRow, standIns := [], harness := (true, "daef91d39f7c3a37199862d39878cf27321aa63974b5c724b6cb9175d0088c8d"), looks := false }, kinds := [], alts := [], laidByText := true, laidKinds := [.data, .data, .data], laidTests := true, laidLooks := .later }
def KindingFitsUptoCardSaid : Prop := Claim7.holds Tryd.pinned (.plain (OpenSpec.upto kindingFitsSpec)) kindingFitsUptoCard

/-- THE SECOND FORM's CARD OF 'marquetrylaw12.KindingMore'. -/
def kindingMoreUptoCard : Claim7 := { stood := { row := kindingMoreUptoRow, standIns := [], harness := (true, "daef91d39f7c3a37199862d39878cf27321aa63974b5c724b6cb9175d0088c8d"), looks := false }, kinds := [], alts := [], laidByText := true, laidKinds := [.data, .data, .data], laidTests := true, laidLooks := .later }
def KindingMoreUptoCardSaid : Prop := Claim7.holds Tryd.pinned (.plain (OpenSpec.upto kindingMoreSpec)) kindingMoreUptoCard

/-- THE SECOND FORM's CARD OF 'marquetrylaw12.KindingSubst'. -/
def kindingSubstUptoCard : Claim7 := { stood := { row := kindingSubstUptoRow, standIns := [], harness := (true, "daef91d39f7c3a37199862d39878cf27321aa63974b5c724b6cb9175d0088c8d"), looks := false }, kinds := [], alts := [], laidByText := true, laidKinds := [.data, .data, .data], laidTests := true, laidLooks := .later }
def KindingSubstUptoCardSaid : Prop := Claim7.holds Tryd.pinned (.plain (OpenSpec.upto kindingSubstSpec)) kindingSubstUptoCard

/-- THE SECOND FORM's CARD OF 'marquetrylaw12.KindingNorm'. -/
def kindingNormUptoCard : Claim7 := { stood := { row := kindingNormUptoRow, standIns := [], harness := (true, "daef91d39f7c3a37199862d39878cf27321aa63974b5c724b6cb9175d0088c8d"), looks := false }, kinds := [], alts := [], laidByText := true, laidKinds := [.data, .data, .data], laidTests := true, laidLooks := .later }
def KindingNormUptoCardSaid : Prop := Claim7.holds Tryd.pinned (.plain (OpenSpec.upto kindingNormSpec)) kindingNormUptoCard
end Rows
end Go.Proofs.YtmiicfdigkkbdaaDoor
