/-
  What every row of the seat of trees wants: a world to begin with.
-/
import Derived.Lib.LaidIn
import Derived.MakeChecks
import Derived.Deep.DeepHandedRow
import Derived.Deep.DeepWitnessRowRef
import Derived.ProofKit
import Derived.SizedLaws
import Derived.LaidLaws
import Derived.OpenShut
import Derived.Test.YtmjdeadkekhpdaaAop
namespace Go.Proofs.Ytmjdeadkekhpdaa
open Go.ChangeShapes Go.WideShapes Go.ChangeAt Go.RowKit Go.Lib

theorem ownKnobNone : ownKnob Try.prog.godebug = none := by kernel_rfl
noncomputable def laidWorld (os : Os) : World := World.holding Try.prog os ⟨#[], #[], []⟩
end Go.Proofs.Ytmjdeadkekhpdaa
