/-
  The document's Paths: what it tells.
-/
import Derived.Test.YtoejegndbcbkmaaPtu
namespace Go.Proofs.Ytoejegndbcbkmaa
open Go.RowKit

end Go.Proofs.Ytoejegndbcbkmaa
/-
  The document's Paths where there may be no tree: what it tells.
-/
namespace Go.Proofs.Ytoejegndbcbkmaa
open Go.RowKit

def pathsO (kind : Int) : Option Tr → List (List Int)
  | none => []
  | some t => pathsT kind t
end Go.Proofs.Ytoejegndbcbkmaa
