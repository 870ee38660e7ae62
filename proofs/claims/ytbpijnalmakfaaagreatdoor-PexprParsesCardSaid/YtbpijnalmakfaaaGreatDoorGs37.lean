/-
  Plain: an expression's tokens, parsed, are the expression, wherever they stand.
-/
import Derived.Test.YtbpijnalmakfaaaGreatDoorGs35
namespace Go.Proofs.YtbpijnalmakfaaaGreatDoor
section
variable {nk lg:ByteArray→Bool} {nb:Int→ByteArray}
theorem pT {l:List Te} {i:Nat} {t:Te} (h:l[i]? = some t):hdE lg l i=hdT lg t:=by unfold hdE;rw[h]
end
end Go.Proofs.YtbpijnalmakfaaaGreatDoor
