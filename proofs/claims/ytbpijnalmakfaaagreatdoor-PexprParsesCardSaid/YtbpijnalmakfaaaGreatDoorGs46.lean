/-
  The document's Starts, op, app, term, sum, cmp.
-/
import Derived.Test.YtbpijnalmakfaaaGreatDoorGs07
import Derived.Test.YtbpijnalmakfaaaGreatDoorGs15
namespace Go.Proofs.YtbpijnalmakfaaaGreatDoor
open Go.RowKit
theorem sU {w:World} {cs:Array Value} {ty:TypeId} {j:Nat} {u:Value} (h:cs[j]? = some u):(w.alloc (.cells cs ty)).cell? ⟨w.heap.size,j,none⟩=some u:=by
 rw[cell_of_row _ _ j _ _ _ (heap_alloc_new w _)];exact h
end Go.Proofs.YtbpijnalmakfaaaGreatDoor
