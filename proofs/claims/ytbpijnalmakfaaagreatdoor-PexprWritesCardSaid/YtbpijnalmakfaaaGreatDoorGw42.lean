/-
  The document's Starts, op, app, term, sum, cmp.
-/
import Derived.Test.YtbpijnalmakfaaaGreatDoorGw08
import Derived.Test.YtbpijnalmakfaaaGreatDoorGw16
namespace Go.Proofs.YtbpijnalmakfaaaGreatDoor
open Go.RowKit
theorem sX {w:World} {cs:Array Value} {ty:TypeId} {j:Nat} {u:Value} (h:cs[j]? = some u):(w.alloc (.cells cs ty)).cell? ⟨w.heap.size,j,none⟩=some u:=by
 rw[cell_of_row _ _ j _ _ _ (heap_alloc_new w _)];exact h
end Go.Proofs.YtbpijnalmakfaaaGreatDoor
