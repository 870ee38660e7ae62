/-
  Plain definitions, without the program: what layer 3 tells: names, long names, their pieces, what is joined, moved, and free.
-/
import Derived.Test.YtbpijnalmakfaaaGreatDoorGs04
namespace Go.Proofs.YtbpijnalmakfaaaGreatDoor.B
open Go.Lib
def jb (l:List ByteArray):ByteArray:=tx (jn (l.map fun x=>x.data.toList))
end Go.Proofs.YtbpijnalmakfaaaGreatDoor.B
