/-
  The document's Long, Split, Head, Rest, SameTexts, Has: what they tell.
-/
import Derived.Test.YtbpijnalmakfaaaGreatDoorGs06
import Derived.Test.YtbpijnalmakfaaaGreatDoorGs07
namespace Go.Proofs.YtbpijnalmakfaaaGreatDoor.B
open Go.RowKit
theorem pT {s x:ByteArray} (h:(splt s)[0]? = some x):hd s=x:=by
 unfold hd
 cases hl:splt s with
 | nil=>rw[hl] at h;simp at h
 | cons a b=>rw[hl] at h;simpa using h
end Go.Proofs.YtbpijnalmakfaaaGreatDoor.B
