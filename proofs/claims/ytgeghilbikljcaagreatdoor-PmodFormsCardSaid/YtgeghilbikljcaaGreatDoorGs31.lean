/-
  Plain definitions, without the program: trees as forests; their size, depth, cells, paths; what stands at a path, and what is put there; what a list of cells is the tree of.
-/
import Derived.Test.YtgeghilbikljcaaGreatDoorGs08
namespace Go.Proofs.YtgeghilbikljcaaGreatDoor
theorem Fr.get_sz {f:Fr} {i:Nat} {t:Tr} (h:f.get i=some t):szT t<=f.sz:=by
 induction f generalizing i with
 | nil=>cases h
 | cons x k r _ ih=>
  cases i with
  | zero=>injection h with h;subst h;show 1+k.sz<=1+k.sz+r.sz;omega
  | succ i=>have:=ih h;simp only[Fr.sz];omega
end Go.Proofs.YtgeghilbikljcaaGreatDoor
