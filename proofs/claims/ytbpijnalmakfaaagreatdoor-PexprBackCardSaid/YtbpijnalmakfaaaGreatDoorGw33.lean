/-
  Plain definitions, without the program: which trees are source, by the table of the chapter: each form a row.
-/
import Derived.Test.YtbpijnalmakfaaaGreatDoorGw06
import Derived.Test.YtbpijnalmakfaaaGreatDoorGw21
import Derived.Test.YtbpijnalmakfaaaGreatDoorGw32
namespace Go.Proofs.YtbpijnalmakfaaaGreatDoor
section
variable {nk lg:ByteArray→Bool}
theorem lR (a b:Fr):infF nk lg (a.app b)=infF nk lg a++infF nk lg b:=by
 induction a with
 | nil=>rfl
 | cons x k r _ ih=>simp only[Fr.app,infF,ih,List.cons_append]
end
section
variable (nk lg:ByteArray→Bool)
end
section
variable {nk lg:ByteArray→Bool}
theorem Ahead.of {α β:Type} {i:Nat} {p:Nat} {e:Int} (h:Ahead (α:=α) i (.inr (p,e))):Ahead (α:=β) i (.inr (p,e)):=h
end
section
variable (nk lg:ByteArray→Bool)
end
section
variable {nk lg:ByteArray→Bool}
end
section
variable {nk lg:ByteArray→Bool}
theorem ConOk.nil:ConOk nk lg .nil:=⟨rfl,rfl⟩
end
section
variable {nk lg:ByteArray→Bool} {nb:Int→ByteArray}
theorem pZ {l:List Te} {i:Nat} {t:Te} (h:l[i]? = some t):hdE lg l i=hdT lg t:=by unfold hdE;rw[h]
end
end Go.Proofs.YtbpijnalmakfaaaGreatDoor
namespace Go.Proofs.YtbpijnalmakfaaaGreatDoor
open Go.RowKit
theorem Ptrs.one {ps:List Value} (h:Ptrs ps):∀u∈ps,u.oneCell'=true:=fun u hu=>by obtain⟨A,rfl⟩:=h u hu;rfl
section
variable {nk lg:ByteArray→Bool}
end
theorem Sp.up {W w:World} {v:Value} {l:List Int} (h:Sp W W.heap.size v l) (u:Up W w):Sp w w.heap.size v l:=Sp.keep h u.size fun _ hp=>Below.cell u hp
end Go.Proofs.YtbpijnalmakfaaaGreatDoor
