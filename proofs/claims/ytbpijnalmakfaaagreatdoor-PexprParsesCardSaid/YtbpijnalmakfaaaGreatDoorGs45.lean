/-
  Plain: what is parsed of some tokens is parsed of them wherever they stand, if a sign that ends it stands behind.
-/
import Derived.Test.YtbpijnalmakfaaaGreatDoorGs38
namespace Go.Proofs.YtbpijnalmakfaaaGreatDoor
section
variable {nk lg:ByteArray→Bool} {l l':List Te} {d:Nat}
theorem xL {α:Type} {N i:Nat} {R:Rs α} (h:In N i R) {a:α} {j:Nat} (hR:R = .inl (a,j)):j≤N:=by rw[hR] at h;exact h.2
end
end Go.Proofs.YtbpijnalmakfaaaGreatDoor
namespace Go.Proofs.YtbpijnalmakfaaaGreatDoor
open Go.RowKit
theorem kK {ops:Array Oper} {rest:List Oper} {o:Oper} {a:Act} {w w':World} {v v1 v2:Value} {Q:Exit→Act→World→Prop} (s x:Operand) (t:TypeId)
  (hw:Region.wanted o (yielded ops a.tmps)=true) (ho:o.op = .call {callee:=.builtin .append,args:=#[s,x],argTypes:=#[t,t]}) (h1:a.eval s=v1) (h2:a.eval x=v2)
  (hr:(Builtin.append_ #[t,t] o.type #[v1,v2]).run Tryz.prog w = .ok v w') (h:wpList Tryz.prog ops Q rest (a.put o.dst v) w'):wpList Tryz.prog ops Q (o::rest) a w:=by
 refine wpList_step fun K hK=>?_
 rw[if_pos hw];unfold Oper.wp execOp;simp only[ho,resolve,invoke,builtin,Sem.run_bind,Sem.run_pure,Result.andThen_ok,List.map_toArray,List.map_cons,List.map_nil,h1,h2,hr];exact hK _ _ h
end Go.Proofs.YtbpijnalmakfaaaGreatDoor
