/-
  Plain definitions, without the program: trees as forests; their size, depth, cells, paths; what stands at a path, and what is put there; what a list of cells is the tree of.
-/
import Derived.Test.YtbpijnalmakfaaaGreatDoorGw32
import Derived.Test.YtbpijnalmakfaaaGreatDoorGw34
namespace Go.Proofs.YtbpijnalmakfaaaGreatDoor
theorem Fr.ext {a b:Fr} (h:∀i,a.get i=b.get i):a=b:=by
 induction a generalizing b with
 | nil=>
  cases b with
  | nil=>rfl
  | cons y l s=>have:=h 0;cases this
 | cons x k r _ ih=>
  cases b with
  | nil=>have:=h 0;cases this
  | cons y l s=>
   have h0:=h 0;injection h0 with h0;injection h0 with h1 h2;subst h1 h2;rw[ih fun i=>h (i+1)]
end Go.Proofs.YtbpijnalmakfaaaGreatDoor
namespace Go.Proofs.YtbpijnalmakfaaaGreatDoor
open Go.RowKit
theorem InT.pln {w:World} {S:Nat→Prop} {q p:Nat} {t:Tr} (h:InT w S (.pointer (some ⟨q,p,none⟩)) t):Pln w q:=by
 obtain⟨q',p',A,c,hv,_,hp,_⟩:=h;injection hv with hv;injection hv with hv;injection hv with hv;rw[hv];exact hp
theorem eP {a b:World} {r:Option Nat} (h:a.grownBy b r) (n:Nat):a.grownBy (b.drewN n) r:=yT h ⟨rfl,rfl,rfl,Nat.le_refl _,fun _ _ _=>rfl⟩
end Go.Proofs.YtbpijnalmakfaaaGreatDoor
