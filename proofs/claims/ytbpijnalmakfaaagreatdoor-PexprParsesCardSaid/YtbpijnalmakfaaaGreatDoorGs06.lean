/-
  Words for the walks of layer 3: a slice of texts that reads as a list; what calls leave.
-/
import Derived.Test.YtbpijnalmakfaaaGreatDoorGs05
namespace Go.Proofs.YtbpijnalmakfaaaGreatDoor.B
open Go.RowKit
theorem Ss.below {w w':World} {B:Nat} {v:Value} {l:List ByteArray} (h:Ss w B v l) (hb:Below B w w'):Ss w' B v l:=by
 obtain⟨A,c,hv,hlc,hc⟩:=h;refine⟨A,c,hv,hlc,fun j u hu=>?_⟩;obtain⟨b,o,hA,hlt,hcell⟩:=hc j u hu;exact⟨b,o,hA,hlt,(hb.cell hlt).trans hcell⟩
theorem Tks.below {w w':World} {B:Nat} {v:Value} {l:List (Tok×Nat)} (h:Tks w B v l) (hb:Below B w w'):Tks w' B v l:=by
 obtain⟨A,c,hv,hc⟩:=h;refine⟨A,c,hv,fun j t ht=>?_⟩;obtain⟨ad,hA,hlt,hcell⟩:=hc j t ht;exact⟨ad,hA,hlt,fun i u hu=>(hb.cell (by rw[fW];exact hlt)).trans (hcell i u hu)⟩
theorem Sl.below {w w':World} {B:Nat} {v:Value} {l:List Nat} (h:Sl w B v l) (hb:Below B w w'):Sl w' B v l:=by
 obtain⟨A,c,hv,hlc,hc⟩:=h;refine⟨A,c,hv,hlc,fun j u hu=>?_⟩;obtain⟨ad,hA,hlt,hcell⟩:=hc j u hu;exact⟨ad,hA,hlt,(hb.cell (by rw[fW];exact hlt)).trans hcell⟩
end Go.Proofs.YtbpijnalmakfaaaGreatDoor.B
