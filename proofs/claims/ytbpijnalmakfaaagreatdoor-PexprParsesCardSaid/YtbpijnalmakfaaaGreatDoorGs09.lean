/-
  Lists of tokens held against one another; the law's helper works.
-/
import Derived.Test.YtbpijnalmakfaaaGreatDoorGs06
namespace Go.Proofs.YtbpijnalmakfaaaGreatDoor.B
open Go.RowKit
def TokAt (w:World) (b:Addr) (K:Int) (X:ByteArray) (M P:Int):Prop:=
 w.cell? b=some (.int .i64 K)∧w.cell? ⟨b.block,b.off+1,none⟩=some (.string X)∧w.cell? ⟨b.block,b.off+2,none⟩=some (.int .i64 M)∧w.cell? ⟨b.block,b.off+3,none⟩=some (.int .i64 P)
theorem TokAt.below {w w':World} {B:Nat} {b:Addr} {K:Int} {X:ByteArray} {M P:Int} (h:TokAt w b K X M P) (hb:Below B w w') (hlt:b.block<B):TokAt w' b K X M P:=
 ⟨(hb.cell hlt).trans h.1,(hb.cell (p:=⟨b.block,b.off+1,none⟩) hlt).trans h.2.1,(hb.cell (p:=⟨b.block,b.off+2,none⟩) hlt).trans h.2.2.1,(hb.cell (p:=⟨b.block,b.off+3,none⟩) hlt).trans h.2.2.2⟩
structure RTok where
 k:Int
 s:ByteArray
 n:Int
 a:Int
def RTks (w:World) (B:Nat) (v:Value) (l:List RTok):Prop:=
 ∃A c,v = .slice A l.length c∧∀(j:Nat) t,l[j]? = some t→∃ad,A=some ad∧ad.block<B∧TokAt w (ad.add (j*4)) t.k t.s t.n t.a
theorem RTks.below {w w':World} {B:Nat} {v:Value} {l:List RTok} (h:RTks w B v l) (hb:Below B w w'):RTks w' B v l:=by
 obtain⟨A,c,hv,hc⟩:=h;refine⟨A,c,hv,fun j t ht=>?_⟩;obtain⟨ad,hA,hlt,hcell⟩:=hc j t ht;exact⟨ad,hA,hlt,hcell.below hb (by rw[fW];exact hlt)⟩
end Go.Proofs.YtbpijnalmakfaaaGreatDoor.B
