/-
  DERIVED: THE SHELF's CONTRACTS AT THIS DUMP, IN PLAIN WORDS (tools/lay-plain.mjs out of 'TryzShelf.lean', which tools/lay-shelf.mjs wrote): THE SAME DECLARATIONS UNDER THE SAME NAMES: 'import', 'namespace', 'open', 'def', 'theorem' AND NOTHING ELSE: no command of the shelf's: FOR A HAND-IN. Each laying: the table of numbers ('.._ren') and one theorem, a field a fact of the dump's own or the kernel's comparison; each contract: ONE APPLICATION.
-/
import Derived.Test.YtgeghilbikljcaaGreatDoorGs05
namespace Go.Proofs
open Go.Shelf
def Tryz.lays212_ren:Go.Shelf.Ren:=⟨fun | 212=>145 | 263=>171 | 264=>172 | n=>n,fun | 46=>145 | 51=>165 | 146=>166 | 53=>168 | 148=>169 | n=>n,fun | n=>n⟩
theorem Tryz.lays212:Go.Proofs.Lays.n212 Tryz.prog Tryz.lays212_ren:={
 mixed:=by kernel_rfl
 f212:=Tryz.func145.trans (congrArg some (by kernel_rfl))
 f263:=Tryz.func171.trans (congrArg some (by kernel_rfl))
 f264:=Tryz.func172.trans (congrArg some (by kernel_rfl))
 t46:=Tryz.underlying145
 a46:=Tryz.isAgg145
 z46:=Tryz.sizeOf145
 v46:=Tryz.zeroValue145
 t51:=Tryz.underlying165
 a51:=Tryz.isAgg165
 z51:=Tryz.sizeOf165
 v51:=Tryz.zeroValue165
 t53:=Tryz.underlying168
 a53:=Tryz.isAgg168
 z53:=Tryz.sizeOf168
 v53:=Tryz.zeroValue168
 t146:=Tryz.underlying166
 a146:=Tryz.isAgg166
 z146:=Tryz.sizeOf166
 v146:=Tryz.zeroValue166
 t148:=Tryz.underlying169
 a148:=Tryz.isAgg169
 z148:=Tryz.sizeOf169
 v148:=Tryz.zeroValue169}
open Go.RowKit Go.Lib in
theorem Tryz.bits_Mul (x y:Nat) (hx:x<18446744073709551616) (hy:y<18446744073709551616) (w:World) :
  Calls Tryz.prog 145 #[.int .u64 x,.int .u64 y] w fun e w'=>e = .returned (.tuple #[.int .u64 ((x*y / 18446744073709551616:Nat):Int),.int .u64 ((x*y % 18446744073709551616:Nat):Int)])/\w'=w:=Any.bits_Mul Tryz.lays212 x y hx hy w
end Go.Proofs
namespace Go.Proofs.YtgeghilbikljcaaGreatDoor.B
open Go.Lib
theorem zNh (s:ByteArray):∀p,p<=s.size->0<=(ck s p).1/\(ck s p).1<=(s.size:Int):=by
 refine along s _ ?_ ?_
 ·intro p h hp
  rw[zXh (by omega)];exact⟨Int.le_refl _,by show(0:Int)<=_;omega⟩
 ·intro p h ih hp
  cases hr:rdb ((dc s p).1:Int)
  ·rw[iH h hr]
   exact⟨by show(0:Int)<=(p:Int);omega,by show(p:Int)<=_;omega⟩
  ·rw[iI h hr]
   exact ih (lZ s p h)
theorem zW3 (s:ByteArray):0<=(lexR s).2.1/\(lexR s).2.1<=(s.size:Int):=by
 unfold lexR
 by_cases hc:(ckr s).2=0
 ·rw[if_pos hc]
  obtain⟨L,hL,hr⟩:=zUf hc;rw[hr]
  cases e:lexL L 0 with
  | inl r=>exact⟨Int.le_refl _,by show(0:Int)<=_;omega⟩
  | inr q=>
   have:=zUg _ L 0 q (Nat.le_refl _) e;have hs:s.size=sz L:=by rw[<- hL.txt,zI]
   exact⟨by show(0:Int)<=(q:Int);omega,by show(q:Int)<=_;omega⟩
 ·rw[if_neg hc]
  show 0<=(ckr s).1/\(ckr s).1<=_
  unfold ckr
  split
  ·exact⟨Int.le_refl _,by show(0:Int)<=_;omega⟩
  ·exact zNh s 0 (Nat.zero_le _)
end Go.Proofs.YtgeghilbikljcaaGreatDoor.B
