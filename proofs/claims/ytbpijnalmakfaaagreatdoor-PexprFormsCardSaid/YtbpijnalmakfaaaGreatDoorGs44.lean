/-
  The laws PexprWrites and PexprReads.
-/
import Derived.Test.YtbpijnalmakfaaaGreatDoorGs36
import Derived.Test.YtbpijnalmakfaaaGreatDoorGs38
namespace Go.Proofs.YtbpijnalmakfaaaGreatDoor
open Go.RowKit
theorem zWn {l:List Te} {n:Nat} {i:Int} {p:Nat} {r:Int} (h:expZ B.nck B.long l n i = .inr (p,r)):p≤l.length∧¬r=0:=by
 unfold expZ at h
 split at h
 ·injection h with h;injection h with h1 h2;subst h1;subst h2;exact⟨Nat.zero_le _,by decide⟩
 ·have hi:i.toNat≤l.length:=by omega
  have h3:=xR (nk:=B.nck) (lg:=B.long) (l:=l) (n:=n) hi;have hne:=h3.ne h;rw[h] at h3;have h4:i.toNat≤p∧p≤l.length∧(r=6∨r=9):=h3;exact⟨h4.2.1,hne⟩
end Go.Proofs.YtbpijnalmakfaaaGreatDoor
