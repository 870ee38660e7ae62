/-
  The program's Check: what it tells.
-/
import Derived.Test.YtagocfifagnpkaaDoorNSs
namespace Go.Proofs.YtagocfifagnpkaaDoor
open Go.RowKit

theorem nck_of {s : ByteArray} {a b : Bool} (ha : nm s = a) (hb : wrd s = b) : nck s = (a && !b) := by unfold nck; rw [ha, hb]
set_option maxHeartbeats 1600000 in
set_option maxRecDepth 100000 in
theorem check_any (s : ByteArray) (w : World) (hs : s.size ≤ 1000000000) : Calls Tryd.prog 13 #[.string s] w (NmPost (nck s) w) := by
  have cN := fun W => goodName s W hs
  have cW := fun W => word_any s W
  obtain ⟨a, ha⟩ : ∃ a, nm s = a := ⟨_, rfl⟩
  obtain ⟨b, hb⟩ : ∃ b, wrd s = b := ⟨_, rfl⟩
  have HA := Lib.hid (nck_of ha hb)
  rw [ha] at cN
  rw [hb] at cW
  clear ha hb
  cases a
  · go_enter Tryd.func13, Tryd.ntmps13
    go_wp2_with fail
    refine (cN _).mono ?_
    rintro e w1 ⟨rfl, hb1⟩
    go_wp2
    go_ret
    exact nm_ret HA.out hb1
  · go_enter Tryd.func13, Tryd.ntmps13
    go_wp2_with fail
    refine (cN _).mono ?_
    rintro e w1 ⟨rfl, hb1⟩
    go_wp2_with fail
    refine (cW _).mono ?_
    rintro e w2 ⟨rfl, rfl⟩
    go_wp2
    go_ret
    exact nm_ret (by rw [HA.out]; rfl) hb1
end Go.Proofs.YtagocfifagnpkaaDoor
