/-
  The program's Fresh: what it tells.
-/
import Derived.Test.YtagocfifagnpkaaDoorNFre
namespace Go.Proofs.YtagocfifagnpkaaDoor
open Go.RowKit

set_option maxHeartbeats 3200000 in
set_option maxRecDepth 100000 in
theorem fresh_any (base : ByteArray) (l : List ByteArray) (v : Value) (w : World) (hv : Ss w w.heap.size v l) (hl : l.length ≤ 1000) (hz : ∀ x ∈ l, x.size ≤ 1000) (hb : base.size ≤ 1000000) (hL : Nx w) :
    Calls Tryd.prog 29 #[.string base, v] w (SePost (frR base l) w) := by
  have c1 := check_any base w (by omega)
  have c2 := fun W (hv : Ss W W.heap.size v l) (hL : Nx W) => free_any base l v W hv hl hz hb hL
  have hfew := fr_few (base := base) (taken := l) (k := fre base l) (fre_is base l).1
  have hfz := frk_size (base := base) (fre base l) (by omega)
  have c3 := fun W => check_any (frk base (fre base l)) W (by omega)
  have hno := fr_no (base := base) (taken := l)
  have hyes := fun h => fr_yes (base := base) (taken := l) h (fre_is base l)
  obtain ⟨X, hX⟩ : ∃ X, frk base (fre base l) = X := ⟨_, rfl⟩
  rw [hX] at c2 c3 hyes
  obtain ⟨a, ha⟩ : ∃ a, nck base = a := ⟨_, rfl⟩
  obtain ⟨b, hb'⟩ : ∃ b, nck X = b := ⟨_, rfl⟩
  rw [ha] at c1 hno hyes
  rw [hb'] at c3 hyes
  have HV := Lib.hid hv
  have HNX := Lib.hid hL
  have C2 := Lib.hid c2
  obtain ⟨A, c, rfl, -, -⟩ := hv
  clear c2 hX ha hb' hL hfew hfz hz
  cases a
  · have HU := Lib.hid (hno rfl)
    clear hno hyes
    go_enter Tryd.func29, Tryd.ntmps29
    go_wp2_with fail
    refine c1.mono ?_
    rintro e w1 ⟨rfl, hb1⟩
    go_wp2
    go_ret2
    exact se_ret HU.out hb1
  · have HU := Lib.hid (hyes rfl)
    clear hno hyes
    go_enter Tryd.func29, Tryd.ntmps29
    go_wp2_with fail
    refine c1.mono ?_
    rintro e w1 ⟨rfl, hb1⟩
    have HB1 := Lib.hid hb1
    clear hb1
    go_wp2_with fail
    refine (C2.out w1 (HV.out.on HB1.out) (HNX.out.below HB1.out)).mono ?_
    rintro e w2 ⟨rfl, hb2⟩
    have HB2 := Lib.hid (chn HB1.out hb2)
    clear hb2
    go_wp2_with fail
    refine (c3 w2).mono ?_
    rintro e w3 ⟨rfl, hb3⟩
    have hb4 := chn HB2.out hb3
    clear hb3
    cases b
    · go_wp2
      go_ret2
      exact se_ret HU.out hb4
    · go_wp2
      go_ret2
      exact se_ret HU.out hb4
end Go.Proofs.YtagocfifagnpkaaDoor
