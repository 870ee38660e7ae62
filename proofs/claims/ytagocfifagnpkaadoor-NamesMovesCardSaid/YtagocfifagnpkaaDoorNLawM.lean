/-
  The laws NamesMoves and NamesThere: they return true.
-/
import Derived.Test.YtagocfifagnpkaaDoorNFew
import Derived.Test.YtagocfifagnpkaaDoorNRv
namespace Go.Proofs.YtagocfifagnpkaaDoor
open Go.RowKit

set_option maxHeartbeats 6400000 in
set_option maxRecDepth 100000 in
theorem lawMoves (s f t : ByteArray) (w : World) (hs : s.size ≤ 9223372036854775807) (hf : f.size ≤ 9223372036854775807) (ht : t.size ≤ 9223372036854775807) (hL : Nx w) :
    Calls Tryd.prog 4 #[.string s, .string f, .string t] w (NmPost true w) := by
  have k1 := fun W => few_any s W hs
  have k2 := fun W => few_any f W hf
  have k3 := fun W => few_any t W ht
  have z1 := fw_le s
  have z2 := fw_le f
  have z3 := fw_le t
  obtain ⟨S, hS⟩ : ∃ S, fw s = S := ⟨_, rfl⟩
  obtain ⟨F, hF⟩ : ∃ F, fw f = F := ⟨_, rfl⟩
  obtain ⟨P, hP⟩ : ∃ P, fw t = P := ⟨_, rfl⟩
  rw [hS] at k1 z1
  rw [hF] at k2 z2
  rw [hP] at k3 z3
  have c1 := fun W (hL : Nx W) => move_any S F P W (by omega) (by omega) (by omega) hL
  have c2 := fun W => refMove S F P W (by omega) (by omega) (by omega)
  have c3 := fun W (hL : Nx W) => under_any S F W (by omega) (by omega) hL
  have c4 := fun W => refUnder S F W (by omega) (by omega)
  obtain ⟨X, z, hr⟩ : ∃ X z, mvR S F P = (X, z) := ⟨_, _, rfl⟩
  obtain ⟨b, hb⟩ : ∃ b, und S F = b := ⟨_, rfl⟩
  rw [hr] at c1 c2
  rw [hb] at c3 c4
  have C1 := Lib.hid c1
  have C3 := Lib.hid c3
  have HNX := Lib.hid hL
  clear hS hF hP hr hb c1 c3 hL
  go_enter Tryd.func4, Tryd.ntmps4
  go_wp2_with fail
  refine (k1 _).mono ?_
  rintro e w1 ⟨rfl, rfl⟩
  go_wp2_with fail
  refine (k2 _).mono ?_
  rintro e w1 ⟨rfl, rfl⟩
  go_wp2_with fail
  refine (k3 _).mono ?_
  rintro e w1 ⟨rfl, rfl⟩
  go_wp2_with fail
  refine (C1.out w HNX.out).mono ?_
  rintro e w1 ⟨rfl, hb1⟩
  have HB1 := Lib.hid hb1
  clear hb1
  go_wp2_with fail
  refine (c2 _).mono ?_
  rintro e w2 ⟨rfl, hb2⟩
  have HB2 := Lib.hid (chn HB1.out hb2)
  clear hb2
  go_wp2_with fail
  refine (C3.out w2 (HNX.out.below HB2.out)).mono ?_
  rintro e w3 ⟨rfl, hb3⟩
  have HB3 := Lib.hid (chn HB2.out hb3)
  clear hb3
  go_wp2_with fail
  refine (c4 _).mono ?_
  rintro e w4 ⟨rfl, hb4⟩
  have HB4 := Lib.hid (chn HB3.out hb4)
  clear hb4
  go_wp2_with fail
  refine (works_any _ (HNX.out.below HB4.out)).mono ?_
  rintro e w5 ⟨rfl, hb5⟩
  have HB5 := Lib.hid (chn HB4.out hb5)
  clear hb5
  go_wp2
  go_ret
  exact nm_ret rfl HB5.out

theorem mv_err {s f t m : ByteArray} {z : Int} (h : mvR s f t = (m, z)) (hz : z ≠ 0) : m = ⟨#[]⟩ := by
  unfold mvR at h
  split at h
  · split at h
    · injection h with _ h; exact absurd h.symm hz
    · injection h with h _; exact h.symm
  · injection h with h _; exact h.symm
theorem mv_size {s f t m : ByteArray} {z : Int} (h : mvR s f t = (m, z)) : m.size ≤ 128 := by
  unfold mvR at h
  split at h
  · split at h
    · rename_i hz
      injection h with h _; rw [← h]; exact hz
    · injection h with h _; rw [← h]; exact Nat.zero_le _
  · injection h with h _; rw [← h]; exact Nat.zero_le _
set_option maxHeartbeats 6400000 in
set_option maxRecDepth 100000 in
theorem lawThere (s f t : ByteArray) (w : World) (hs : s.size ≤ 9223372036854775807) (hf : f.size ≤ 9223372036854775807) (ht : t.size ≤ 9223372036854775807) (hL : Nx w) :
    Calls Tryd.prog 7 #[.string s, .string f, .string t] w (NmPost true w) := by
  have k1 := fun W => few_any s W hs
  have k2 := fun W => few_any f W hf
  have k3 := fun W => few_any t W ht
  have z1 := fw_le s
  have z2 := fw_le f
  have z3 := fw_le t
  obtain ⟨S, hS⟩ : ∃ S, fw s = S := ⟨_, rfl⟩
  obtain ⟨F, hF⟩ : ∃ F, fw f = F := ⟨_, rfl⟩
  obtain ⟨P, hP⟩ : ∃ P, fw t = P := ⟨_, rfl⟩
  rw [hS] at k1 z1
  rw [hF] at k2 z2
  rw [hP] at k3 z3
  have c1 := fun W (hL : Nx W) => move_any S F P W (by omega) (by omega) (by omega) hL
  obtain ⟨X, z, hr⟩ : ∃ X z, mvR S F P = (X, z) := ⟨_, _, rfl⟩
  rw [hr] at c1
  have hxz := mv_size hr
  have C1 := Lib.hid c1
  have HNX := Lib.hid hL
  clear hS hF hP c1 hL
  by_cases h0 : z = 0
  · subst h0
    obtain ⟨r1, r2⟩ := mv_back hr
    have c2 := fun W (hL : Nx W) => move_any X P F W (by omega) (by omega) (by omega) hL
    have c3 := fun W (hL : Nx W) => under_any X P W (by omega) (by omega) hL
    rw [r1] at c3
    rw [r2] at c2
    have C2 := Lib.hid c2
    have C3 := Lib.hid c3
    clear hr r1 r2 c2 c3
    go_enter Tryd.func7, Tryd.ntmps7
    go_wp2_with fail
    refine (k1 _).mono ?_
    rintro e w1 ⟨rfl, rfl⟩
    go_wp2_with fail
    refine (k2 _).mono ?_
    rintro e w1 ⟨rfl, rfl⟩
    go_wp2_with fail
    refine (k3 _).mono ?_
    rintro e w1 ⟨rfl, rfl⟩
    go_wp2_with fail
    refine (C1.out w HNX.out).mono ?_
    rintro e w1 ⟨rfl, hb1⟩
    have HB1 := Lib.hid hb1
    clear hb1
    go_wp2_with fail
    refine (C2.out w1 (HNX.out.below HB1.out)).mono ?_
    rintro e w2 ⟨rfl, hb2⟩
    have HB2 := Lib.hid (chn HB1.out hb2)
    clear hb2
    go_wp2_with fail
    refine (C3.out w2 (HNX.out.below HB2.out)).mono ?_
    rintro e w3 ⟨rfl, hb3⟩
    have HB3 := Lib.hid (chn HB2.out hb3)
    clear hb3
    go_wp2_with fail
    refine (works_any _ (HNX.out.below HB3.out)).mono ?_
    rintro e w5 ⟨rfl, hb5⟩
    have HB5 := Lib.hid (chn HB3.out hb5)
    clear hb5
    go_wp2
    go_ret
    exact nm_ret rfl HB5.out
  · have hm := mv_err hr h0
    subst hm
    have hz1 : (z != 0) = true := by rw [bne_iff_ne]; exact h0
    have hz2 : (z == 0) = false := by rw [beq_eq_false_iff_ne]; exact h0
    clear hr
    go_enter Tryd.func7, Tryd.ntmps7
    go_wp2_with fail
    refine (k1 _).mono ?_
    rintro e w1 ⟨rfl, rfl⟩
    go_wp2_with fail
    refine (k2 _).mono ?_
    rintro e w1 ⟨rfl, rfl⟩
    go_wp2_with fail
    refine (k3 _).mono ?_
    rintro e w1 ⟨rfl, rfl⟩
    go_wp2_with fail
    refine (C1.out w HNX.out).mono ?_
    rintro e w1 ⟨rfl, hb1⟩
    have HB1 := Lib.hid hb1
    clear hb1
    go_wp2_with fail
    refine (works_any _ (HNX.out.below HB1.out)).mono ?_
    rintro e w5 ⟨rfl, hb5⟩
    have HB5 := Lib.hid (chn HB1.out hb5)
    clear hb5
    go_wp2
    go_ret
    exact nm_ret rfl HB5.out
end Go.Proofs.YtagocfifagnpkaaDoor
