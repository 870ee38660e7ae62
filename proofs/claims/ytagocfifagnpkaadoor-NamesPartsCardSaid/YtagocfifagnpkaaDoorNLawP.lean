/-
  The law NamesParts: it returns true.
-/
import Derived.Test.YtagocfifagnpkaaDoorNFew
import Derived.Test.YtagocfifagnpkaaDoorNRm
namespace Go.Proofs.YtagocfifagnpkaaDoor
open Go.RowKit

set_option maxHeartbeats 12800000 in
set_option maxRecDepth 100000 in
theorem lawParts (s : ByteArray) (l : List ByteArray) (v : Value) (w : World) (hs : s.size ≤ 9223372036854775807) (hv : Sg w v l) (hz : ∀ x ∈ l, x.size ≤ 9223372036854775807) (hL : Nx w) :
    Calls Tryd.prog 3 #[.string s, v] w (NmPost true w) := by
  have k1 := fun W => few_any s W hs
  have k2 := fews_any l v w hv hz
  have z1 := fw_le s
  have z2 := fws_len l
  have z3 := fws_sz l
  obtain ⟨S, hS⟩ : ∃ S, fw s = S := ⟨_, rfl⟩
  obtain ⟨M, hM⟩ : ∃ M, fws l = M := ⟨_, rfl⟩
  rw [hS] at k1 z1
  rw [hM] at k2 z2 z3
  have z4 : ∀ x ∈ M, x.size ≤ 1000 := fun x hx => by have := z3 x hx; omega
  obtain ⟨A, c, rfl, -⟩ := hv
  have c1 := fun v W (hv : Ss W W.heap.size v M) (hL : Nx W) => join_any M v W hv (by omega) z4 hL
  have c2 := fun v W (hv : Ss W W.heap.size v M) => refJoin M v W hv (by omega) z4
  have c3 := fun W => check_any S W (by omega)
  have c4 := fun W => refCk S W (by omega)
  have c5 := fun W (hL : Nx W) => long_any S W (by omega) hL
  have c6 := fun W => refLong S W (by omega)
  have c7 := fun W (hL : Nx W) => split_any S W (by omega) hL
  have c8 := fun W => refSplit S W (by omega)
  have c9 := fun v v' W (h : Ss W W.heap.size v (splt S)) (h' : Ss W W.heap.size v' (splt S)) => sameTexts_self (splt S) v v' W h h' (by have := splt_count S; omega)
  have d1 := fun W (hL : Nx W) => head_any S W (by omega) hL
  have d2 := fun W => refHead S W (by omega)
  have d3 := fun W (hL : Nx W) => rest_any S W (by omega) hL
  have d4 := fun W => refRest S W (by omega)
  obtain ⟨X, z, hr⟩ : ∃ X z, joR M = (X, z) := ⟨_, _, rfl⟩
  obtain ⟨b1, hb1⟩ : ∃ b, nck S = b := ⟨_, rfl⟩
  obtain ⟨b2, hb2⟩ : ∃ b, long S = b := ⟨_, rfl⟩
  obtain ⟨L, hLs⟩ : ∃ L, splt S = L := ⟨_, rfl⟩
  obtain ⟨H, hH⟩ : ∃ H, hd S = H := ⟨_, rfl⟩
  obtain ⟨R, hR⟩ : ∃ R, rst S = R := ⟨_, rfl⟩
  rw [hr] at c1 c2
  rw [hb1] at c3 c4
  rw [hb2] at c5 c6
  rw [hLs] at c7 c8 c9
  rw [hH] at d1 d2
  rw [hR] at d3 d4
  have C1 := Lib.hid c1
  have C2 := Lib.hid c2
  have C5 := Lib.hid c5
  have C7 := Lib.hid c7
  have C9 := Lib.hid c9
  have D1 := Lib.hid d1
  have D3 := Lib.hid d3
  have HNX := Lib.hid hL
  clear hS hM hr hb1 hb2 hLs hH hR c1 c2 c5 c7 c9 d1 d3 hL z3 z4 hz
  go_enter Tryd.func3, Tryd.ntmps3
  go_wp2_with fail
  refine (k1 _).mono ?_
  rintro e w1 ⟨rfl, rfl⟩
  go_wp2_with fail
  refine k2.mono ?_
  rintro e w1 ⟨u, rfl, hu, hb⟩
  have HV := Lib.hid hu
  have HB1 := Lib.hid hb
  clear hu hb
  go_wp2_with fail
  refine (C1.out u w1 HV.out (HNX.out.below HB1.out)).mono ?_
  rintro e w2 ⟨rfl, hb⟩
  have HV2 := Lib.hid (HV.out.on hb)
  have HB2 := Lib.hid (chn HB1.out hb)
  clear hb
  go_wp2_with fail
  refine (C2.out u w2 HV2.out).mono ?_
  rintro e w3 ⟨rfl, hb⟩
  have HB3 := Lib.hid (chn HB2.out hb)
  clear hb
  go_wp2_with fail
  refine (c3 _).mono ?_
  rintro e w4 ⟨rfl, hb⟩
  have HB4 := Lib.hid (chn HB3.out hb)
  clear hb
  go_wp2_with fail
  refine (c4 _).mono ?_
  rintro e w5 ⟨rfl, hb⟩
  have HB5 := Lib.hid (chn HB4.out hb)
  clear hb
  go_wp2_with fail
  refine (C5.out w5 (HNX.out.below HB5.out)).mono ?_
  rintro e w6 ⟨rfl, hb⟩
  have HB6 := Lib.hid (chn HB5.out hb)
  clear hb
  go_wp2_with fail
  refine (c6 _).mono ?_
  rintro e w7 ⟨rfl, hb⟩
  have HB7 := Lib.hid (chn HB6.out hb)
  clear hb
  go_wp2_with fail
  refine (C7.out w7 (HNX.out.below HB7.out)).mono ?_
  rintro e w8 ⟨u1, rfl, hu, hb⟩
  have HU1 := Lib.hid hu
  have HB8 := Lib.hid (chn HB7.out hb)
  clear hu hb
  go_wp2_with fail
  refine (c8 _).mono ?_
  rintro e w9 ⟨u2, rfl, hu, hb⟩
  have HU2 := Lib.hid hu
  have HU1' := Lib.hid (HU1.out.on hb)
  have HB9 := Lib.hid (chn HB8.out hb)
  clear hu hb
  go_wp2_with fail
  refine (C9.out u1 u2 w9 HU1'.out HU2.out).mono ?_
  rintro e w10 ⟨rfl, hb⟩
  have HB10 := Lib.hid (chn HB9.out hb)
  clear hb
  go_wp2_with fail
  refine (D1.out w10 (HNX.out.below HB10.out)).mono ?_
  rintro e w11 ⟨rfl, hb⟩
  have HB11 := Lib.hid (chn HB10.out hb)
  clear hb
  go_wp2_with fail
  refine (d2 _).mono ?_
  rintro e w12 ⟨rfl, hb⟩
  have HB12 := Lib.hid (chn HB11.out hb)
  clear hb
  go_wp2_with fail
  refine (D3.out w12 (HNX.out.below HB12.out)).mono ?_
  rintro e w13 ⟨rfl, hb⟩
  have HB13 := Lib.hid (chn HB12.out hb)
  clear hb
  go_wp2_with fail
  refine (d4 _).mono ?_
  rintro e w14 ⟨rfl, hb⟩
  have HB14 := Lib.hid (chn HB13.out hb)
  clear hb
  go_wp2_with fail
  refine (works_any _ (HNX.out.below HB14.out)).mono ?_
  rintro e w15 ⟨rfl, hb⟩
  have HB15 := Lib.hid (chn HB14.out hb)
  clear hb
  go_wp2
  go_ret
  exact nm_ret rfl HB15.out
end Go.Proofs.YtagocfifagnpkaaDoor
