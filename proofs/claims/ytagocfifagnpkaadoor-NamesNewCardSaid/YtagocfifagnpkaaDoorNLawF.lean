/-
  The laws NamesFresh and NamesNew: they return true.
-/
import Derived.Test.YtagocfifagnpkaaDoorNFew
import Derived.Test.YtagocfifagnpkaaDoorNRf
namespace Go.Proofs.YtagocfifagnpkaaDoor
open Go.RowKit

set_option maxHeartbeats 6400000 in
set_option maxRecDepth 100000 in
theorem lawFresh (s : ByteArray) (l : List ByteArray) (v : Value) (w : World) (hs : s.size ≤ 9223372036854775807) (hv : Sg w v l) (hz : ∀ x ∈ l, x.size ≤ 9223372036854775807) (hL : Nx w) :
    Calls Tryd.prog 5 #[.string s, v] w (NmPost true w) := by
  have k1 := fun W => few_any s W hs
  have k2 := fews_any l v w hv hz
  have z1 := fw_le s
  have z2 := fws_len l
  have z3 := fws_sz l
  obtain ⟨S, hS⟩ : ∃ S, fw s = S := ⟨_, rfl⟩
  obtain ⟨M, hM⟩ : ∃ M, fws l = M := ⟨_, rfl⟩
  rw [hS] at k1 z1
  rw [hM] at k2 z2 z3
  have z4 : ∀ x ∈ M, x.size ≤ 1000 := fun x hx => by have := z3 x hx; omega
  obtain ⟨A, c, rfl, -⟩ := hv
  have c1 := fun v W (hv : Ss W W.heap.size v M) (hL : Nx W) => fresh_any S M v W hv (by omega) z4 (by omega) hL
  have c2 := fun v W (hv : Ss W W.heap.size v M) => refFresh S M v W hv (by omega) (by omega)
  obtain ⟨X, z, hr⟩ : ∃ X z, frR S M = (X, z) := ⟨_, _, rfl⟩
  rw [hr] at c1 c2
  have C1 := Lib.hid c1
  have C2 := Lib.hid c2
  have HNX := Lib.hid hL
  clear hS hM hr c1 c2 hL z3 z4 hz
  go_enter Tryd.func5, Tryd.ntmps5
  go_wp2_with fail
  refine (k1 _).mono ?_
  rintro e w1 ⟨rfl, rfl⟩
  go_wp2_with fail
  refine k2.mono ?_
  rintro e w1 ⟨u, rfl, hu, hb⟩
  have HV := Lib.hid hu
  have HB1 := Lib.hid hb
  clear hu hb
  go_wp2_with fail
  refine (C1.out u w1 HV.out (HNX.out.below HB1.out)).mono ?_
  rintro e w2 ⟨rfl, hb⟩
  have HV2 := Lib.hid (HV.out.on hb)
  have HB2 := Lib.hid (chn HB1.out hb)
  clear hb
  go_wp2_with fail
  refine (C2.out u w2 HV2.out).mono ?_
  rintro e w3 ⟨rfl, hb⟩
  have HB3 := Lib.hid (chn HB2.out hb)
  clear hb
  go_wp2_with fail
  refine (works_any _ (HNX.out.below HB3.out)).mono ?_
  rintro e w4 ⟨rfl, hb⟩
  have HB4 := Lib.hid (chn HB3.out hb)
  clear hb
  go_wp2
  go_ret
  exact nm_ret rfl HB4.out

/-! ### New -/
theorem fr_err {s m : ByteArray} {l : List ByteArray} {z : Int} (h : frR s l = (m, z)) (hz : z ≠ 0) : m = ⟨#[]⟩ := by
  unfold frR at h
  split at h
  · split at h
    · injection h with _ h; exact absurd h.symm hz
    · injection h with h _; exact h.symm
  · injection h with h _; exact h.symm
theorem pre_app (s t : ByteArray) : (s ++ t).extract 0 s.size = s := by
  apply ba_ext
  rw [Lib.extract_data, app_list, List.drop_zero, Nat.sub_zero, Lib.size_eq, List.take_left]
theorem fr_good {s m : ByteArray} {l : List ByteArray} (h : frR s l = (m, 0)) : nck m = true ∧ m ∉ l ∧ s.size ≤ m.size ∧ m.size ≤ 32 ∧ m.extract 0 s.size = s ∧ (s ∉ l → m = s) := by
  have hf := fre_is s l
  cases hn : nck s
  · rw [fr_no hn] at h; cases h
  · rw [fr_yes hn hf] at h
    cases hk : nck (frk s (fre s l))
    · rw [hk] at h; cases h
    · rw [hk] at h
      injection h with h _
      rw [h] at hk
      have hm2 := hf.2
      rw [h] at hm2
      have hpre : s.size ≤ m.size ∧ m.extract 0 s.size = s := by
        rw [← h]
        unfold frk
        split
        · exact ⟨Nat.le_refl _, extract_all s⟩
        · exact ⟨by rw [app_size]; omega, pre_app _ _⟩
      refine ⟨hk, hm2, hpre.1, (nck_size hk).2, hpre.2, fun hns => ?_⟩
      have : fre s l = 0 := fre_eq ⟨fun j hj => absurd hj (Nat.not_lt_zero _), hns⟩
      rw [this] at h
      exact h.symm
set_option maxHeartbeats 6400000 in
set_option maxRecDepth 100000 in
theorem lawNew (s : ByteArray) (l : List ByteArray) (v : Value) (w : World) (hs : s.size ≤ 9223372036854775807) (hv : Sg w v l) (hz : ∀ x ∈ l, x.size ≤ 9223372036854775807) (hL : Nx w) :
    Calls Tryd.prog 8 #[.string s, v] w (NmPost true w) := by
  have k1 := fun W => few_any s W hs
  have k2 := fews_any l v w hv hz
  have z1 := fw_le s
  have z2 := fws_len l
  have z3 := fws_sz l
  obtain ⟨S, hS⟩ : ∃ S, fw s = S := ⟨_, rfl⟩
  obtain ⟨M, hM⟩ : ∃ M, fws l = M := ⟨_, rfl⟩
  rw [hS] at k1 z1
  rw [hM] at k2 z2 z3
  have z4 : ∀ x ∈ M, x.size ≤ 1000 := fun x hx => by have := z3 x hx; omega
  obtain ⟨A, c, rfl, -⟩ := hv
  have c1 := fun v W (hv : Ss W W.heap.size v M) (hL : Nx W) => fresh_any S M v W hv (by omega) z4 (by omega) hL
  obtain ⟨X, z, hr⟩ : ∃ X z, frR S M = (X, z) := ⟨_, _, rfl⟩
  rw [hr] at c1
  have C1 := Lib.hid c1
  have HNX := Lib.hid hL
  clear hS hM c1 hL z3 z4 hz
  by_cases h0 : z = 0
  · subst h0
    obtain ⟨r1, r2, r3, r4, r5, r6⟩ := fr_good hr
    have c3 := fun W => check_any X W (by omega)
    rw [r1] at c3
    have HR2 := Lib.hid r2
    have HR6 := Lib.hid r6
    have hze : (S.size : Int) ≤ (X.size : Int) := by omega
    have e5 : ((X.extract 0 S.size).toList == S.toList) = true := by rw [r5]; exact (txt_eq rfl).1
    clear hr r1 r2 r5 r6
    go_enter Tryd.func8, Tryd.ntmps8
    go_wp2_with fail
    refine (k1 _).mono ?_
    rintro e w1 ⟨rfl, rfl⟩
    go_wp2_with fail
    refine k2.mono ?_
    rintro e w1 ⟨u, rfl, hu, hb⟩
    have HV := Lib.hid hu
    have HB1 := Lib.hid hb
    clear hu hb
    go_wp2_with fail
    refine (C1.out u w1 HV.out (HNX.out.below HB1.out)).mono ?_
    rintro e w2 ⟨rfl, hb⟩
    have HV2 := Lib.hid (HV.out.on hb)
    have HB2 := Lib.hid (chn HB1.out hb)
    clear hb
    go_wp2_with fail
    refine (has_any M u S w2 HV2.out (by omega)).mono ?_
    rintro e w' ⟨b, hm, rfl, rfl⟩
    have HM := Lib.hid hm
    clear hm
    have hX : b = false → (X.toList == S.toList) = true := by
      rintro rfl
      have : S ∉ M := fun h => by have := HM.out.2 h; cases this
      rw [HR6.out this]
      exact (txt_eq rfl).1
    cases b
    · have hX := hX rfl
      go_wp2_with fail
      refine (c3 w2).mono ?_
      rintro e w3 ⟨rfl, hb⟩
      have HV3 := Lib.hid (HV2.out.on hb)
      have HB3 := Lib.hid (chn HB2.out hb)
      clear hb
      go_wp2_with fail
      refine (has_any M u X w3 HV3.out (by omega)).mono ?_
      rintro e w' ⟨b, hm, rfl, rfl⟩
      have hbf : b = false := by
        cases b
        · rfl
        · exact absurd (hm.1 rfl) HR2.out
      subst hbf
      clear hm
      go_wp2_with fail
      refine (works_any _ (HNX.out.below HB3.out)).mono ?_
      rintro e w4 ⟨rfl, hb⟩
      have HB4 := Lib.hid (chn HB3.out hb)
      clear hb
      go_wp2
      go_ret
      exact nm_ret rfl HB4.out
    · clear hX
      go_wp2_with fail
      refine (c3 w2).mono ?_
      rintro e w3 ⟨rfl, hb⟩
      have HV3 := Lib.hid (HV2.out.on hb)
      have HB3 := Lib.hid (chn HB2.out hb)
      clear hb
      go_wp2_with fail
      refine (has_any M u X w3 HV3.out (by omega)).mono ?_
      rintro e w' ⟨b, hm, rfl, rfl⟩
      have hbf : b = false := by
        cases b
        · rfl
        · exact absurd (hm.1 rfl) HR2.out
      subst hbf
      clear hm
      go_wp2_with fail
      refine (works_any _ (HNX.out.below HB3.out)).mono ?_
      rintro e w4 ⟨rfl, hb⟩
      have HB4 := Lib.hid (chn HB3.out hb)
      clear hb
      go_wp2
      go_ret
      exact nm_ret rfl HB4.out
  · have hm := fr_err hr h0
    subst hm
    have hz1 : (z != 0) = true := by rw [bne_iff_ne]; exact h0
    have hz2 : (z == 0) = false := by rw [beq_eq_false_iff_ne]; exact h0
    clear hr
    go_enter Tryd.func8, Tryd.ntmps8
    go_wp2_with fail
    refine (k1 _).mono ?_
    rintro e w1 ⟨rfl, rfl⟩
    go_wp2_with fail
    refine k2.mono ?_
    rintro e w1 ⟨u, rfl, hu, hb⟩
    have HV := Lib.hid hu
    have HB1 := Lib.hid hb
    clear hu hb
    go_wp2_with fail
    refine (C1.out u w1 HV.out (HNX.out.below HB1.out)).mono ?_
    rintro e w2 ⟨rfl, hb⟩
    have HB2 := Lib.hid (chn HB1.out hb)
    clear hb
    go_wp2_with fail
    refine (works_any _ (HNX.out.below HB2.out)).mono ?_
    rintro e w4 ⟨rfl, hb⟩
    have HB4 := Lib.hid (chn HB2.out hb)
    clear hb
    go_wp2
    go_ret
    exact nm_ret rfl HB4.out
end Go.Proofs.YtagocfifagnpkaaDoor
