/-
  The law NamesBack: it returns true.
-/
import Derived.Test.YtagocfifagnpkaaDoorNFew
import Derived.Test.YtagocfifagnpkaaDoorNJoi
namespace Go.Proofs.YtagocfifagnpkaaDoor
open Go.RowKit

theorem txt_self (x : ByteArray) : (x.toList == x.toList) = true := by simp
theorem back_is {s : ByteArray} (h : long s = true) : nck (hd s) = true ∧ (hd s).size ≤ 128 ∧ (rst s).size ≤ 128 ∧
    ((hd s = s ∧ rst s = ⟨#[]⟩) ∨ (1 ≤ (rst s).size ∧ hd s ++ ⟨#[46]⟩ ++ rst s = s ∧ long (rst s) = true)) := by
  obtain ⟨hz, hn⟩ := long_is.1 h
  cases hp : pc s with
  | nil => exact absurd hp (pc_ne s)
  | cons x r =>
    rw [hp] at hn
    cases r with
    | nil =>
      obtain ⟨k1, k2⟩ := long_one h hp
      have e := jb_pc s
      rw [hp, jb_one] at e
      have hx : nck x = true := (List.all_eq_true.1 hn) x (by simp)
      rw [k1, k2]
      exact ⟨by rw [← e]; exact hx, hz, Nat.zero_le _, .inl ⟨rfl, rfl⟩⟩
    | cons y t =>
      obtain ⟨k1, k2, k3⟩ := long_more h hp
      have hx : nck x = true := (List.all_eq_true.1 hn) x (by simp)
      have hr : (y :: t).all nck = true := by
        rw [List.all_eq_true]
        exact fun z hz => (List.all_eq_true.1 hn) z (List.mem_cons_of_mem _ hz)
      have hzz : s.size = x.size + 1 + (jb (y :: t)).size := by
        conv => lhs; rw [k3]
        rw [app_size, app_size, tx_size]
        rfl
      have h1 := jb_ne (l := y :: t) (by simp) hr
      rw [k1, k2]
      exact ⟨hx, by omega, by omega, .inr ⟨h1, k3.symm, by rw [long_jb (by simp) hr, decide_eq_true (by omega)]⟩⟩
set_option maxHeartbeats 6400000 in
set_option maxRecDepth 100000 in
theorem lawBack (s : ByteArray) (w : World) (hs : s.size ≤ 9223372036854775807) (hL : Nx w) :
    Calls Tryd.prog 6 #[.string s] w (NmPost true w) := by
  have k1 := fun W => few_any s W hs
  have z1 := fw_le s
  obtain ⟨S, hS⟩ : ∃ S, fw s = S := ⟨_, rfl⟩
  rw [hS] at k1 z1
  have c1 := fun W (hL : Nx W) => split_any S W (by omega) hL
  have c2 := fun W (hL : Nx W) => long_any S W (by omega) hL
  have c4 := fun W (hL : Nx W) => head_any S W (by omega) hL
  have c5 := fun W (hL : Nx W) => rest_any S W (by omega) hL
  have hnot := splt_not (s := S)
  have hpn := parts_not (s := S)
  have hjo := jo_back (s := S)
  have hbk := back_is (s := S)
  have q1 := splt_count S
  have q2 := splt_sz S
  have q3 := splt_len S
  obtain ⟨b, hb⟩ : ∃ b, long S = b := ⟨_, rfl⟩
  obtain ⟨L, hLs⟩ : ∃ L, splt S = L := ⟨_, rfl⟩
  obtain ⟨H, hH⟩ : ∃ H, hd S = H := ⟨_, rfl⟩
  obtain ⟨R, hR⟩ : ∃ R, rst S = R := ⟨_, rfl⟩
  rw [hb] at c2 hnot hpn hjo hbk q3
  rw [hLs] at c1 hnot hjo q1 q2 q3
  rw [hH] at c4 hpn hbk
  rw [hR] at c5 hpn hbk
  have C1 := Lib.hid c1
  have C2 := Lib.hid c2
  have C4 := Lib.hid c4
  have C5 := Lib.hid c5
  have HNX := Lib.hid hL
  cases b
  · obtain ⟨p1, p2⟩ := hpn rfl
    have hl0 := hnot rfl
    subst hl0
    subst p1
    subst p2
    clear hS hb hLs hH hR c1 c2 c4 c5 hL hnot hpn hjo hbk q1 q2 q3
    go_enter Tryd.func6, Tryd.ntmps6
    go_wp2_with fail
    refine (k1 _).mono ?_
    rintro e w1 ⟨rfl, rfl⟩
    go_wp2_with fail
    refine (C1.out w HNX.out).mono ?_
    rintro e w1 ⟨v, rfl, ⟨A, c, rfl, -, -⟩, hb⟩
    have HB1 := Lib.hid hb
    clear hb
    go_wp2_with fail
    refine (C2.out w1 (HNX.out.below HB1.out)).mono ?_
    rintro e w2 ⟨rfl, hb⟩
    have HB2 := Lib.hid (chn HB1.out hb)
    clear hb
    go_wp2_with fail
    refine (C4.out w2 (HNX.out.below HB2.out)).mono ?_
    rintro e w3 ⟨rfl, hb⟩
    have HB3 := Lib.hid (chn HB2.out hb)
    clear hb
    go_wp2_with fail
    refine (C5.out w3 (HNX.out.below HB3.out)).mono ?_
    rintro e w4 ⟨rfl, hb⟩
    have HB4 := Lib.hid (chn HB3.out hb)
    clear hb
    go_wp2_with fail
    refine (works_any _ (HNX.out.below HB4.out)).mono ?_
    rintro e w5 ⟨rfl, hb⟩
    have HB5 := Lib.hid (chn HB4.out hb)
    clear hb
    go_wp2
    go_ret
    exact nm_ret rfl HB5.out
  · have hjo := hjo rfl
    obtain ⟨p1, p2, p3, p4⟩ := hbk rfl
    have c3 := fun v W (hv : Ss W W.heap.size v L) (hL : Nx W) => join_any L v W hv (by omega) (fun x hx => by have := q2 x hx; omega) hL
    rw [hjo] at c3
    have C3 := Lib.hid c3
    have c6 := fun W => check_any H W (by omega)
    rw [p1] at c6
    have c7 := fun W (hL : Nx W) => long_any R W (by omega) hL
    clear hS hb hLs hH hR c1 c2 c3 c4 c5 hL hnot hpn hjo hbk q1 q2 q3 p1
    rcases p4 with ⟨rfl, rfl⟩ | ⟨p4, p5, p6⟩
    · clear c7
      go_enter Tryd.func6, Tryd.ntmps6
      go_wp2_with fail
      refine (k1 _).mono ?_
      rintro e w1 ⟨rfl, rfl⟩
      go_wp2_with fail
      refine (C1.out w HNX.out).mono ?_
      rintro e w1 ⟨v, rfl, hv, hb⟩
      have HV1 := Lib.hid hv
      have HB1 := Lib.hid hb
      clear hv hb
      go_wp2_with fail
      refine (C2.out w1 (HNX.out.below HB1.out)).mono ?_
      rintro e w2 ⟨rfl, hb⟩
      have HV2 := Lib.hid (HV1.out.on hb)
      have HB2 := Lib.hid (chn HB1.out hb)
      clear hb
      go_wp2_with fail
      refine (C3.out v w2 HV2.out (HNX.out.below HB2.out)).mono ?_
      rintro e w3 ⟨rfl, hb⟩
      have HB3 := Lib.hid (chn HB2.out hb)
      clear hb
      go_wp2_with fail
      refine (C4.out w3 (HNX.out.below HB3.out)).mono ?_
      rintro e w4 ⟨rfl, hb⟩
      have HB4 := Lib.hid (chn HB3.out hb)
      clear hb
      go_wp2_with fail
      refine (C5.out w4 (HNX.out.below HB4.out)).mono ?_
      rintro e w5 ⟨rfl, hb⟩
      have HB5 := Lib.hid (chn HB4.out hb)
      clear hb
      go_wp2_with fail
      refine (c6 _).mono ?_
      rintro e w6 ⟨rfl, hb⟩
      have HB6 := Lib.hid (chn HB5.out hb)
      clear hb
      go_wp2_with fail
      refine (works_any _ (HNX.out.below HB6.out)).mono ?_
      rintro e w7 ⟨rfl, hb⟩
      have HB7 := Lib.hid (chn HB6.out hb)
      clear hb
      go_wp2
      go_ret
      exact nm_ret rfl HB7.out
    · rw [p6] at c7
      have C7 := Lib.hid c7
      have hRl : R.toList ≠ [] := by
        rw [Lib.toList_data]
        intro e
        rw [Lib.size_eq, e] at p4
        simp at p4
      have hRe : R.toList.isEmpty = false := by cases h : R.toList with | nil => exact absurd h hRl | cons a b => rfl
      have hsz1 : (H ++ (⟨#[46]⟩ : ByteArray)).size = H.size + 1 := app_size _ _
      have e5 : ((H ++ (⟨#[46]⟩ : ByteArray) ++ R).toList == S.toList) = true := by rw [p5]; exact txt_self S
      clear c7 p5 p6
      go_enter Tryd.func6, Tryd.ntmps6
      go_wp2_with fail
      refine (k1 _).mono ?_
      rintro e w1 ⟨rfl, rfl⟩
      go_wp2_with fail
      refine (C1.out w HNX.out).mono ?_
      rintro e w1 ⟨v, rfl, hv, hb⟩
      have HV1 := Lib.hid hv
      have HB1 := Lib.hid hb
      clear hv hb
      go_wp2_with fail
      refine (C2.out w1 (HNX.out.below HB1.out)).mono ?_
      rintro e w2 ⟨rfl, hb⟩
      have HV2 := Lib.hid (HV1.out.on hb)
      have HB2 := Lib.hid (chn HB1.out hb)
      clear hb
      go_wp2_with fail
      refine (C3.out v w2 HV2.out (HNX.out.below HB2.out)).mono ?_
      rintro e w3 ⟨rfl, hb⟩
      have HB3 := Lib.hid (chn HB2.out hb)
      clear hb
      go_wp2_with fail
      refine (C4.out w3 (HNX.out.below HB3.out)).mono ?_
      rintro e w4 ⟨rfl, hb⟩
      have HB4 := Lib.hid (chn HB3.out hb)
      clear hb
      go_wp2_with fail
      refine (C5.out w4 (HNX.out.below HB4.out)).mono ?_
      rintro e w5 ⟨rfl, hb⟩
      have HB5 := Lib.hid (chn HB4.out hb)
      clear hb
      go_wp2_with fail
      refine (c6 _).mono ?_
      rintro e w6 ⟨rfl, hb⟩
      have HB6 := Lib.hid (chn HB5.out hb)
      clear hb
      go_wp2_with fail
      refine (C7.out w6 (HNX.out.below HB6.out)).mono ?_
      rintro e w7 ⟨rfl, hb⟩
      have HB7 := Lib.hid (chn HB6.out hb)
      clear hb
      go_wp2_with fail
      refine (works_any _ (HNX.out.below HB7.out)).mono ?_
      rintro e w8 ⟨rfl, hb⟩
      have HB8 := Lib.hid (chn HB7.out hb)
      clear hb
      go_wp2
      go_ret
      exact nm_ret rfl HB8.out
end Go.Proofs.YtagocfifagnpkaaDoor
