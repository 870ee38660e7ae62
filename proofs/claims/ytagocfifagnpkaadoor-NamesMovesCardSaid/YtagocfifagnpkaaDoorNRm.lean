/-
  The document's Join and Move: what they tell.
-/
import Derived.Test.YtagocfifagnpkaaDoorNRu
import Derived.Test.YtagocfifagnpkaaDoorNMov
namespace Go.Proofs.YtagocfifagnpkaaDoor
open Go.RowKit

theorem jb_nil : jb [] = ⟨#[]⟩ := rfl
theorem nil_app (x : ByteArray) : (⟨#[]⟩ : ByteArray) ++ x = x := ba_ext (by rw [app_list]; rfl)
theorem jb_snoc {l : List ByteArray} (h : l ≠ []) (x : ByteArray) : jb (l ++ [x]) = jb l ++ ⟨#[46]⟩ ++ x := by
  unfold jb
  rw [List.map_append, jn_app (by simpa using h) (by simp), List.map_cons, List.map_nil, jn_one]
  apply ba_ext
  rw [app_list, app_list, tx_list, tx_list]
  simp
/-- What the loop has joined up to place k. -/
theorem jb_first {l : List ByteArray} {x : ByteArray} (h : l[0]? = some x) : jb (l.take (0 + 1)) = x := by
  rw [take_next h, List.take_zero, List.nil_append, jb_one]
theorem jb_more {l : List ByteArray} {k : Nat} {x : ByteArray} (h : l[k]? = some x) (hk : k ≠ 0) : jb (l.take (k + 1)) = jb (l.take k) ++ ⟨#[46]⟩ ++ x := by
  rw [take_next h]
  apply jb_snoc
  intro e
  have hlt := (List.getElem?_eq_some_iff.1 h).1
  have := congrArg List.length e
  rw [List.length_take, List.length_nil] at this
  omega
theorem jb_take {l : List ByteArray} (hz : ∀ x ∈ l, x.size ≤ 1000) (k : Nat) (hk : k ≤ 1000) : (jb (l.take k)).size ≤ 1001000 := by
  have h1 := jb_len (l := l.take k) (M := 1000) fun x hx => hz x (List.mem_of_mem_take hx)
  have h2 : (l.take k).length ≤ 1000 := by rw [List.length_take]; omega
  have h3 : (l.take k).length * (1000 + 1) ≤ 1000 * 1001 := Nat.mul_le_mul h2 (Nat.le_refl _)
  omega
set_option maxHeartbeats 3200000 in
set_option maxRecDepth 100000 in
theorem refJoin (l : List ByteArray) (v : Value) (w : World) (hv : Ss w w.heap.size v l) (hl : l.length ≤ 1000) (hz : ∀ x ∈ l, x.size ≤ 1000) :
    Calls Tryd.prog 12 #[v] w (SePost (joR l) w) := by
  obtain ⟨A, c, rfl, hlc, hcl⟩ := hv
  have HCL := Lib.hid hcl
  have HZ := Lib.hid hz
  clear hcl hz
  obtain ⟨n, hn⟩ : ∃ n, l.length = n := ⟨_, rfl⟩
  rw [hn] at hl hlc ⊢
  have HN := Lib.hid hn
  clear hn
  go_enter Tryd.func12, Tryd.ntmps12
  go_wp2
  go_loopw [4, 5] (fun s i wr => ∃ k : Nat, k ≤ n ∧ i = .int .i64 k ∧ s = .string (jb (l.take k)) ∧ Below w.heap.size w wr ∧ (∀ (j : Nat) y, j < k → l[j]? = some y → nck y = true)) (fun _ i _ => n - (intOf i).toNat)
  case atStart => exact ⟨0, Nat.zero_le _, rfl, rfl, Below.refl _ _, fun j y hj => absurd hj (Nat.not_lt_zero _)⟩
  case round =>
    obtain ⟨k, hk, rfl, rfl, hbw, hall⟩ := hrel
    have HALL := Lib.hid hall
    clear hall
    have hjz := jb_take HZ.out k (by omega)
    by_cases hlt : k < n
    · obtain ⟨y, hy⟩ : ∃ y, l[k]? = some y := ⟨_, List.getElem?_eq_getElem (by rw [HN.out]; exact hlt)⟩
      obtain ⟨b, o, rfl, hblt, hcell0⟩ := HCL.out k y hy
      have hcell := (hbw.cell (p := ⟨b, o + k, none⟩) hblt).trans hcell0
      have hyz := HZ.out y (List.mem_of_getElem? hy)
      have cK := fun W => refCk y W (by omega)
      have HBW := Lib.hid hbw
      have hbs := hbw.size
      obtain ⟨a, ha⟩ : ∃ a, nck y = a := ⟨_, rfl⟩
      rw [ha] at cK
      have HA := Lib.hid ha
      clear ha hbw
      cases a
      · have HY := Lib.hid hy
        clear hy
        go_wp2_with fail
        refine (cK _).mono ?_
        rintro e w2 ⟨rfl, hb2⟩
        have hfin := HBW.out.trans (hb2.mono hbs)
        clear hb2
        go_wp2
        go_ret2
        exact se_ret (jo_bad (all_not HY.out HA.out)) hfin
      · by_cases hk0 : k = 0
        · subst hk0
          have HJ := Lib.hid (jb_first hy)
          have HY := Lib.hid hy
          clear hy
          have e0 : jb (l.take 0) = ⟨#[]⟩ := rfl
          rw [e0]
          rw [Nat.add_zero] at hcell
          clear hjz e0
          go_wp2_with fail
          refine (cK _).mono ?_
          rintro e w2 ⟨rfl, hb2⟩
          have hbw2 := HBW.out.trans (hb2.mono hbs)
          have hcell2 := (hb2.cell (p := ⟨b, o, none⟩) (Nat.lt_of_lt_of_le hblt hbs)).trans hcell
          clear hb2 hcell hcell0
          go_wp2
          go_roundw
          case rel => exact ⟨0 + 1, by omega, by go_num, by rw [HJ.out]; first | rfl | exact congrArg Value.string (nil_app _), hbw2, upto_next HALL.out HY.out HA.out⟩
          case measure => simp [intOf]; omega
        · have HJ := Lib.hid (jb_more hy hk0)
          have HY := Lib.hid hy
          clear hy
          obtain ⟨J, hJ⟩ : ∃ J, jb (l.take k) = J := ⟨_, rfl⟩
          rw [hJ] at HJ hjz ⊢
          clear hJ
          have hkz : (0 : Int) < (k : Int) := by omega
          have hs1 : (J ++ (⟨#[46]⟩ : ByteArray)).size = J.size + 1 := app_size _ _
          go_wp2_with fail
          refine (cK _).mono ?_
          rintro e w2 ⟨rfl, hb2⟩
          have hbw2 := HBW.out.trans (hb2.mono hbs)
          have hcell2 := (hb2.cell (p := ⟨b, o + k, none⟩) (Nat.lt_of_lt_of_le hblt hbs)).trans hcell
          clear hb2 hcell hcell0
          go_wp2
          go_roundw
          case rel => exact ⟨k + 1, by omega, by go_num, by rw [HJ.out], hbw2, upto_next HALL.out HY.out HA.out⟩
          case measure => simp [intOf]; omega
    · have hkn : k = n := by omega
      subst hkn
      have e0 : l.take k = l := List.take_of_length_le (by rw [HN.out]; exact Nat.le_refl _)
      rw [e0] at hjz ⊢
      have hyes := fun h1 h2 => jo_yes (l := l) h1 (all_upto fun j y hj hy => HALL.out j y (by rw [← HN.out]; exact hj) hy) h2
      have hno := jo_no (l := l)
      have HBW := Lib.hid hbw
      obtain ⟨J, hJ⟩ : ∃ J, jb l = J := ⟨_, rfl⟩
      rw [hJ] at hyes hno hjz ⊢
      clear hJ e0 hbw
      by_cases h0 : k = 0
      · have hz0 : ((k : Int) == 0) = true := by rw [beq_iff_eq]; omega
        have HU := Lib.hid (hno (.inl (List.eq_nil_of_length_eq_zero (by rw [HN.out]; exact h0))))
        clear hyes hno
        go_wp2
        go_ret2
        exact se_ret HU.out HBW.out
      · have hz0 : ((k : Int) == 0) = false := by rw [beq_eq_false_iff_ne]; omega
        by_cases hbig : J.size ≤ 128
        · have hz1 : ¬ (128 : Int) < (J.size : Int) := by omega
          have HU := Lib.hid (hyes (by rintro rfl; exact h0 HN.out.symm) hbig)
          clear hyes hno
          go_wp2
          go_ret2
          exact se_ret HU.out HBW.out
        · have hz1 : (128 : Int) < (J.size : Int) := by omega
          have HU := Lib.hid (hno (.inr (.inr hbig)))
          clear hyes hno
          go_wp2
          go_ret2
          exact se_ret HU.out HBW.out
end Go.Proofs.YtagocfifagnpkaaDoor
