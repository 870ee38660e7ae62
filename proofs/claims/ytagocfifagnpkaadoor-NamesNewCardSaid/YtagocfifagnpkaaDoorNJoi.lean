/-
  The program's Join, and what it calls: what they tell.
-/
import Derived.Test.YtagocfifagnpkaaDoorNLng
namespace Go.Proofs.YtagocfifagnpkaaDoor
open Go.RowKit

theorem isBad_any (s : ByteArray) (w : World) (hs : s.size ≤ 1000000000) : Calls Tryd.prog 33 #[.string s] w (NmPost (!nck s) w) := by
  have cK := check_any s w hs
  obtain ⟨a, ha⟩ : ∃ a, nck s = a := ⟨_, rfl⟩
  rw [ha] at cK ⊢
  clear ha
  cases a
  all_goals
    go_enter Tryd.func33, Tryd.ntmps33
    go_wp2_with fail
    refine cK.mono ?_
    rintro e w1 ⟨rfl, hb1⟩
    go_wp2
    go_ret
    exact ⟨rfl, hb1⟩
/-- Where the first text stands that is no name, or -1. -/
def IxPost (b : Bool) (W : World) (e : Ending) (w' : World) : Prop := ∃ z : Int, e = .returned (.int .i64 z) ∧ -1 ≤ z ∧ z ≤ 1000000 ∧ decide (0 ≤ z) = b ∧ Below W.heap.size W w'
theorem ix_ret {z : Int} {b : Bool} {W w' : World} (h0 : -1 ≤ z) (h1 : z ≤ 1000000) (h : decide (0 ≤ z) = b) (hb : Below W.heap.size W w') : IxPost b W (.returned (.int .i64 z)) w' := ⟨z, rfl, h0, h1, h, hb⟩
set_option maxHeartbeats 3200000 in
set_option maxRecDepth 100000 in
theorem index_any (l : List ByteArray) (v : Value) (w : World) (hv : Ss w w.heap.size v l) (hl : l.length ≤ 1000) (hz : ∀ x ∈ l, x.size ≤ 1000) :
    Calls Tryd.prog 45 #[v, .func (.func 33) #[] #[]] w (IxPost (!l.all nck) w) := by
  obtain ⟨A, c, rfl, hlc, hcl⟩ := hv
  have HCL := Lib.hid hcl
  have HZ := Lib.hid hz
  clear hcl hz
  go_enter Tryd.func45, Tryd.ntmps45
  go_wp2
  obtain ⟨n, hn⟩ : ∃ n, l.length = n := ⟨_, rfl⟩
  rw [hn] at hl hlc ⊢
  have HN := Lib.hid hn
  clear hn
  go_loopw [5, 8] (fun _ i wr => ∃ k : Nat, k ≤ n ∧ i = .int .i64 k ∧ Below w.heap.size w wr ∧ (∀ (j : Nat) y, j < k → l[j]? = some y → nck y = true)) (fun _ i _ => n - (intOf i).toNat)
  case atStart => exact ⟨0, Nat.zero_le _, rfl, Below.refl _ _, fun j y hj => absurd hj (Nat.not_lt_zero _)⟩
  case round =>
    obtain ⟨k, hk, rfl, hbw, hall⟩ := hrel
    have HALL := Lib.hid hall
    clear hall
    by_cases hlt : k < n
    · obtain ⟨y, hy⟩ : ∃ y, l[k]? = some y := ⟨_, List.getElem?_eq_getElem (by rw [HN.out]; exact hlt)⟩
      obtain ⟨b, o, rfl, hblt, hcell0⟩ := HCL.out k y hy
      have hcell := (hbw.cell (p := ⟨b, o + k, none⟩) hblt).trans hcell0
      have hyz := HZ.out y (List.mem_of_getElem? hy)
      have cB := fun W => isBad_any y W (by omega)
      have HY := Lib.hid hy
      have HBW := Lib.hid hbw
      have hbs := hbw.size
      obtain ⟨a, ha⟩ : ∃ a, nck y = a := ⟨_, rfl⟩
      rw [ha] at cB
      have HA := Lib.hid ha
      clear hy hyz ha hcell0 hbw
      cases a
      · go_wp2_with (go_at_call 33; refine (cB _).mono ?_; rintro e w2 ⟨rfl, hb2⟩)
        go_ret
        exact ix_ret (by omega) (by omega) (by rw [all_not HY.out HA.out, decide_eq_true (by omega)]; rfl) (HBW.out.trans (hb2.mono hbs))
      · go_wp2_with (go_at_call 33; refine (cB _).mono ?_; rintro e w2 ⟨rfl, hb2⟩)
        go_roundw
        case rel => exact ⟨k + 1, by omega, by go_num, HBW.out.trans (hb2.mono hbs), upto_next HALL.out HY.out HA.out⟩
        case measure => simp [intOf]; omega
    · have HBW := Lib.hid hbw
      have hkn : k = n := by omega
      subst hkn
      clear hbw
      go_wp2
      go_ret
      exact ix_ret (by omega) (by omega) (by rw [all_upto fun j y hj hy => HALL.out j y (by rw [← HN.out]; exact hj) hy]; rfl) HBW.out
set_option maxHeartbeats 1600000 in
set_option maxRecDepth 100000 in
theorem contains_any (l : List ByteArray) (v : Value) (w : World) (hv : Ss w w.heap.size v l) (hl : l.length ≤ 1000) (hz : ∀ x ∈ l, x.size ≤ 1000) :
    Calls Tryd.prog 32 #[v, .func (.func 33) #[] #[]] w (NmPost (!l.all nck) w) := by
  have cI := index_any l v w hv hl hz
  obtain ⟨b, hb⟩ : ∃ b, (!l.all nck) = b := ⟨_, rfl⟩
  rw [hb] at cI ⊢
  obtain ⟨A, c, rfl, -, -⟩ := hv
  clear hb hz hl
  go_enter Tryd.func32, Tryd.ntmps32
  go_wp2_with fail
  refine cI.mono ?_
  rintro e w1 ⟨z, rfl, h0, h1, hz, hb1⟩
  have HZ := Lib.hid hz
  clear hz
  go_wp2
  go_ret
  exact nm_ret HZ.out.symm hb1

/-! ### joined -/
theorem jn_len {M : Nat} : ∀ {xs : List (List UInt8)}, (∀ x ∈ xs, x.length ≤ M) → (jn xs).length ≤ xs.length * (M + 1)
  | [], _ => Nat.zero_le _
  | x :: r, h => by
    have ih := jn_len (xs := r) fun y hy => h y (by simp [hy])
    have hx := h x (by simp)
    by_cases hr : r = []
    · subst hr; rw [jn_one]; simp; omega
    · rw [jn_cons hr, List.length_append, List.length_cons, List.length_cons, Nat.succ_mul]; omega
theorem jb_len {l : List ByteArray} {M : Nat} (h : ∀ x ∈ l, x.size ≤ M) : (jb l).size ≤ l.length * (M + 1) := by
  unfold jb
  rw [tx_size]
  have := jn_len (M := M) (xs := l.map fun x => x.data.toList) (by
    intro x hx
    obtain ⟨y, hy, rfl⟩ := List.mem_map.1 hx
    rw [← Lib.size_eq]
    exact h y hy)
  rwa [List.length_map] at this
theorem join_txt (l : List ByteArray) : (⟨(Lib.join (l.map (·.data.toList)) (ByteArray.mk #[46]).data.toList).toArray⟩ : ByteArray) = jb l := by
  have : Lib.join (l.map (·.data.toList)) (ByteArray.mk #[46]).data.toList = jn (l.map fun x => x.data.toList) := join_jn _
  rw [this]
  rfl
theorem sjoin_any (l : List ByteArray) (v : Value) (w : World) (hv : Ss w w.heap.size v l) (hl : l.length ≤ 1000) (hz : ∀ x ∈ l, x.size ≤ 1000) :
    Calls Tryd.prog 34 #[v, .string ⟨#[46]⟩] w (TxPost (jb l) w) := by
  by_cases h0 : 0 < l.length
  · obtain ⟨b, o, c, rfl, hlc, hb, hcl⟩ := hv.form h0
    have hk := Tryd.strings_Join b o c l ⟨#[46]⟩ w hcl hb (by omega) hlc (by
      have h1 : (Lib.join (l.map (·.data.toList)) (ByteArray.mk #[46]).data.toList).length = (jb l).size := by rw [← join_txt, Lib.size_eq]
      rw [h1]
      have := jb_len hz
      have h2 : l.length * (1000 + 1) ≤ 1000 * 1001 := Nat.mul_le_mul hl (Nat.le_refl _)
      omega)
    rw [join_txt] at hk
    exact hk
  · have hl0 : l = [] := List.eq_nil_of_length_eq_zero (by omega)
    subst hl0
    obtain ⟨A, c, rfl, _, _⟩ := hv
    exact (Tryd.strings_Join_none A c ⟨#[46]⟩ w).mono fun _ _ k => ⟨k.1, by rw [k.2]; exact Below.refl _ _⟩
theorem jo_bad {l : List ByteArray} (h : l.all nck = false) : joR l = (⟨#[]⟩, 2) := jo_no (.inr (.inl h))
theorem jo_long {l : List ByteArray} {b : Bool} (h : l.all nck = true) (hb : long (jb l) = b) : joR l = if b then (jb l, 0) else (⟨#[]⟩, 2) := by
  subst hb
  by_cases hl : l = []
  · subst hl
    have : long (jb []) = false := by
      unfold long pc jb
      simp [jn, pcl, tx_list]
      intro _
      show (nm (tx []) && _) = false
      rw [nm_size (by decide)]
      rfl
    rw [this, jo_no (.inl rfl)]
    rfl
  · rw [long_jb hl h]
    by_cases hz : (jb l).size ≤ 128
    · rw [jo_yes hl h hz, decide_eq_true hz]; rfl
    · rw [jo_no (.inr (.inr hz)), decide_eq_false hz]; rfl
set_option maxHeartbeats 1600000 in
set_option maxRecDepth 100000 in
theorem join_any (l : List ByteArray) (v : Value) (w : World) (hv : Ss w w.heap.size v l) (hl : l.length ≤ 1000) (hz : ∀ x ∈ l, x.size ≤ 1000) (hL : Nx w) :
    Calls Tryd.prog 11 #[v] w (SePost (joR l) w) := by
  have c1 := contains_any l v w hv hl hz
  have c2 := fun W (hv : Ss W W.heap.size v l) => sjoin_any l v W hv hl hz
  have hjz : (jb l).size ≤ 1000000000 := by
    have := jb_len hz
    have h2 : l.length * (1000 + 1) ≤ 1000 * 1001 := Nat.mul_le_mul hl (Nat.le_refl _)
    omega
  have c3 := fun W (hL : Nx W) => long_any (jb l) W hjz hL
  have HV := Lib.hid hv
  obtain ⟨A, c, rfl, -, -⟩ := hv
  have hbad := jo_bad (l := l)
  have hlong := fun b => jo_long (l := l) (b := b)
  obtain ⟨a, ha⟩ : ∃ a, l.all nck = a := ⟨_, rfl⟩
  obtain ⟨b, hb⟩ : ∃ b, long (jb l) = b := ⟨_, rfl⟩
  rw [ha] at c1 hbad hlong
  rw [hb] at c3 hlong
  have HNX := Lib.hid hL
  have C2 := Lib.hid c2
  have C3 := Lib.hid c3
  clear ha hb c2 c3 hL
  obtain ⟨J, hJ⟩ : ∃ J, jb l = J := ⟨_, rfl⟩
  rw [hJ] at C2 C3 hjz hlong
  clear hJ
  cases a
  · have HU := Lib.hid (hbad rfl)
    clear hbad hlong
    go_enter Tryd.func11, Tryd.ntmps11
    go_wp2_with fail
    refine c1.mono ?_
    rintro e w1 ⟨rfl, hb1⟩
    go_wp2
    go_ret2
    exact se_ret HU.out hb1
  · have HU := Lib.hid (hlong b rfl rfl)
    clear hbad hlong
    go_enter Tryd.func11, Tryd.ntmps11
    go_wp2_with fail
    refine c1.mono ?_
    rintro e w1 ⟨rfl, hb1⟩
    have HB1 := Lib.hid hb1
    clear hb1
    go_wp2_with fail
    refine (C2.out w1 (HV.out.on HB1.out)).mono ?_
    rintro e w2 ⟨rfl, hb2⟩
    have HB2 := Lib.hid (chn HB1.out hb2)
    clear hb2
    go_wp2_with fail
    refine (C3.out w2 (HNX.out.below HB2.out)).mono ?_
    rintro e w3 ⟨rfl, hb3⟩
    have hb4 := chn HB2.out hb3
    clear hb3
    cases b
    · go_wp2
      go_ret2
      exact se_ret HU.out hb4
    · go_wp2
      go_ret2
      exact se_ret HU.out hb4
end Go.Proofs.YtagocfifagnpkaaDoor
