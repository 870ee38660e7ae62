/-
  The document's Name: what it tells.
-/
import Derived.Test.YtagocfifagnpkaaDoorNRefR
namespace Go.Proofs.YtagocfifagnpkaaDoor
open Go.RowKit

/-- A name by its runes. -/
def nmr (s : ByteArray) : Bool := vls s 0 && decide (1 ≤ s.size ∧ s.size ≤ 32) && nmL (rns s 0)
theorem nmr_eq (s : ByteArray) : nmr s = nm s := by
  unfold nmr nm
  rw [nm_list]
  cases hv : vls s 0
  · have := nm_bad s 0 hv
    rw [nm_list] at this
    simp [this]
  · simp
theorem all_get {l : List Nat} {f : Nat → Bool} : (∀ (j x : Nat), l[j]? = some x → f x = true) → l.all f = true := by
  intro h
  rw [List.all_eq_true]
  intro x hx
  obtain ⟨j, hj⟩ := List.getElem?_of_mem hx
  exact h j x hj
/-- Each rune up to k may stand where it does. -/
def okUp (l : List Nat) (k : Nat) : Prop := ∀ (j x : Nat), j < k → l[j]? = some x → mst x (decide (j = 0)) = true
theorem okUp_next {l : List Nat} {k x : Nat} (h : okUp l k) (hx : l[k]? = some x) (hm : mst x (decide (k = 0)) = true) : okUp l (k + 1) := by
  intro j y hj hy
  by_cases e : j = k
  · subst e
    rw [hx] at hy
    cases hy
    exact hm
  · exact h j y (by omega) hy
theorem nmL_of {l : List Nat} (h : okUp l l.length) : nmL l = true := by
  cases l with
  | nil => rfl
  | cons r t =>
    unfold nmL
    rw [Bool.and_eq_true]
    refine ⟨h 0 r (by simp) rfl, all_get fun j x hx => ?_⟩
    have hj : j < t.length := by
      rcases Nat.lt_or_ge j t.length with h' | h'
      · exact h'
      · rw [List.getElem?_eq_none h'] at hx; cases hx
    exact h (j + 1) x (by simp; omega) (by simpa using hx)
theorem nmL_not {l : List Nat} {k x : Nat} (hx : l[k]? = some x) (hm : mst x (decide (k = 0)) = false) : nmL l = false := by
  cases l with
  | nil => simp at hx
  | cons r t =>
    cases k with
    | zero =>
      simp at hx
      subst hx
      show (mst r true && _) = false
      rw [show mst (r : Int) true = false from hm, Bool.false_and]
    | succ k =>
      have hx' : t[k]? = some x := by simpa using hx
      have hm' : mst (x : Int) false = false := hm
      show (_ && t.all _) = false
      rw [Bool.and_eq_false_iff]
      right
      rw [List.all_eq_false]
      exact ⟨x, List.mem_of_getElem? hx', by rw [hm']; simp⟩
set_option maxHeartbeats 3200000 in
set_option maxRecDepth 100000 in
theorem refName (s : ByteArray) (w : World) (hs : s.size ≤ 1000000000) :
    Calls Tryd.prog 37 #[.string s] w (NmPost (nm s) w) := by
  rw [← nmr_eq]
  obtain ⟨ANS, hans⟩ : ∃ b, nmr s = b := ⟨_, rfl⟩
  rw [hans]
  have cD := refDecode s w hs
  unfold DecPost at cD
  by_cases hgo : vls s 0 = true ∧ 1 ≤ s.size ∧ s.size ≤ 32
  · obtain ⟨hv, h1, h2⟩ := hgo
    rw [er_true hv, rl_true hv] at cD
    have hA : nmL (rns s 0) = ANS := by rw [← hans]; unfold nmr; rw [hv, decide_eq_true ⟨h1, h2⟩]; simp
    have HA := Lib.hid hA
    clear hA hans hv
    have hlen := rns_len_le s 0
    generalize rns s 0 = l at HA cD hlen
    have hz1 : ¬ (s.size : Int) < 1 := by omega
    have hz2 : ¬ (32 : Int) < (s.size : Int) := by omega
    go_enter Tryd.func37, Tryd.ntmps37
    go_wp2_with (go_at_call 50; refine cD.mono ?_; rintro e w' ⟨v, rfl, hsl, hb⟩)
    obtain ⟨A, c, rfl, hc⟩ := hsl
    have HSL := Lib.hid hc
    clear hc cD
    go_loopw [5] (fun i wr => ∃ k : Nat, i = .int .i64 k ∧ k ≤ l.length ∧ okUp l k ∧ ∃ q, wr = w'.drewN q) (fun i _ => l.length - (intOf i).toNat)
    case atStart => exact ⟨0, rfl, Nat.zero_le _, fun j x h => by omega, 0, rfl⟩
    case round =>
      obtain ⟨k, rfl, hk, hok, q, rfl⟩ := hrel
      have HOK := Lib.hid hok
      clear hok
      by_cases hlt : k < l.length
      · obtain ⟨x, hx⟩ : ∃ x, l[k]? = some x := ⟨_, List.getElem?_eq_getElem hlt⟩
        obtain ⟨a1, rfl, _, hc1⟩ := HSL.out.2 k x hx
        have HX := Lib.hid hx
        clear hx
        obtain ⟨cx, hcx⟩ : ∃ cx, cls x = cx := ⟨_, rfl⟩
        have cC : ∀ W, Calls Tryd.prog 51 #[.int .i32 x] W _ := fun W => refClass x W
        rw [hcx] at cC
        have HCX := Lib.hid hcx
        clear hcx
        have hlz : (k : Int) < (l.length : Int) := by omega
        by_cases k0 : k = 0
        · have hk0 : ((k : Int) == 0) = true := by simp [k0]
          have HK : Hid (decide (k = 0) = true) := Lib.hid (by simp [k0])
          clear k0
          go_wp2_with (go_at_call 51; refine (cC _).mono ?_; rintro e w1 ⟨rfl, rfl⟩)
          all_goals first
            | (go_ret
               have e1 : cx ≠ 1 := by first | omega | (simp only [bne_iff_ne, ne_eq] at *; omega)
               exact ⟨ret_b (by rw [← HA.out]; exact nmL_not HX.out (mst_false HCX.out ⟨e1, .inl HK.out⟩)), below_drewN' hb _⟩)
            | (go_roundw
               case rel =>
                 have e1 : cx = 1 := by first | omega | (simp only [bne_iff_ne, bne_eq_false_iff_eq, ne_eq] at *; omega)
                 exact ⟨k + 1, by go_num, hlt, okUp_next HOK.out HX.out (mst_true HCX.out (.inl e1)), _, rfl⟩
               case measure => simp [intOf]; omega)
        · have hk0 : ((k : Int) == 0) = false := by simp; omega
          have HK : Hid (decide (k = 0) = false) := Lib.hid (by simp [k0])
          clear k0
          go_wp2_with (go_at_call 51; refine (cC _).mono ?_; rintro e w1 ⟨rfl, rfl⟩)
          all_goals first
            | (go_ret
               have e1 : cx ≠ 1 ∧ (cx ≠ 2 ∧ (x : Int) ≠ 39) := by first | omega | (simp only [bne_iff_ne, ne_eq] at *; omega)
               exact ⟨ret_b (by rw [← HA.out]; exact nmL_not HX.out (mst_false HCX.out ⟨e1.1, .inr e1.2⟩)), below_drewN' hb _⟩)
            | (go_roundw
               case rel =>
                 have e1 : cx = 1 ∨ (cx = 2 ∨ (x : Int) = 39) := by first | omega | (simp only [bne_eq_false_iff_eq] at *; omega)
                 exact ⟨k + 1, by go_num, hlt, okUp_next HOK.out HX.out (mst_true HCX.out (e1.imp id fun h => ⟨h, HK.out⟩)), _, rfl⟩
               case measure => simp [intOf]; omega)
      · have hlz : ¬ (k : Int) < (l.length : Int) := by omega
        have HN := Lib.hid (nmL_of (l := l))
        obtain rfl : k = l.length := by omega
        go_wp2
        go_ret
        exact ⟨ret_b (by rw [← HA.out]; exact HN.out HOK.out), below_drewN' hb _⟩
  · have HA : Hid (ANS = false) := Lib.hid (by
      rw [← hans]
      unfold nmr
      by_cases hv : vls s 0 = true
      · rw [decide_eq_false (fun h => hgo ⟨hv, h⟩)]; simp
      · simp [hv])
    clear hans
    cases hv : vls s 0
    · rw [er_false hv] at cD
      clear hgo hv
      go_enter Tryd.func37, Tryd.ntmps37
      go_wp2_with (go_at_call 50; refine cD.mono ?_; rintro e w' ⟨v, rfl, hsl, hb⟩)
      go_ret
      exact ⟨ret_b HA.out, hb⟩
    · rw [er_true hv] at cD
      have hsz : s.size < 1 ∨ (1 ≤ s.size ∧ 32 < s.size) := by
        rcases Nat.lt_or_ge s.size 1 with h | h
        · exact .inl h
        · rcases Nat.lt_or_ge 32 s.size with h' | h'
          · exact .inr ⟨h, h'⟩
          · exact absurd ⟨hv, h, h'⟩ hgo
      clear hgo hv
      rcases hsz with h1 | ⟨h1, h2⟩
      · have hz1 : (s.size : Int) < 1 := by omega
        go_enter Tryd.func37, Tryd.ntmps37
        go_wp2_with (go_at_call 50; refine cD.mono ?_; rintro e w' ⟨v, rfl, hsl, hb⟩)
        go_ret
        exact ⟨ret_b HA.out, hb⟩
      · have hz1 : ¬ (s.size : Int) < 1 := by omega
        have hz2 : (32 : Int) < (s.size : Int) := by omega
        go_enter Tryd.func37, Tryd.ntmps37
        go_wp2_with (go_at_call 50; refine cD.mono ?_; rintro e w' ⟨v, rfl, hsl, hb⟩)
        go_ret
        exact ⟨ret_b HA.out, hb⟩
end Go.Proofs.YtagocfifagnpkaaDoor
