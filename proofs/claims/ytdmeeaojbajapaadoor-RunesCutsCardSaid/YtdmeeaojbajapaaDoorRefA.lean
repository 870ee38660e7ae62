import Derived.Test.YtdmeeaojbajapaaDoorUtf
import Derived.Test.YtdmeeaojbajapaaDoorRows
import Derived.WalkKit
import Derived.WalkSpells
import Derived.WalkLawsBesides
import Derived.Outline
import Derived.Lib.Hide
namespace Go.Proofs.YtdmeeaojbajapaaDoor
open Go.RowKit

def NxPost (s : ByteArray) (i : Nat) (w : World) (e : Ending) (w' : World) : Prop := e = .returned (.tuple #[.int .i32 (nx s i).1, .int .i64 (nx s i).2]) ∧ w = w'

theorem nx_ret {s : ByteArray} {i : Nat} {w : World} {x y : Value} {a b : Nat} (hx : x = .int .i32 a) (hy : y = .int .i64 b) (h : nx s i = (a, b)) : NxPost s i w (.returned (.tuple #[x, y])) w := by
  subst hx; subst hy
  unfold NxPost
  rw [h]
  exact ⟨rfl, rfl⟩
theorem i64_eq {a b : Int} (h : a = b) : Value.int .i64 a = .int .i64 b := by rw [h]
theorem i32_eq {a b : Int} (h : a = b) : Value.int .i32 a = .int .i32 b := by rw [h]

set_option maxHeartbeats 400000 in
set_option maxRecDepth 100000 in
theorem next_ascii (s : ByteArray) (i : Nat) (w : World) (hi : i < s.size) (hb : bt s i < 128) :
    Calls Tryd.prog 29 #[.string s, .int .i64 i] w (NxPost s i w) := by
  have hn : nx s i = (s[i].toNat, 1) := by rw [nx_good (lead_ascii hb).1, (lead_ascii hb).2, bt_get s i hi]
  have hg := bt_get s i hi
  rw [← hg] at hb
  clear hg
  have HN := Lib.hid hn
  clear hn
  go_enter Tryd.func29, Tryd.ntmps29
  go_wp2
  go_ret2
  exact nx_ret rfl rfl HN.out

set_option maxHeartbeats 400000 in
set_option maxRecDepth 100000 in
theorem next_none (s : ByteArray) (i : Nat) (w : World) (hi : i < s.size) (h1 : 128 ≤ bt s i) (h2 : bt s i < 194 ∨ 245 ≤ bt s i) :
    Calls Tryd.prog 29 #[.string s, .int .i64 i] w (NxPost s i w) := by
  have hn : nx s i = (0, 0) := nx_bad (lead_none h1 h2)
  have hg := bt_get s i hi
  have hl := bt_lt s i
  rw [← hg] at h1 h2 hl
  clear hg
  have HN := Lib.hid hn
  clear hn
  rcases h2 with h2 | h2
  all_goals
    go_enter Tryd.func29, Tryd.ntmps29
    go_wp2
    go_ret2
    exact nx_ret rfl rfl HN.out

set_option maxHeartbeats 400000 in
set_option maxRecDepth 100000 in
theorem next_short (s : ByteArray) (i n off least : Nat) (w : World) (hi : i < s.size) (hL : Lead (bt s i) n off least) (hsz : s.size - i < n) :
    Calls Tryd.prog 29 #[.string s, .int .i64 i] w (NxPost s i w) := by
  have hn : nx s i = (0, 0) := nx_bad (lead_short hL hsz)
  have hg := bt_get s i hi
  unfold Lead at hL
  rw [← hg] at hL
  clear hg
  have HN := Lib.hid hn
  clear hn
  rcases hL with ⟨rfl, rfl, rfl, hl, hu⟩ | ⟨rfl, rfl, rfl, hl, hu⟩ | ⟨rfl, rfl, rfl, hl, hu⟩
  · have hz : (s.size : Int) - (i : Int) < 2 := by omega
    go_enter Tryd.func29, Tryd.ntmps29
    go_wp2
    go_ret2
    exact nx_ret rfl rfl HN.out
  · have hz : (s.size : Int) - (i : Int) < 3 := by omega
    go_enter Tryd.func29, Tryd.ntmps29
    go_wp2
    go_ret2
    exact nx_ret rfl rfl HN.out
  · have hz : (s.size : Int) - (i : Int) < 4 := by omega
    go_enter Tryd.func29, Tryd.ntmps29
    go_wp2
    go_ret2
    exact nx_ret rfl rfl HN.out

theorem acc_start {s : ByteArray} {i a b : Nat} {z : Int} (off : Nat) (h : a = b) (hl : off ≤ a) (hz : z = (off : Int)) : (a : Int) - z = ((acc s i (b - off) (1 - 1) : Nat) : Int) := by
  show (a : Int) - z = ((b - off : Nat) : Int)
  omega
theorem acc_next (s : ByteArray) (p r j A : Nat) (hj : 1 ≤ j) (hA : acc s p r (j - 1) = A) : acc s p r (j + 1 - 1) = 64 * A + (bt s (p + j) - 128) := by
  obtain ⟨k, rfl⟩ : ∃ k, j = k + 1 := ⟨j - 1, by omega⟩
  subst hA
  rfl
theorem acc_step {a : Int} {A b c N : Nat} (hN : N = 64 * A + (b - 128)) (hb : c = b) (hl : 128 ≤ c) (ha : a = 64 * (A : Int) + (c : Int) - 128) : a = (N : Int) := by omega
theorem cont_all {s : ByteArray} {i j : Nat} (h : ∀ t, 1 ≤ t → t < j → contAt s i t) (h1 : 128 ≤ bt s (i + j)) (h2 : bt s (i + j) ≤ 191) : ∀ t, 1 ≤ t → t < j + 1 → contAt s i t := by
  intro t ht1 ht2
  by_cases e : t = j
  · subst e; exact ⟨h1, h2⟩
  · exact h t ht1 (by omega)

set_option maxHeartbeats 1600000 in
set_option maxRecDepth 100000 in
theorem next_two (s : ByteArray) (i : Nat) (w : World) (hi : i < s.size) (hs : s.size ≤ 9223372036854775807) (hL : Lead (bt s i) 2 192 128) (hsz : 2 ≤ s.size - i) :
    Calls Tryd.prog 29 #[.string s, .int .i64 i] w (NxPost s i w) := by
  have HL := Lib.hid hL
  have hg := bt_get s i hi
  have hl : 194 ≤ s[i].toNat := by unfold Lead at hL; omega
  have hu : s[i].toNat < 224 := by unfold Lead at hL; omega
  clear hL
  have HG := Lib.hid hg
  clear hg
  have hz : ¬ (s.size : Int) - (i : Int) < 2 := by omega
  go_enter Tryd.func29, Tryd.ntmps29
  go_wp2
  go_loop [8, 10] (fun r k => ∃ j : Nat, 1 ≤ j ∧ j ≤ 2 ∧ k = .int .i64 j ∧ r = .int .i64 (acc s i (bt s i - 192) (j - 1) : Nat) ∧ ∀ t, 1 ≤ t → t < j → contAt s i t)  (fun _ k => 2 - (intOf k).toNat)
  case atStart => exact ⟨1, by omega, by omega, rfl, i64_eq (acc_start 192 HG.out (by omega) rfl), fun t h1 h2 => by omega⟩
  case round =>
    obtain ⟨j, hj1, hj2, rfl, rfl, hall⟩ := hrel
    have HA := Lib.hid hall
    clear hall
    have hA := acc_lt s i (bt s i - 192) (j - 1) (by have := HG.out; omega) (by omega)
    obtain ⟨A, hA'⟩ : ∃ A, acc s i (bt s i - 192) (j - 1) = A := ⟨_, rfl⟩
    rw [hA'] at hA
    have HA' := Lib.hid hA'
    rw [hA']
    clear hA'
    by_cases hj : j < 2
    · have hij : i + j < s.size := by omega
      have hc := bt_lt s (i + j)
      have hcg := bt_get s (i + j) hij
      rw [← hcg] at hc
      have HC := Lib.hid hcg
      clear hcg
      have HNX := Lib.hid (acc_next s i (bt s i - 192) j A hj1 HA'.out)
      go_wp2
      all_goals first
        | (go_ret2
           exact nx_ret rfl rfl (nx_bad (lead_cont HL.out hj1 hj (by rw [contAt, ← HC.out]; omega))))
        | (go_round
           case rel =>
             have k1 : 128 ≤ s[i + j].toNat := by omega
             have k2 : s[i + j].toNat ≤ 191 := by omega
             exact ⟨j + 1, by omega, by omega, by go_num, i64_eq (acc_step HNX.out HC.out k1 (by omega)), cont_all HA.out (by rw [← HC.out]; exact k1) (by rw [← HC.out]; exact k2)⟩
           case measure => simp [intOf]; omega)
    · obtain rfl : j = 2 := by omega
      have HW := Lib.hid (lead_whole HL.out hsz HA.out HA'.out.symm)
      clear hj hj1 hj2
      go_wp2
      all_goals
        go_ret2
        first
        | exact nx_ret rfl rfl (nx_bad (HW.out.1 (by omega)))
        | exact nx_ret rfl rfl (by rw [nx_good (HW.out.2 (by omega)).1]; exact (HW.out.2 (by omega)).2)

set_option maxHeartbeats 1600000 in
set_option maxRecDepth 100000 in
theorem next_three (s : ByteArray) (i : Nat) (w : World) (hi : i < s.size) (hs : s.size ≤ 9223372036854775807) (hL : Lead (bt s i) 3 224 2048) (hsz : 3 ≤ s.size - i) :
    Calls Tryd.prog 29 #[.string s, .int .i64 i] w (NxPost s i w) := by
  have HL := Lib.hid hL
  have hg := bt_get s i hi
  have hl : 224 ≤ s[i].toNat := by unfold Lead at hL; omega
  have hu : s[i].toNat < 240 := by unfold Lead at hL; omega
  clear hL
  have HG := Lib.hid hg
  clear hg
  have hz : ¬ (s.size : Int) - (i : Int) < 3 := by omega
  go_enter Tryd.func29, Tryd.ntmps29
  go_wp2
  go_loop [8, 10] (fun r k => ∃ j : Nat, 1 ≤ j ∧ j ≤ 3 ∧ k = .int .i64 j ∧ r = .int .i64 (acc s i (bt s i - 224) (j - 1) : Nat) ∧ ∀ t, 1 ≤ t → t < j → contAt s i t)  (fun _ k => 3 - (intOf k).toNat)
  case atStart => exact ⟨1, by omega, by omega, rfl, i64_eq (acc_start 224 HG.out (by omega) rfl), fun t h1 h2 => by omega⟩
  case round =>
    obtain ⟨j, hj1, hj2, rfl, rfl, hall⟩ := hrel
    have HA := Lib.hid hall
    clear hall
    have hA := acc_lt s i (bt s i - 224) (j - 1) (by have := HG.out; omega) (by omega)
    obtain ⟨A, hA'⟩ : ∃ A, acc s i (bt s i - 224) (j - 1) = A := ⟨_, rfl⟩
    rw [hA'] at hA
    have HA' := Lib.hid hA'
    rw [hA']
    clear hA'
    by_cases hj : j < 3
    · have hij : i + j < s.size := by omega
      have hc := bt_lt s (i + j)
      have hcg := bt_get s (i + j) hij
      rw [← hcg] at hc
      have HC := Lib.hid hcg
      clear hcg
      have HNX := Lib.hid (acc_next s i (bt s i - 224) j A hj1 HA'.out)
      go_wp2
      all_goals first
        | (go_ret2
           exact nx_ret rfl rfl (nx_bad (lead_cont HL.out hj1 hj (by rw [contAt, ← HC.out]; omega))))
        | (go_round
           case rel =>
             have k1 : 128 ≤ s[i + j].toNat := by omega
             have k2 : s[i + j].toNat ≤ 191 := by omega
             exact ⟨j + 1, by omega, by omega, by go_num, i64_eq (acc_step HNX.out HC.out k1 (by omega)), cont_all HA.out (by rw [← HC.out]; exact k1) (by rw [← HC.out]; exact k2)⟩
           case measure => simp [intOf]; omega)
    · obtain rfl : j = 3 := by omega
      have HW := Lib.hid (lead_whole HL.out hsz HA.out HA'.out.symm)
      clear hj hj1 hj2
      go_wp2
      all_goals
        go_ret2
        first
        | exact nx_ret rfl rfl (nx_bad (HW.out.1 (by omega)))
        | exact nx_ret rfl rfl (by rw [nx_good (HW.out.2 (by omega)).1]; exact (HW.out.2 (by omega)).2)

set_option maxHeartbeats 1600000 in
set_option maxRecDepth 100000 in
theorem next_four (s : ByteArray) (i : Nat) (w : World) (hi : i < s.size) (hs : s.size ≤ 9223372036854775807) (hL : Lead (bt s i) 4 240 65536) (hsz : 4 ≤ s.size - i) :
    Calls Tryd.prog 29 #[.string s, .int .i64 i] w (NxPost s i w) := by
  have HL := Lib.hid hL
  have hg := bt_get s i hi
  have hl : 240 ≤ s[i].toNat := by unfold Lead at hL; omega
  have hu : s[i].toNat < 245 := by unfold Lead at hL; omega
  clear hL
  have HG := Lib.hid hg
  clear hg
  have hz : ¬ (s.size : Int) - (i : Int) < 4 := by omega
  go_enter Tryd.func29, Tryd.ntmps29
  go_wp2
  go_loop [8, 10] (fun r k => ∃ j : Nat, 1 ≤ j ∧ j ≤ 4 ∧ k = .int .i64 j ∧ r = .int .i64 (acc s i (bt s i - 240) (j - 1) : Nat) ∧ ∀ t, 1 ≤ t → t < j → contAt s i t)  (fun _ k => 4 - (intOf k).toNat)
  case atStart => exact ⟨1, by omega, by omega, rfl, i64_eq (acc_start 240 HG.out (by omega) rfl), fun t h1 h2 => by omega⟩
  case round =>
    obtain ⟨j, hj1, hj2, rfl, rfl, hall⟩ := hrel
    have HA := Lib.hid hall
    clear hall
    have hA := acc_lt s i (bt s i - 240) (j - 1) (by have := HG.out; omega) (by omega)
    obtain ⟨A, hA'⟩ : ∃ A, acc s i (bt s i - 240) (j - 1) = A := ⟨_, rfl⟩
    rw [hA'] at hA
    have HA' := Lib.hid hA'
    rw [hA']
    clear hA'
    by_cases hj : j < 4
    · have hij : i + j < s.size := by omega
      have hc := bt_lt s (i + j)
      have hcg := bt_get s (i + j) hij
      rw [← hcg] at hc
      have HC := Lib.hid hcg
      clear hcg
      have HNX := Lib.hid (acc_next s i (bt s i - 240) j A hj1 HA'.out)
      go_wp2
      all_goals first
        | (go_ret2
           exact nx_ret rfl rfl (nx_bad (lead_cont HL.out hj1 hj (by rw [contAt, ← HC.out]; omega))))
        | (go_round
           case rel =>
             have k1 : 128 ≤ s[i + j].toNat := by omega
             have k2 : s[i + j].toNat ≤ 191 := by omega
             exact ⟨j + 1, by omega, by omega, by go_num, i64_eq (acc_step HNX.out HC.out k1 (by omega)), cont_all HA.out (by rw [← HC.out]; exact k1) (by rw [← HC.out]; exact k2)⟩
           case measure => simp [intOf]; omega)
    · obtain rfl : j = 4 := by omega
      have HW := Lib.hid (lead_whole HL.out hsz HA.out HA'.out.symm)
      clear hj hj1 hj2
      go_wp2
      all_goals
        go_ret2
        first
        | exact nx_ret rfl rfl (nx_bad (HW.out.1 (by omega)))
        | exact nx_ret rfl rfl (by rw [nx_good (HW.out.2 (by omega)).1]; exact (HW.out.2 (by omega)).2)

/-- ████ THE DOCUMENT's OWN DECODER, at any place of any text. -/
theorem next_any (s : ByteArray) (i : Nat) (w : World) (hi : i < s.size) (hs : s.size ≤ 9223372036854775807) :
    Calls Tryd.prog 29 #[.string s, .int .i64 i] w (NxPost s i w) := by
  by_cases h0 : bt s i < 128
  · exact next_ascii s i w hi h0
  by_cases h1 : bt s i < 194 ∨ 245 ≤ bt s i
  · exact next_none s i w hi (by omega) h1
  obtain ⟨n, off, least, hL⟩ : ∃ n off least, Lead (bt s i) n off least := by
    by_cases h2 : bt s i < 224
    · exact ⟨2, 192, 128, .inl ⟨rfl, rfl, rfl, by omega, h2⟩⟩
    by_cases h3 : bt s i < 240
    · exact ⟨3, 224, 2048, .inr (.inl ⟨rfl, rfl, rfl, by omega, h3⟩)⟩
    · exact ⟨4, 240, 65536, .inr (.inr ⟨rfl, rfl, rfl, by omega, by omega⟩)⟩
  by_cases hsz : s.size - i < n
  · exact next_short s i n off least w hi hL hsz
  have hL' := hL
  rcases hL with ⟨rfl, rfl, rfl, _⟩ | ⟨rfl, rfl, rfl, _⟩ | ⟨rfl, rfl, rfl, _⟩
  · exact next_two s i w hi hs hL' (by omega)
  · exact next_three s i w hi hs hL' (by omega)
  · exact next_four s i w hi hs hL' (by omega)
end Go.Proofs.YtdmeeaojbajapaaDoor
