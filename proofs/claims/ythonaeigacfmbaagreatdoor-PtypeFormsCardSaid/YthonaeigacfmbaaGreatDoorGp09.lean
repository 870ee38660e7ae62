/-
  The document's layer 1, as far as its layer 2 stands on it: next, Decode, Class, Check, Name: what they tell.
-/
import Derived.Test.YthonaeigacfmbaaGreatDoorGp08
namespace Go.Proofs.YthonaeigacfmbaaGreatDoor.B
open Go.RowKit

def cel (l : List Nat) : List Value := l.map fun (r : Nat) => Value.int .i32 (r : Int)
theorem cel_len (l : List Nat) : (cel l).length = l.length := by simp [cel]
def Sl (w : World) (B : Nat) (v : Value) (l : List Nat) : Prop :=
  ∃ A c, v = .slice A l.length c ∧ l.length ≤ c ∧ ∀ (j u : Nat), l[j]? = some u → ∃ ad, A = some ad ∧ ad.block < B ∧ w.cell? (ad.add j) = some (.int .i32 (u : Int))
theorem Sl.below {w w' : World} {B : Nat} {v : Value} {l : List Nat} (h : Sl w B v l) (hb : Below B w w') : Sl w' B v l := by
  obtain ⟨A, c, hv, hlc, hc⟩ := h
  refine ⟨A, c, hv, hlc, fun j u hu => ?_⟩
  obtain ⟨ad, hA, hlt, hcell⟩ := hc j u hu
  exact ⟨ad, hA, hlt, (hb.cell (by rw [addBlock]; exact hlt)).trans hcell⟩
theorem Sl.more {w : World} {B B' : Nat} {v : Value} {l : List Nat} (h : Sl w B v l) (hB : B ≤ B') : Sl w B' v l := by
  obtain ⟨A, c, hv, hlc, hc⟩ := h
  refine ⟨A, c, hv, hlc, fun j u hu => ?_⟩
  obtain ⟨ad, hA, hlt, hcell⟩ := hc j u hu
  exact ⟨ad, hA, by omega, hcell⟩
theorem Sl.nil (w : World) (B : Nat) : Sl w B (.slice none 0 0) [] := ⟨none, 0, rfl, Nat.le_refl _, fun j u hu => by simp at hu⟩
theorem Sl.own {w : World} {base : Nat} {e : TypeId} {v : Value} {n : Nat} {l : List Nat} (h : w.ownsRow base e 1 v n (cel l)) : Sl w w.heap.size v l := by
  have hn : l.length = n := by have := h.1; rw [cel_len] at this; omega
  subst hn
  rcases h.2 with ⟨hv, h0⟩ | ⟨g, cap, cur, hv, _, hh, hc, _⟩
  · have hl : l = [] := List.eq_nil_of_length_eq_zero h0
    subst hl
    exact ⟨none, 0, hv, Nat.le_refl _, fun j u hu => by simp at hu⟩
  · refine ⟨some ⟨g, 0, none⟩, cap, hv, hc, fun j u hu => ⟨_, rfl, heap_lt hh, ?_⟩⟩
    exact h.cells (g := g) (by rw [hv]; rfl) j _ (by simp [cel, hu])
def rl (s : ByteArray) : List Nat := if vls s 0 then rns s 0 else []
def er (s : ByteArray) : Int := if vls s 0 then 0 else 4
theorem rl_true {s : ByteArray} (h : vls s 0 = true) : rl s = rns s 0 := by simp [rl, h]
theorem rl_false {s : ByteArray} (h : vls s 0 = false) : rl s = [] := by simp [rl, h]
theorem er_true {s : ByteArray} (h : vls s 0 = true) : er s = 0 := by simp [er, h]
theorem er_false {s : ByteArray} (h : vls s 0 = false) : er s = 4 := by simp [er, h]
theorem rl_len (s : ByteArray) : (rl s).length ≤ s.size := by
  unfold rl
  split
  · have := rns_len_le s 0; omega
  · simp
def DecPost (s : ByteArray) (W : World) (e : Ending) (w' : World) : Prop :=
  ∃ v, e = .returned (.tuple #[v, .int .i64 (er s)]) ∧ Sl w' w'.heap.size v (rl s) ∧ Below W.heap.size W w'
theorem dec_bad {s : ByteArray} {W w' : World} (hv : vls s 0 = false) (hb : Below W.heap.size W w') : DecPost s W (.returned (.tuple #[.slice none 0 0, .int .i64 4])) w' :=
  ⟨_, by rw [er_false hv], by rw [rl_false hv]; exact Sl.nil _ _, hb⟩
theorem dec_good {s : ByteArray} {W w' : World} {base : Nat} {e : TypeId} {v : Value} {n : Nat} {l : List Nat} (hv : vls s 0 = true) (hl : l = rns s 0) (ho : w'.ownsRow base e 1 v n (cel l)) (hb : Below W.heap.size W w') :
    DecPost s W (.returned (.tuple #[v, .int .i64 0])) w' :=
  ⟨_, by rw [er_true hv], by rw [rl_true hv, ← hl]; exact Sl.own ho, hb⟩
theorem infoRune : (Tryz.prog.info? 21).map (fun i => (i.zero, i.size, i.bytes)) = some (some (.int .i32 0), 1, 4) := by kernel_rfl
def NxPost (s : ByteArray) (i : Nat) (w : World) (e : Ending) (w' : World) : Prop := e = .returned (.tuple #[.int .i32 (nx s i).1, .int .i64 (nx s i).2]) ∧ w = w'
theorem nx_ret {s : ByteArray} {i : Nat} {w : World} {x y : Value} {a b : Nat} (hx : x = .int .i32 a) (hy : y = .int .i64 b) (h : nx s i = (a, b)) : NxPost s i w (.returned (.tuple #[x, y])) w := by
  subst hx; subst hy
  unfold NxPost
  rw [h]
  exact ⟨rfl, rfl⟩
set_option maxHeartbeats 400000 in
set_option maxRecDepth 100000 in
theorem next_ascii (s : ByteArray) (i : Nat) (w : World) (hi : i < s.size) (hb : bt s i < 128) :
    Calls Tryz.prog 100 #[.string s, .int .i64 i] w (NxPost s i w) := by
  have hn : nx s i = (s[i].toNat, 1) := by rw [nx_good (lead_ascii hb).1, (lead_ascii hb).2, bt_get s i hi]
  have hg := bt_get s i hi
  rw [← hg] at hb
  clear hg
  have HN := Lib.hid hn
  clear hn
  go_enter Tryz.func100, Tryz.ntmps100
  go_wp2
  go_ret2
  exact nx_ret rfl rfl HN.out
set_option maxHeartbeats 400000 in
set_option maxRecDepth 100000 in
theorem next_none (s : ByteArray) (i : Nat) (w : World) (hi : i < s.size) (h1 : 128 ≤ bt s i) (h2 : bt s i < 194 ∨ 245 ≤ bt s i) :
    Calls Tryz.prog 100 #[.string s, .int .i64 i] w (NxPost s i w) := by
  have hn : nx s i = (0, 0) := nx_bad (lead_none h1 h2)
  have hg := bt_get s i hi
  have hl := bt_lt s i
  rw [← hg] at h1 h2 hl
  clear hg
  have HN := Lib.hid hn
  clear hn
  rcases h2 with h2 | h2
  all_goals
    go_enter Tryz.func100, Tryz.ntmps100
    go_wp2
    go_ret2
    exact nx_ret rfl rfl HN.out
set_option maxHeartbeats 400000 in
set_option maxRecDepth 100000 in
theorem next_short (s : ByteArray) (i n off least : Nat) (w : World) (hi : i < s.size) (hL : Lead (bt s i) n off least) (hsz : s.size - i < n) :
    Calls Tryz.prog 100 #[.string s, .int .i64 i] w (NxPost s i w) := by
  have hn : nx s i = (0, 0) := nx_bad (lead_short hL hsz)
  have hg := bt_get s i hi
  unfold Lead at hL
  rw [← hg] at hL
  clear hg
  have HN := Lib.hid hn
  clear hn
  rcases hL with ⟨rfl, rfl, rfl, hl, hu⟩ | ⟨rfl, rfl, rfl, hl, hu⟩ | ⟨rfl, rfl, rfl, hl, hu⟩
  · have hz : (s.size : Int) - (i : Int) < 2 := by omega
    go_enter Tryz.func100, Tryz.ntmps100
    go_wp2
    go_ret2
    exact nx_ret rfl rfl HN.out
  · have hz : (s.size : Int) - (i : Int) < 3 := by omega
    go_enter Tryz.func100, Tryz.ntmps100
    go_wp2
    go_ret2
    exact nx_ret rfl rfl HN.out
  · have hz : (s.size : Int) - (i : Int) < 4 := by omega
    go_enter Tryz.func100, Tryz.ntmps100
    go_wp2
    go_ret2
    exact nx_ret rfl rfl HN.out
theorem acc_start {s : ByteArray} {i a b : Nat} {z : Int} (off : Nat) (h : a = b) (hl : off ≤ a) (hz : z = (off : Int)) : (a : Int) - z = ((acc s i (b - off) (1 - 1) : Nat) : Int) := by
  show (a : Int) - z = ((b - off : Nat) : Int)
  omega
theorem acc_next (s : ByteArray) (p r j A : Nat) (hj : 1 ≤ j) (hA : acc s p r (j - 1) = A) : acc s p r (j + 1 - 1) = 64 * A + (bt s (p + j) - 128) := by
  obtain ⟨k, rfl⟩ : ∃ k, j = k + 1 := ⟨j - 1, by omega⟩
  subst hA
  rfl
theorem acc_step {a : Int} {A b c N : Nat} (hN : N = 64 * A + (b - 128)) (hb : c = b) (hl : 128 ≤ c) (ha : a = 64 * (A : Int) + (c : Int) - 128) : a = (N : Int) := by omega
theorem cont_all {s : ByteArray} {i j : Nat} (h : ∀ t, 1 ≤ t → t < j → contAt s i t) (h1 : 128 ≤ bt s (i + j)) (h2 : bt s (i + j) ≤ 191) : ∀ t, 1 ≤ t → t < j + 1 → contAt s i t := by
  intro t ht1 ht2
  by_cases e : t = j
  · subst e; exact ⟨h1, h2⟩
  · exact h t ht1 (by omega)
set_option maxHeartbeats 1600000 in
set_option maxRecDepth 100000 in
theorem next_two (s : ByteArray) (i : Nat) (w : World) (hi : i < s.size) (hs : s.size ≤ 9223372036854775807) (hL : Lead (bt s i) 2 192 128) (hsz : 2 ≤ s.size - i) :
    Calls Tryz.prog 100 #[.string s, .int .i64 i] w (NxPost s i w) := by
  have HL := Lib.hid hL
  have hg := bt_get s i hi
  have hl : 194 ≤ s[i].toNat := by unfold Lead at hL; omega
  have hu : s[i].toNat < 224 := by unfold Lead at hL; omega
  clear hL
  have HG := Lib.hid hg
  clear hg
  have hz : ¬ (s.size : Int) - (i : Int) < 2 := by omega
  go_enter Tryz.func100, Tryz.ntmps100
  go_wp2
  go_loop [8, 10] (fun r k => ∃ j : Nat, 1 ≤ j ∧ j ≤ 2 ∧ k = .int .i64 j ∧ r = .int .i64 (acc s i (bt s i - 192) (j - 1) : Nat) ∧ ∀ t, 1 ≤ t → t < j → contAt s i t)  (fun _ k => 2 - (intOf k).toNat)
  case atStart => exact ⟨1, by omega, by omega, rfl, i64_eq (acc_start 192 HG.out (by omega) rfl), fun t h1 h2 => by omega⟩
  case round =>
    obtain ⟨j, hj1, hj2, rfl, rfl, hall⟩ := hrel
    have HA := Lib.hid hall
    clear hall
    have hA := acc_lt s i (bt s i - 192) (j - 1) (by have := HG.out; omega) (by omega)
    obtain ⟨A, hA'⟩ : ∃ A, acc s i (bt s i - 192) (j - 1) = A := ⟨_, rfl⟩
    rw [hA'] at hA
    have HA' := Lib.hid hA'
    rw [hA']
    clear hA'
    by_cases hj : j < 2
    · have hij : i + j < s.size := by omega
      have hc := bt_lt s (i + j)
      have hcg := bt_get s (i + j) hij
      rw [← hcg] at hc
      have HC := Lib.hid hcg
      clear hcg
      have HNX := Lib.hid (acc_next s i (bt s i - 192) j A hj1 HA'.out)
      go_wp2
      all_goals first
        | (go_ret2
           exact nx_ret rfl rfl (nx_bad (lead_cont HL.out hj1 hj (by rw [contAt, ← HC.out]; omega))))
        | (go_round
           case rel =>
             have k1 : 128 ≤ s[i + j].toNat := by omega
             have k2 : s[i + j].toNat ≤ 191 := by omega
             exact ⟨j + 1, by omega, by omega, by go_num, i64_eq (acc_step HNX.out HC.out k1 (by omega)), cont_all HA.out (by rw [← HC.out]; exact k1) (by rw [← HC.out]; exact k2)⟩
           case measure => simp [intOf]; omega)
    · obtain rfl : j = 2 := by omega
      have HW := Lib.hid (lead_whole HL.out hsz HA.out HA'.out.symm)
      clear hj hj1 hj2
      go_wp2
      all_goals
        go_ret2
        first
        | exact nx_ret rfl rfl (nx_bad (HW.out.1 (by omega)))
        | exact nx_ret rfl rfl (by rw [nx_good (HW.out.2 (by omega)).1]; exact (HW.out.2 (by omega)).2)
set_option maxHeartbeats 1600000 in
set_option maxRecDepth 100000 in
theorem next_three (s : ByteArray) (i : Nat) (w : World) (hi : i < s.size) (hs : s.size ≤ 9223372036854775807) (hL : Lead (bt s i) 3 224 2048) (hsz : 3 ≤ s.size - i) :
    Calls Tryz.prog 100 #[.string s, .int .i64 i] w (NxPost s i w) := by
  have HL := Lib.hid hL
  have hg := bt_get s i hi
  have hl : 224 ≤ s[i].toNat := by unfold Lead at hL; omega
  have hu : s[i].toNat < 240 := by unfold Lead at hL; omega
  clear hL
  have HG := Lib.hid hg
  clear hg
  have hz : ¬ (s.size : Int) - (i : Int) < 3 := by omega
  go_enter Tryz.func100, Tryz.ntmps100
  go_wp2
  go_loop [8, 10] (fun r k => ∃ j : Nat, 1 ≤ j ∧ j ≤ 3 ∧ k = .int .i64 j ∧ r = .int .i64 (acc s i (bt s i - 224) (j - 1) : Nat) ∧ ∀ t, 1 ≤ t → t < j → contAt s i t)  (fun _ k => 3 - (intOf k).toNat)
  case atStart => exact ⟨1, by omega, by omega, rfl, i64_eq (acc_start 224 HG.out (by omega) rfl), fun t h1 h2 => by omega⟩
  case round =>
    obtain ⟨j, hj1, hj2, rfl, rfl, hall⟩ := hrel
    have HA := Lib.hid hall
    clear hall
    have hA := acc_lt s i (bt s i - 224) (j - 1) (by have := HG.out; omega) (by omega)
    obtain ⟨A, hA'⟩ : ∃ A, acc s i (bt s i - 224) (j - 1) = A := ⟨_, rfl⟩
    rw [hA'] at hA
    have HA' := Lib.hid hA'
    rw [hA']
    clear hA'
    by_cases hj : j < 3
    · have hij : i + j < s.size := by omega
      have hc := bt_lt s (i + j)
      have hcg := bt_get s (i + j) hij
      rw [← hcg] at hc
      have HC := Lib.hid hcg
      clear hcg
      have HNX := Lib.hid (acc_next s i (bt s i - 224) j A hj1 HA'.out)
      go_wp2
      all_goals first
        | (go_ret2
           exact nx_ret rfl rfl (nx_bad (lead_cont HL.out hj1 hj (by rw [contAt, ← HC.out]; omega))))
        | (go_round
           case rel =>
             have k1 : 128 ≤ s[i + j].toNat := by omega
             have k2 : s[i + j].toNat ≤ 191 := by omega
             exact ⟨j + 1, by omega, by omega, by go_num, i64_eq (acc_step HNX.out HC.out k1 (by omega)), cont_all HA.out (by rw [← HC.out]; exact k1) (by rw [← HC.out]; exact k2)⟩
           case measure => simp [intOf]; omega)
    · obtain rfl : j = 3 := by omega
      have HW := Lib.hid (lead_whole HL.out hsz HA.out HA'.out.symm)
      clear hj hj1 hj2
      go_wp2
      all_goals
        go_ret2
        first
        | exact nx_ret rfl rfl (nx_bad (HW.out.1 (by omega)))
        | exact nx_ret rfl rfl (by rw [nx_good (HW.out.2 (by omega)).1]; exact (HW.out.2 (by omega)).2)
set_option maxHeartbeats 1600000 in
set_option maxRecDepth 100000 in
theorem next_four (s : ByteArray) (i : Nat) (w : World) (hi : i < s.size) (hs : s.size ≤ 9223372036854775807) (hL : Lead (bt s i) 4 240 65536) (hsz : 4 ≤ s.size - i) :
    Calls Tryz.prog 100 #[.string s, .int .i64 i] w (NxPost s i w) := by
  have HL := Lib.hid hL
  have hg := bt_get s i hi
  have hl : 240 ≤ s[i].toNat := by unfold Lead at hL; omega
  have hu : s[i].toNat < 245 := by unfold Lead at hL; omega
  clear hL
  have HG := Lib.hid hg
  clear hg
  have hz : ¬ (s.size : Int) - (i : Int) < 4 := by omega
  go_enter Tryz.func100, Tryz.ntmps100
  go_wp2
  go_loop [8, 10] (fun r k => ∃ j : Nat, 1 ≤ j ∧ j ≤ 4 ∧ k = .int .i64 j ∧ r = .int .i64 (acc s i (bt s i - 240) (j - 1) : Nat) ∧ ∀ t, 1 ≤ t → t < j → contAt s i t)  (fun _ k => 4 - (intOf k).toNat)
  case atStart => exact ⟨1, by omega, by omega, rfl, i64_eq (acc_start 240 HG.out (by omega) rfl), fun t h1 h2 => by omega⟩
  case round =>
    obtain ⟨j, hj1, hj2, rfl, rfl, hall⟩ := hrel
    have HA := Lib.hid hall
    clear hall
    have hA := acc_lt s i (bt s i - 240) (j - 1) (by have := HG.out; omega) (by omega)
    obtain ⟨A, hA'⟩ : ∃ A, acc s i (bt s i - 240) (j - 1) = A := ⟨_, rfl⟩
    rw [hA'] at hA
    have HA' := Lib.hid hA'
    rw [hA']
    clear hA'
    by_cases hj : j < 4
    · have hij : i + j < s.size := by omega
      have hc := bt_lt s (i + j)
      have hcg := bt_get s (i + j) hij
      rw [← hcg] at hc
      have HC := Lib.hid hcg
      clear hcg
      have HNX := Lib.hid (acc_next s i (bt s i - 240) j A hj1 HA'.out)
      go_wp2
      all_goals first
        | (go_ret2
           exact nx_ret rfl rfl (nx_bad (lead_cont HL.out hj1 hj (by rw [contAt, ← HC.out]; omega))))
        | (go_round
           case rel =>
             have k1 : 128 ≤ s[i + j].toNat := by omega
             have k2 : s[i + j].toNat ≤ 191 := by omega
             exact ⟨j + 1, by omega, by omega, by go_num, i64_eq (acc_step HNX.out HC.out k1 (by omega)), cont_all HA.out (by rw [← HC.out]; exact k1) (by rw [← HC.out]; exact k2)⟩
           case measure => simp [intOf]; omega)
    · obtain rfl : j = 4 := by omega
      have HW := Lib.hid (lead_whole HL.out hsz HA.out HA'.out.symm)
      clear hj hj1 hj2
      go_wp2
      all_goals
        go_ret2
        first
        | exact nx_ret rfl rfl (nx_bad (HW.out.1 (by omega)))
        | exact nx_ret rfl rfl (by rw [nx_good (HW.out.2 (by omega)).1]; exact (HW.out.2 (by omega)).2)
theorem next_any (s : ByteArray) (i : Nat) (w : World) (hi : i < s.size) (hs : s.size ≤ 9223372036854775807) :
    Calls Tryz.prog 100 #[.string s, .int .i64 i] w (NxPost s i w) := by
  by_cases h0 : bt s i < 128
  · exact next_ascii s i w hi h0
  by_cases h1 : bt s i < 194 ∨ 245 ≤ bt s i
  · exact next_none s i w hi (by omega) h1
  obtain ⟨n, off, least, hL⟩ : ∃ n off least, Lead (bt s i) n off least := by
    by_cases h2 : bt s i < 224
    · exact ⟨2, 192, 128, .inl ⟨rfl, rfl, rfl, by omega, h2⟩⟩
    by_cases h3 : bt s i < 240
    · exact ⟨3, 224, 2048, .inr (.inl ⟨rfl, rfl, rfl, by omega, h3⟩)⟩
    · exact ⟨4, 240, 65536, .inr (.inr ⟨rfl, rfl, rfl, by omega, by omega⟩)⟩
  by_cases hsz : s.size - i < n
  · exact next_short s i n off least w hi hL hsz
  have hL' := hL
  rcases hL with ⟨rfl, rfl, rfl, _⟩ | ⟨rfl, rfl, rfl, _⟩ | ⟨rfl, rfl, rfl, _⟩
  · exact next_two s i w hi hs hL' (by omega)
  · exact next_three s i w hi hs hL' (by omega)
  · exact next_four s i w hi hs hL' (by omega)

theorem next_at {s : ByteArray} {i a b : Nat} (w : World) (hi : i < s.size) (hs : s.size ≤ 9223372036854775807) (h : nx s i = (a, b)) :
    Calls Tryz.prog 100 #[.string s, .int .i64 i] w fun e w' => e = .returned (.tuple #[.int .i32 (a : Int), .int .i64 (b : Int)]) ∧ w = w' := by
  have := next_any s i w hi hs
  unfold NxPost at this
  rw [h] at this
  exact this
def DecRel (s : ByteArray) (W : World) (v i : Value) (wr : World) : Prop :=
  ∃ (p : Nat) (l : List Nat), i = .int .i64 p ∧ p ≤ s.size ∧ l.length ≤ p ∧ wr.ownsRow W.heap.size 21 1 v l.length (cel l) ∧ Below W.heap.size W wr ∧ l ++ rns s p = rns s 0 ∧ vls s p = vls s 0
set_option maxHeartbeats 1600000 in
set_option maxRecDepth 100000 in
theorem refDecode (s : ByteArray) (w : World) (hs : s.size ≤ 1000000000) :
    Calls Tryz.prog 60 #[.string s] w (DecPost s w) := by
  obtain ⟨i0, hi, hz0, hz1, hz2⟩ := info_parts infoRune
  go_enter Tryz.func60, Tryz.ntmps60
  go_wp2
  go_loopw [4, 5] (fun v i wr => DecRel s w v i wr) (fun _ i _ => s.size - (intOf i).toNat)
  case atStart => exact ⟨0, [], rfl, Nat.zero_le _, Nat.zero_le _, World.ownsRow_nil _ _ _ _, Below.refl _ _, rfl, rfl⟩
  case round =>
    obtain ⟨p, l, rfl, hp, hlp, hown, hbel, hl, hv⟩ := hrel
    have HL := Lib.hid hl
    have HV := Lib.hid hv
    clear hl hv
    have hbs := hbel.size
    by_cases hlt : p < s.size
    · by_cases hb : bad s p = true
      · have hnx := nx_bad hb
        have HB := Lib.hid hb
        clear hb
        have cN : ∀ W, Calls Tryz.prog 100 #[.string s, .int .i64 p] W _ := fun W => next_at W hlt (by omega) hnx
        clear hnx
        go_wp2_with (go_at_call 100; refine (cN _).mono ?_; rintro e w' ⟨rfl, rfl⟩)
        go_ret2
        exact dec_bad (by rw [← HV.out]; exact vls_bad hlt HB.out) hbel
      · have hb' : bad s p = false := by simpa using hb
        clear hb
        have hnx := nx_good hb'
        have HB := Lib.hid hb'
        clear hb'
        have hw1 := dc_pos s p
        have hw2 := dc_le s p hlt
        have HR := Lib.hid (rns_step hlt)
        have HS := Lib.hid (vls_good hlt HB.out)
        obtain ⟨r, k, hrk⟩ : ∃ r k, dc s p = (r, k) := ⟨_, _, rfl⟩
        have hr := dc_rune s p
        rw [hrk] at hnx hw1 hw2 HR HS hr
        dsimp only at hw1 hw2 HR HS hr
        clear hrk
        have cN : ∀ W, Calls Tryz.prog 100 #[.string s, .int .i64 p] W _ := fun W => next_at W hlt (by omega) hnx
        clear hnx
        have hk0 : ((k : Int) == 0) = false := by simp; omega
        go_wp2_with (first
          | (go_at_call 100; refine (cN _).mono ?_; rintro e w' ⟨rfl, rfl⟩)
          | (at_builtin; go_loud (refine wpList_append_own _ rfl _ _ 79 rfl w.heap.size 21 i0 (.int .i32 0) 1 4 Tryz.underlying79 hi hz0 hz1 hz2 rfl (by decide) _ _ _ rfl (hown.alloc _) ⟨wr.heap.size, 0, none⟩ 1 1 [.int .i32 (r : Int)] rfl rfl (cell_one_new _ _ _) (fun x hx => by simp at hx; subst hx; rfl) (by unfold maxLen; omega) (by omega) (by simp; omega) ?_); intro v' w1 hown1 hgrow1 _))
        go_roundw
        case rel =>
          exact ⟨p + k, l ++ [r], by go_num, hw2, by simp; omega, by simpa [cel] using hown1, ((hbel.alloc hbs _).grown hgrow1 (by simp; omega) (fun g hg => (hown.lt g hg).1)),
            by rw [List.append_assoc, List.singleton_append, ← HR.out]; exact HL.out, by rw [← HS.out]; exact HV.out⟩
        case measure => simp [intOf]; omega
    · have e1 := rns_end hlt
      have e2 := vls_end hlt
      have hl := HL.out
      have hv := HV.out
      rw [e1, List.append_nil] at hl
      rw [e2] at hv
      have HL2 := Lib.hid hl
      have HV2 := Lib.hid hv
      clear hl hv e1 e2
      go_wp2
      go_ret2
      exact dec_good HV2.out.symm HL2.out hown hbel
set_option maxHeartbeats 1600000 in
set_option maxRecDepth 100000 in
theorem refClass (r : Int) (w : World) : Calls Tryz.prog 62 #[.int .i32 r] w fun e w' => e = .returned (.int .i64 (cls r)) ∧ w = w' := by
  obtain ⟨c, hc⟩ : ∃ c, cls r = c := ⟨_, rfl⟩
  rw [hc]
  have HC := Lib.hid hc
  clear hc
  go_enter Tryz.func62, Tryz.ntmps62
  go_wp2
  all_goals go_ret
  all_goals
    refine ⟨ret_i64 (HC.out.symm.trans (cls_is r _ ?_)), rfl⟩
    simp only [beq_iff_eq, beq_eq_false_iff_ne, bne_iff_ne, bne_eq_false_iff_eq, ne_eq, and_true] at *
    omega
set_option maxHeartbeats 1600000 in
set_option maxRecDepth 100000 in
theorem refCheck (s : ByteArray) (w : World) (hs : s.size ≤ 1000000000) :
    Calls Tryz.prog 59 #[.string s] w (CkPost s w) := by
  by_cases hbig : 16384 < s.size
  · have hz : (16384 : Int) < (s.size : Int) := by omega
    go_enter Tryz.func59, Tryz.ntmps59
    go_wp2
    go_ret2
    exact ck_long hbig (Below.refl _ _)
  · have hz : ¬ (16384 : Int) < (s.size : Int) := by omega
    go_enter Tryz.func59, Tryz.ntmps59
    go_wp2
    go_loop [4] (fun i => ∃ p : Nat, i = .int .i64 p ∧ p ≤ s.size ∧ ck s p = ck s 0) (fun i => s.size - (intOf i).toNat)
    case atStart => exact ⟨0, rfl, Nat.zero_le _, rfl⟩
    case round =>
      obtain ⟨p, rfl, hp, hc⟩ := hrel
      have HC := Lib.hid hc
      clear hc
      by_cases hlt : p < s.size
      · by_cases hb : bad s p = true
        · have hnx := nx_bad hb
          have HB := Lib.hid hb
          clear hb
          have cN : ∀ W, Calls Tryz.prog 100 #[.string s, .int .i64 p] W _ := fun W => next_at W hlt (by omega) hnx
          clear hnx
          go_wp2_with (go_at_call 100; refine (cN _).mono ?_; rintro e w' ⟨rfl, rfl⟩)
          go_ret2
          exact ck_ret hbig (by rw [← HC.out]; exact ck_stop hlt (by rw [dc_bad1 HB.out]; rfl)) (Below.refl _ _)
        · have hb' : bad s p = false := by simpa using hb
          clear hb
          have hnx := nx_good hb'
          clear hb'
          have hw1 := dc_pos s p
          have hw2 := dc_le s p hlt
          have HS := Lib.hid (ck_stop (s := s) hlt)
          have HN := Lib.hid (ck_next (s := s) hlt)
          obtain ⟨r, k, hrk⟩ : ∃ r k, dc s p = (r, k) := ⟨_, _, rfl⟩
          rw [hrk] at hnx hw1 hw2 HS HN
          dsimp only at hw1 hw2 HS HN
          clear hrk
          have cN : ∀ W, Calls Tryz.prog 100 #[.string s, .int .i64 p] W _ := fun W => next_at W hlt (by omega) hnx
          clear hnx
          have hk0 : ((k : Int) == 0) = false := by simp; omega
          go_wp2_with (go_at_call 100; refine (cN _).mono ?_; rintro e w' ⟨rfl, rfl⟩)
          all_goals first
            | (go_ret2
               exact ck_ret hbig (by rw [← HC.out]; exact HS.out (rdb_is _ _ (by simp only [beq_iff_eq, beq_eq_false_iff_ne, ne_eq, Bool.false_eq_true, false_iff] at *; omega))) (Below.refl _ _))
            | (go_round
               case rel => exact ⟨p + k, by go_num, hw2, by rw [← HN.out (rdb_is _ _ (by simp only [beq_eq_false_iff_ne, ne_eq, true_iff] at *; omega))]; exact HC.out⟩
               case measure => simp [intOf]; omega)
      · have e1 := ck_end hlt
        have hc := HC.out
        rw [e1] at hc
        have HC2 := Lib.hid hc
        clear hc e1
        go_wp2
        go_ret2
        exact ck_ret hbig HC2.out.symm (Below.refl _ _)
end Go.Proofs.YthonaeigacfmbaaGreatDoor.B
namespace Go.Proofs.YthonaeigacfmbaaGreatDoor.B
open Go.RowKit

def nmr (s : ByteArray) : Bool := vls s 0 && decide (1 ≤ s.size ∧ s.size ≤ 32) && nmL (rns s 0)
theorem nmr_eq (s : ByteArray) : nmr s = nm s := by
  unfold nmr nm
  rw [nm_list]
  cases hv : vls s 0
  · have := nm_bad s 0 hv
    rw [nm_list] at this
    simp [this]
  · simp
theorem all_get {l : List Nat} {f : Nat → Bool} : (∀ (j x : Nat), l[j]? = some x → f x = true) → l.all f = true := by
  intro h
  rw [List.all_eq_true]
  intro x hx
  obtain ⟨j, hj⟩ := List.getElem?_of_mem hx
  exact h j x hj
def okUp (l : List Nat) (k : Nat) : Prop := ∀ (j x : Nat), j < k → l[j]? = some x → mst x (decide (j = 0)) = true
theorem okUp_next {l : List Nat} {k x : Nat} (h : okUp l k) (hx : l[k]? = some x) (hm : mst x (decide (k = 0)) = true) : okUp l (k + 1) := by
  intro j y hj hy
  by_cases e : j = k
  · subst e
    rw [hx] at hy
    cases hy
    exact hm
  · exact h j y (by omega) hy
theorem nmL_of {l : List Nat} (h : okUp l l.length) : nmL l = true := by
  cases l with
  | nil => rfl
  | cons r t =>
    unfold nmL
    rw [Bool.and_eq_true]
    refine ⟨h 0 r (by simp) rfl, all_get fun j x hx => ?_⟩
    have hj : j < t.length := by
      rcases Nat.lt_or_ge j t.length with h' | h'
      · exact h'
      · rw [List.getElem?_eq_none h'] at hx; cases hx
    exact h (j + 1) x (by simp; omega) (by simpa using hx)
theorem nmL_not {l : List Nat} {k x : Nat} (hx : l[k]? = some x) (hm : mst x (decide (k = 0)) = false) : nmL l = false := by
  cases l with
  | nil => simp at hx
  | cons r t =>
    cases k with
    | zero =>
      simp at hx
      subst hx
      show (mst r true && _) = false
      rw [show mst (r : Int) true = false from hm, Bool.false_and]
    | succ k =>
      have hx' : t[k]? = some x := by simpa using hx
      have hm' : mst (x : Int) false = false := hm
      show (_ && t.all _) = false
      rw [Bool.and_eq_false_iff]
      right
      rw [List.all_eq_false]
      exact ⟨x, List.mem_of_getElem? hx', by rw [hm']; simp⟩
set_option maxHeartbeats 3200000 in
set_option maxRecDepth 100000 in
theorem refName (s : ByteArray) (w : World) (hs : s.size ≤ 1000000000) :
    Calls Tryz.prog 96 #[.string s] w (NmPost (nm s) w) := by
  rw [← nmr_eq]
  obtain ⟨ANS, hans⟩ : ∃ b, nmr s = b := ⟨_, rfl⟩
  rw [hans]
  have cD := refDecode s w hs
  unfold DecPost at cD
  by_cases hgo : vls s 0 = true ∧ 1 ≤ s.size ∧ s.size ≤ 32
  · obtain ⟨hv, h1, h2⟩ := hgo
    rw [er_true hv, rl_true hv] at cD
    have hA : nmL (rns s 0) = ANS := by rw [← hans]; unfold nmr; rw [hv, decide_eq_true ⟨h1, h2⟩]; simp
    have HA := Lib.hid hA
    clear hA hans hv
    have hlen := rns_len_le s 0
    generalize rns s 0 = l at HA cD hlen
    have hz1 : ¬ (s.size : Int) < 1 := by omega
    have hz2 : ¬ (32 : Int) < (s.size : Int) := by omega
    go_enter Tryz.func96, Tryz.ntmps96
    go_wp2_with (go_at_call 60; refine cD.mono ?_; rintro e w' ⟨v, rfl, hsl, hb⟩)
    obtain ⟨A, c, rfl, hc⟩ := hsl
    have HSL := Lib.hid hc
    clear hc cD
    go_loopw [5] (fun i wr => ∃ k : Nat, i = .int .i64 k ∧ k ≤ l.length ∧ okUp l k ∧ ∃ q, wr = w'.drewN q) (fun i _ => l.length - (intOf i).toNat)
    case atStart => exact ⟨0, rfl, Nat.zero_le _, fun j x h => by omega, 0, rfl⟩
    case round =>
      obtain ⟨k, rfl, hk, hok, q, rfl⟩ := hrel
      have HOK := Lib.hid hok
      clear hok
      by_cases hlt : k < l.length
      · obtain ⟨x, hx⟩ : ∃ x, l[k]? = some x := ⟨_, List.getElem?_eq_getElem hlt⟩
        obtain ⟨a1, rfl, _, hc1⟩ := HSL.out.2 k x hx
        have HX := Lib.hid hx
        clear hx
        obtain ⟨cx, hcx⟩ : ∃ cx, cls x = cx := ⟨_, rfl⟩
        have cC : ∀ W, Calls Tryz.prog 62 #[.int .i32 x] W _ := fun W => refClass x W
        rw [hcx] at cC
        have HCX := Lib.hid hcx
        clear hcx
        have hlz : (k : Int) < (l.length : Int) := by omega
        by_cases k0 : k = 0
        · have hk0 : ((k : Int) == 0) = true := by simp [k0]
          have HK : Hid (decide (k = 0) = true) := Lib.hid (by simp [k0])
          clear k0
          go_wp2_with (go_at_call 62; refine (cC _).mono ?_; rintro e w1 ⟨rfl, rfl⟩)
          all_goals first
            | (go_ret
               have e1 : cx ≠ 1 := by first | omega | (simp only [bne_iff_ne, ne_eq] at *; omega)
               exact ⟨ret_b (by rw [← HA.out]; exact nmL_not HX.out (mst_false HCX.out ⟨e1, .inl HK.out⟩)), below_drewN' hb _⟩)
            | (go_roundw
               case rel =>
                 have e1 : cx = 1 := by first | omega | (simp only [bne_iff_ne, bne_eq_false_iff_eq, ne_eq] at *; omega)
                 exact ⟨k + 1, by go_num, hlt, okUp_next HOK.out HX.out (mst_true HCX.out (.inl e1)), _, rfl⟩
               case measure => simp [intOf]; omega)
        · have hk0 : ((k : Int) == 0) = false := by simp; omega
          have HK : Hid (decide (k = 0) = false) := Lib.hid (by simp [k0])
          clear k0
          go_wp2_with (go_at_call 62; refine (cC _).mono ?_; rintro e w1 ⟨rfl, rfl⟩)
          all_goals first
            | (go_ret
               have e1 : cx ≠ 1 ∧ (cx ≠ 2 ∧ (x : Int) ≠ 39) := by first | omega | (simp only [bne_iff_ne, ne_eq] at *; omega)
               exact ⟨ret_b (by rw [← HA.out]; exact nmL_not HX.out (mst_false HCX.out ⟨e1.1, .inr e1.2⟩)), below_drewN' hb _⟩)
            | (go_roundw
               case rel =>
                 have e1 : cx = 1 ∨ (cx = 2 ∨ (x : Int) = 39) := by first | omega | (simp only [bne_eq_false_iff_eq] at *; omega)
                 exact ⟨k + 1, by go_num, hlt, okUp_next HOK.out HX.out (mst_true HCX.out (e1.imp id fun h => ⟨h, HK.out⟩)), _, rfl⟩
               case measure => simp [intOf]; omega)
      · have hlz : ¬ (k : Int) < (l.length : Int) := by omega
        have HN := Lib.hid (nmL_of (l := l))
        obtain rfl : k = l.length := by omega
        go_wp2
        go_ret
        exact ⟨ret_b (by rw [← HA.out]; exact HN.out HOK.out), below_drewN' hb _⟩
  · have HA : Hid (ANS = false) := Lib.hid (by
      rw [← hans]
      unfold nmr
      by_cases hv : vls s 0 = true
      · rw [decide_eq_false (fun h => hgo ⟨hv, h⟩)]; simp
      · simp [hv])
    clear hans
    cases hv : vls s 0
    · rw [er_false hv] at cD
      clear hgo hv
      go_enter Tryz.func96, Tryz.ntmps96
      go_wp2_with (go_at_call 60; refine cD.mono ?_; rintro e w' ⟨v, rfl, hsl, hb⟩)
      go_ret
      exact ⟨ret_b HA.out, hb⟩
    · rw [er_true hv] at cD
      have hsz : s.size < 1 ∨ (1 ≤ s.size ∧ 32 < s.size) := by
        rcases Nat.lt_or_ge s.size 1 with h | h
        · exact .inl h
        · rcases Nat.lt_or_ge 32 s.size with h' | h'
          · exact .inr ⟨h, h'⟩
          · exact absurd ⟨hv, h, h'⟩ hgo
      clear hgo hv
      rcases hsz with h1 | ⟨h1, h2⟩
      · have hz1 : (s.size : Int) < 1 := by omega
        go_enter Tryz.func96, Tryz.ntmps96
        go_wp2_with (go_at_call 60; refine cD.mono ?_; rintro e w' ⟨v, rfl, hsl, hb⟩)
        go_ret
        exact ⟨ret_b HA.out, hb⟩
      · have hz1 : ¬ (s.size : Int) < 1 := by omega
        have hz2 : (32 : Int) < (s.size : Int) := by omega
        go_enter Tryz.func96, Tryz.ntmps96
        go_wp2_with (go_at_call 60; refine cD.mono ?_; rintro e w' ⟨v, rfl, hsl, hb⟩)
        go_ret
        exact ⟨ret_b HA.out, hb⟩
end Go.Proofs.YthonaeigacfmbaaGreatDoor.B
namespace Go.Proofs.YthonaeigacfmbaaGreatDoor.B
open Go.RowKit

def wdV : Array Value := (WORDS.map fun x => Value.string (T x)).toArray
def wdk (k : Nat) : List Nat := WORDS.getD k []
theorem wdV_at (k : Nat) (h : k < 29) : wdV[k]? = some (.string (T (wdk k))) := by
  unfold wdV wdk
  rw [List.getElem?_toArray, List.getElem?_map, List.getD_eq_getElem?_getD, List.getElem?_eq_getElem (show k < WORDS.length from h)]
  rfl
theorem words_any (w : World) : Calls Tryz.prog 168 #[] w fun e w' => e = .returned (.slice (some ⟨w.heap.size, 0, none⟩) 29 29) ∧ w' = w.alloc (.cells wdV 9) := by
  have hv : wdV = #[.string ⟨#[118, 97, 108]⟩] ++ wdV.extract 1 29 := by kernel_rfl
  clear hv
  go_enter Tryz.func168, Tryz.ntmps168
  go_wp2
  go_ret
  refine ⟨rfl, ?_⟩
  exact congrArg (fun c => w.alloc (.cells c 9)) (by kernel_rfl)
theorem wrd_hit {s : ByteArray} {k : Nat} (h : k < 29) (e : T (wdk k) = s) : wrd s = true := by
  unfold wrd
  rw [List.any_eq_true]
  refine ⟨wdk k, ?_, by rw [e]; simp⟩
  unfold wdk
  rw [List.getD_eq_getElem?_getD, List.getElem?_eq_getElem (show k < WORDS.length from h)]
  exact List.getElem_mem _
theorem wrd_miss {s : ByteArray} (h : ∀ k, k < 29 → T (wdk k) ≠ s) : wrd s = false := by
  unfold wrd
  rw [List.any_eq_false]
  intro x hx
  obtain ⟨k, hk, rfl⟩ := List.getElem_of_mem hx
  have := h k hk
  unfold wdk at this
  rw [List.getD_eq_getElem?_getD, List.getElem?_eq_getElem hk] at this
  simp only [Option.getD_some] at this
  rw [decide_eq_true_iff]
  exact fun e => this e.symm

set_option maxHeartbeats 3200000 in
set_option maxRecDepth 100000 in
theorem refWord (s : ByteArray) (w : World) : Calls Tryz.prog 97 #[.string s] w (NmPost (wrd s) w) := by
  have c1 := words_any w
  obtain ⟨V, hV⟩ : ∃ V, wdV = V := ⟨_, rfl⟩
  rw [hV] at c1
  have HV := Lib.hid hV
  clear hV
  go_enter Tryz.func97, Tryz.ntmps97
  go_wp2_with fail
  refine c1.mono ?_
  rintro e w1 ⟨rfl, rfl⟩
  go_wp2
  have hb0 : Below w.heap.size w (w.alloc (.cells V 9)) := (Below.refl _ _).alloc (Nat.le_refl _) _
  have hblk : (w.alloc (.cells V 9)).heap[w.heap.size]? = some (.cells V 9 (0, 0)) := heap_alloc_new w _
  generalize w.alloc (.cells V 9) = W0 at hb0 hblk ⊢
  go_loop [4] (fun i => ∃ k : Nat, k ≤ 29 ∧ i = .int .i64 k ∧ ∀ j, j < k → T (wdk j) ≠ s) (fun i => 29 - (intOf i).toNat)
  case atStart => exact ⟨0, Nat.zero_le _, rfl, fun j hj => absurd hj (Nat.not_lt_zero _)⟩
  case round =>
    obtain ⟨k, hk, rfl, hno⟩ := hrel
    have HNO := Lib.hid hno
    clear hno
    by_cases hlt : k < 29
    · have hcell : W0.cell? ⟨w.heap.size, k, none⟩ = some (.string (T (wdk k))) := by
        rw [cell_of_row W0 _ k _ _ _ hblk, ← HV.out]
        exact wdV_at k hlt
      obtain ⟨X, hX⟩ : ∃ X, T (wdk k) = X := ⟨_, rfl⟩
      rw [hX] at hcell
      have HX := Lib.hid hX
      clear hX
      by_cases he : X = s
      · have e1 : (X.toList == s.toList) = true := by rw [he]; simp
        have HE := Lib.hid he
        clear he
        go_wp2
        go_ret
        exact ⟨ret_b (wrd_hit hlt (HX.out.trans HE.out)), hb0⟩
      · have e1 : (X.toList == s.toList) = false := by
          rw [beq_eq_false_iff_ne]
          intro h
          rw [Lib.toList_data, Lib.toList_data] at h
          exact he (ba_ext h)
        have HE := Lib.hid he
        clear he
        go_wp2
        go_round
        case rel => exact ⟨k + 1, by omega, by go_num, fun j hj => by
          rcases Nat.lt_or_ge j k with h | h
          · exact HNO.out j h
          · rw [show j = k by omega, HX.out]; exact HE.out⟩
        case measure => simp [intOf]; omega
    · go_wp2
      go_ret
      exact ⟨ret_b (wrd_miss fun j hj => HNO.out j (by omega)), hb0⟩
end Go.Proofs.YthonaeigacfmbaaGreatDoor.B
