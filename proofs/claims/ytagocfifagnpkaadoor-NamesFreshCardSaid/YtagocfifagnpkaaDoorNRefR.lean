/-
  The document's layer 1, as far as its layer 2 stands on it: next, Decode, Class, Check, Name: what they tell.
-/
import Derived.Test.YtagocfifagnpkaaDoorNVar
namespace Go.Proofs.YtagocfifagnpkaaDoor
open Go.RowKit


def cel (l : List Nat) : List Value := l.map fun (r : Nat) => Value.int .i32 (r : Int)
theorem cel_one {l : List Nat} : ∀ u ∈ cel l, u.oneCell' = true := by
  intro u hu
  obtain ⟨r, _, rfl⟩ := List.mem_map.1 hu
  rfl
theorem cel_app (l m : List Nat) : cel l ++ cel m = cel (l ++ m) := by simp [cel]
theorem cel_len (l : List Nat) : (cel l).length = l.length := by simp [cel]
/-- The value is a slice that reads as these runes; its cells lie below block B. -/
def Sl (w : World) (B : Nat) (v : Value) (l : List Nat) : Prop :=
  ∃ A c, v = .slice A l.length c ∧ l.length ≤ c ∧ ∀ (j u : Nat), l[j]? = some u → ∃ ad, A = some ad ∧ ad.block < B ∧ w.cell? (ad.add j) = some (.int .i32 (u : Int))
theorem Sl.below {w w' : World} {B : Nat} {v : Value} {l : List Nat} (h : Sl w B v l) (hb : Below B w w') : Sl w' B v l := by
  obtain ⟨A, c, hv, hlc, hc⟩ := h
  refine ⟨A, c, hv, hlc, fun j u hu => ?_⟩
  obtain ⟨ad, hA, hlt, hcell⟩ := hc j u hu
  exact ⟨ad, hA, hlt, (hb.cell (by rw [addBlock]; exact hlt)).trans hcell⟩
theorem Sl.more {w : World} {B B' : Nat} {v : Value} {l : List Nat} (h : Sl w B v l) (hB : B ≤ B') : Sl w B' v l := by
  obtain ⟨A, c, hv, hlc, hc⟩ := h
  refine ⟨A, c, hv, hlc, fun j u hu => ?_⟩
  obtain ⟨ad, hA, hlt, hcell⟩ := hc j u hu
  exact ⟨ad, hA, by omega, hcell⟩
theorem Sl.nil (w : World) (B : Nat) : Sl w B (.slice none 0 0) [] := ⟨none, 0, rfl, Nat.le_refl _, fun j u hu => by simp at hu⟩
theorem Sl.own {w : World} {base : Nat} {e : TypeId} {v : Value} {n : Nat} {l : List Nat} (h : w.ownsRow base e 1 v n (cel l)) : Sl w w.heap.size v l := by
  have hn : l.length = n := by have := h.1; rw [cel_len] at this; omega
  subst hn
  rcases h.2 with ⟨hv, h0⟩ | ⟨g, cap, cur, hv, _, hh, hc, _⟩
  · have hl : l = [] := List.eq_nil_of_length_eq_zero h0
    subst hl
    exact ⟨none, 0, hv, Nat.le_refl _, fun j u hu => by simp at hu⟩
  · refine ⟨some ⟨g, 0, none⟩, cap, hv, hc, fun j u hu => ⟨_, rfl, heap_lt hh, ?_⟩⟩
    exact h.cells (g := g) (by rw [hv]; rfl) j _ (by simp [cel, hu])
/-- A text's runes; of what is no text none. -/
def rl (s : ByteArray) : List Nat := if vls s 0 then rns s 0 else []
def er (s : ByteArray) : Int := if vls s 0 then 0 else 4
theorem rl_true {s : ByteArray} (h : vls s 0 = true) : rl s = rns s 0 := by simp [rl, h]
theorem rl_false {s : ByteArray} (h : vls s 0 = false) : rl s = [] := by simp [rl, h]
theorem er_true {s : ByteArray} (h : vls s 0 = true) : er s = 0 := by simp [er, h]
theorem er_false {s : ByteArray} (h : vls s 0 = false) : er s = 4 := by simp [er, h]
theorem rl_len (s : ByteArray) : (rl s).length ≤ s.size := by
  unfold rl
  split
  · have := rns_len_le s 0; omega
  · simp
def DecPost (s : ByteArray) (W : World) (e : Ending) (w' : World) : Prop :=
  ∃ v, e = .returned (.tuple #[v, .int .i64 (er s)]) ∧ Sl w' w'.heap.size v (rl s) ∧ Below W.heap.size W w'
theorem dec_bad {s : ByteArray} {W w' : World} (hv : vls s 0 = false) (hb : Below W.heap.size W w') : DecPost s W (.returned (.tuple #[.slice none 0 0, .int .i64 4])) w' :=
  ⟨_, by rw [er_false hv], by rw [rl_false hv]; exact Sl.nil _ _, hb⟩
theorem dec_good {s : ByteArray} {W w' : World} {base : Nat} {e : TypeId} {v : Value} {n : Nat} {l : List Nat} (hv : vls s 0 = true) (hl : l = rns s 0) (ho : w'.ownsRow base e 1 v n (cel l)) (hb : Below W.heap.size W w') :
    DecPost s W (.returned (.tuple #[v, .int .i64 0])) w' :=
  ⟨_, by rw [er_true hv], by rw [rl_true hv, ← hl]; exact Sl.own ho, hb⟩
theorem infoRune : (Tryd.prog.info? 21).map (fun i => (i.zero, i.size, i.bytes)) = some (some (.int .i32 0), 1, 4) := by kernel_rfl
def NxPost (s : ByteArray) (i : Nat) (w : World) (e : Ending) (w' : World) : Prop := e = .returned (.tuple #[.int .i32 (nx s i).1, .int .i64 (nx s i).2]) ∧ w = w'
theorem nx_ret {s : ByteArray} {i : Nat} {w : World} {x y : Value} {a b : Nat} (hx : x = .int .i32 a) (hy : y = .int .i64 b) (h : nx s i = (a, b)) : NxPost s i w (.returned (.tuple #[x, y])) w := by
  subst hx; subst hy
  unfold NxPost
  rw [h]
  exact ⟨rfl, rfl⟩
set_option maxHeartbeats 400000 in
set_option maxRecDepth 100000 in
theorem next_ascii (s : ByteArray) (i : Nat) (w : World) (hi : i < s.size) (hb : bt s i < 128) :
    Calls Tryd.prog 59 #[.string s, .int .i64 i] w (NxPost s i w) := by
  have hn : nx s i = (s[i].toNat, 1) := by rw [nx_good (lead_ascii hb).1, (lead_ascii hb).2, bt_get s i hi]
  have hg := bt_get s i hi
  rw [← hg] at hb
  clear hg
  have HN := Lib.hid hn
  clear hn
  go_enter Tryd.func59, Tryd.ntmps59
  go_wp2
  go_ret2
  exact nx_ret rfl rfl HN.out
set_option maxHeartbeats 400000 in
set_option maxRecDepth 100000 in
theorem next_none (s : ByteArray) (i : Nat) (w : World) (hi : i < s.size) (h1 : 128 ≤ bt s i) (h2 : bt s i < 194 ∨ 245 ≤ bt s i) :
    Calls Tryd.prog 59 #[.string s, .int .i64 i] w (NxPost s i w) := by
  have hn : nx s i = (0, 0) := nx_bad (lead_none h1 h2)
  have hg := bt_get s i hi
  have hl := bt_lt s i
  rw [← hg] at h1 h2 hl
  clear hg
  have HN := Lib.hid hn
  clear hn
  rcases h2 with h2 | h2
  all_goals
    go_enter Tryd.func59, Tryd.ntmps59
    go_wp2
    go_ret2
    exact nx_ret rfl rfl HN.out
set_option maxHeartbeats 400000 in
set_option maxRecDepth 100000 in
theorem next_short (s : ByteArray) (i n off least : Nat) (w : World) (hi : i < s.size) (hL : Lead (bt s i) n off least) (hsz : s.size - i < n) :
    Calls Tryd.prog 59 #[.string s, .int .i64 i] w (NxPost s i w) := by
  have hn : nx s i = (0, 0) := nx_bad (lead_short hL hsz)
  have hg := bt_get s i hi
  unfold Lead at hL
  rw [← hg] at hL
  clear hg
  have HN := Lib.hid hn
  clear hn
  rcases hL with ⟨rfl, rfl, rfl, hl, hu⟩ | ⟨rfl, rfl, rfl, hl, hu⟩ | ⟨rfl, rfl, rfl, hl, hu⟩
  · have hz : (s.size : Int) - (i : Int) < 2 := by omega
    go_enter Tryd.func59, Tryd.ntmps59
    go_wp2
    go_ret2
    exact nx_ret rfl rfl HN.out
  · have hz : (s.size : Int) - (i : Int) < 3 := by omega
    go_enter Tryd.func59, Tryd.ntmps59
    go_wp2
    go_ret2
    exact nx_ret rfl rfl HN.out
  · have hz : (s.size : Int) - (i : Int) < 4 := by omega
    go_enter Tryd.func59, Tryd.ntmps59
    go_wp2
    go_ret2
    exact nx_ret rfl rfl HN.out
theorem acc_start {s : ByteArray} {i a b : Nat} {z : Int} (off : Nat) (h : a = b) (hl : off ≤ a) (hz : z = (off : Int)) : (a : Int) - z = ((acc s i (b - off) (1 - 1) : Nat) : Int) := by
  show (a : Int) - z = ((b - off : Nat) : Int)
  omega
theorem acc_next (s : ByteArray) (p r j A : Nat) (hj : 1 ≤ j) (hA : acc s p r (j - 1) = A) : acc s p r (j + 1 - 1) = 64 * A + (bt s (p + j) - 128) := by
  obtain ⟨k, rfl⟩ : ∃ k, j = k + 1 := ⟨j - 1, by omega⟩
  subst hA
  rfl
theorem acc_step {a : Int} {A b c N : Nat} (hN : N = 64 * A + (b - 128)) (hb : c = b) (hl : 128 ≤ c) (ha : a = 64 * (A : Int) + (c : Int) - 128) : a = (N : Int) := by omega
theorem cont_all {s : ByteArray} {i j : Nat} (h : ∀ t, 1 ≤ t → t < j → contAt s i t) (h1 : 128 ≤ bt s (i + j)) (h2 : bt s (i + j) ≤ 191) : ∀ t, 1 ≤ t → t < j + 1 → contAt s i t := by
  intro t ht1 ht2
  by_cases e : t = j
  · subst e; exact ⟨h1, h2⟩
  · exact h t ht1 (by omega)
set_option maxHeartbeats 1600000 in
set_option maxRecDepth 100000 in
theorem next_two (s : ByteArray) (i : Nat) (w : World) (hi : i < s.size) (hs : s.size ≤ 9223372036854775807) (hL : Lead (bt s i) 2 192 128) (hsz : 2 ≤ s.size - i) :
    Calls Tryd.prog 59 #[.string s, .int .i64 i] w (NxPost s i w) := by
  have HL := Lib.hid hL
  have hg := bt_get s i hi
  have hl : 194 ≤ s[i].toNat := by unfold Lead at hL; omega
  have hu : s[i].toNat < 224 := by unfold Lead at hL; omega
  clear hL
  have HG := Lib.hid hg
  clear hg
  have hz : ¬ (s.size : Int) - (i : Int) < 2 := by omega
  go_enter Tryd.func59, Tryd.ntmps59
  go_wp2
  go_loop [8, 10] (fun r k => ∃ j : Nat, 1 ≤ j ∧ j ≤ 2 ∧ k = .int .i64 j ∧ r = .int .i64 (acc s i (bt s i - 192) (j - 1) : Nat) ∧ ∀ t, 1 ≤ t → t < j → contAt s i t)  (fun _ k => 2 - (intOf k).toNat)
  case atStart => exact ⟨1, by omega, by omega, rfl, i64_eq (acc_start 192 HG.out (by omega) rfl), fun t h1 h2 => by omega⟩
  case round =>
    obtain ⟨j, hj1, hj2, rfl, rfl, hall⟩ := hrel
    have HA := Lib.hid hall
    clear hall
    have hA := acc_lt s i (bt s i - 192) (j - 1) (by have := HG.out; omega) (by omega)
    obtain ⟨A, hA'⟩ : ∃ A, acc s i (bt s i - 192) (j - 1) = A := ⟨_, rfl⟩
    rw [hA'] at hA
    have HA' := Lib.hid hA'
    rw [hA']
    clear hA'
    by_cases hj : j < 2
    · have hij : i + j < s.size := by omega
      have hc := bt_lt s (i + j)
      have hcg := bt_get s (i + j) hij
      rw [← hcg] at hc
      have HC := Lib.hid hcg
      clear hcg
      have HNX := Lib.hid (acc_next s i (bt s i - 192) j A hj1 HA'.out)
      go_wp2
      all_goals first
        | (go_ret2
           exact nx_ret rfl rfl (nx_bad (lead_cont HL.out hj1 hj (by rw [contAt, ← HC.out]; omega))))
        | (go_round
           case rel =>
             have k1 : 128 ≤ s[i + j].toNat := by omega
             have k2 : s[i + j].toNat ≤ 191 := by omega
             exact ⟨j + 1, by omega, by omega, by go_num, i64_eq (acc_step HNX.out HC.out k1 (by omega)), cont_all HA.out (by rw [← HC.out]; exact k1) (by rw [← HC.out]; exact k2)⟩
           case measure => simp [intOf]; omega)
    · obtain rfl : j = 2 := by omega
      have HW := Lib.hid (lead_whole HL.out hsz HA.out HA'.out.symm)
      clear hj hj1 hj2
      go_wp2
      all_goals
        go_ret2
        first
        | exact nx_ret rfl rfl (nx_bad (HW.out.1 (by omega)))
        | exact nx_ret rfl rfl (by rw [nx_good (HW.out.2 (by omega)).1]; exact (HW.out.2 (by omega)).2)
set_option maxHeartbeats 1600000 in
set_option maxRecDepth 100000 in
theorem next_three (s : ByteArray) (i : Nat) (w : World) (hi : i < s.size) (hs : s.size ≤ 9223372036854775807) (hL : Lead (bt s i) 3 224 2048) (hsz : 3 ≤ s.size - i) :
    Calls Tryd.prog 59 #[.string s, .int .i64 i] w (NxPost s i w) := by
  have HL := Lib.hid hL
  have hg := bt_get s i hi
  have hl : 224 ≤ s[i].toNat := by unfold Lead at hL; omega
  have hu : s[i].toNat < 240 := by unfold Lead at hL; omega
  clear hL
  have HG := Lib.hid hg
  clear hg
  have hz : ¬ (s.size : Int) - (i : Int) < 3 := by omega
  go_enter Tryd.func59, Tryd.ntmps59
  go_wp2
  go_loop [8, 10] (fun r k => ∃ j : Nat, 1 ≤ j ∧ j ≤ 3 ∧ k = .int .i64 j ∧ r = .int .i64 (acc s i (bt s i - 224) (j - 1) : Nat) ∧ ∀ t, 1 ≤ t → t < j → contAt s i t)  (fun _ k => 3 - (intOf k).toNat)
  case atStart => exact ⟨1, by omega, by omega, rfl, i64_eq (acc_start 224 HG.out (by omega) rfl), fun t h1 h2 => by omega⟩
  case round =>
    obtain ⟨j, hj1, hj2, rfl, rfl, hall⟩ := hrel
    have HA := Lib.hid hall
    clear hall
    have hA := acc_lt s i (bt s i - 224) (j - 1) (by have := HG.out; omega) (by omega)
    obtain ⟨A, hA'⟩ : ∃ A, acc s i (bt s i - 224) (j - 1) = A := ⟨_, rfl⟩
    rw [hA'] at hA
    have HA' := Lib.hid hA'
    rw [hA']
    clear hA'
    by_cases hj : j < 3
    · have hij : i + j < s.size := by omega
      have hc := bt_lt s (i + j)
      have hcg := bt_get s (i + j) hij
      rw [← hcg] at hc
      have HC := Lib.hid hcg
      clear hcg
      have HNX := Lib.hid (acc_next s i (bt s i - 224) j A hj1 HA'.out)
      go_wp2
      all_goals first
        | (go_ret2
           exact nx_ret rfl rfl (nx_bad (lead_cont HL.out hj1 hj (by rw [contAt, ← HC.out]; omega))))
        | (go_round
           case rel =>
             have k1 : 128 ≤ s[i + j].toNat := by omega
             have k2 : s[i + j].toNat ≤ 191 := by omega
             exact ⟨j + 1, by omega, by omega, by go_num, i64_eq (acc_step HNX.out HC.out k1 (by omega)), cont_all HA.out (by rw [← HC.out]; exact k1) (by rw [← HC.out]; exact k2)⟩
           case measure => simp [intOf]; omega)
    · obtain rfl : j = 3 := by omega
      have HW := Lib.hid (lead_whole HL.out hsz HA.out HA'.out.symm)
      clear hj hj1 hj2
      go_wp2
      all_goals
        go_ret2
        first
        | exact nx_ret rfl rfl (nx_bad (HW.out.1 (by omega)))
        | exact nx_ret rfl rfl (by rw [nx_good (HW.out.2 (by omega)).1]; exact (HW.out.2 (by omega)).2)
set_option maxHeartbeats 1600000 in
set_option maxRecDepth 100000 in
theorem next_four (s : ByteArray) (i : Nat) (w : World) (hi : i < s.size) (hs : s.size ≤ 9223372036854775807) (hL : Lead (bt s i) 4 240 65536) (hsz : 4 ≤ s.size - i) :
    Calls Tryd.prog 59 #[.string s, .int .i64 i] w (NxPost s i w) := by
  have HL := Lib.hid hL
  have hg := bt_get s i hi
  have hl : 240 ≤ s[i].toNat := by unfold Lead at hL; omega
  have hu : s[i].toNat < 245 := by unfold Lead at hL; omega
  clear hL
  have HG := Lib.hid hg
  clear hg
  have hz : ¬ (s.size : Int) - (i : Int) < 4 := by omega
  go_enter Tryd.func59, Tryd.ntmps59
  go_wp2
  go_loop [8, 10] (fun r k => ∃ j : Nat, 1 ≤ j ∧ j ≤ 4 ∧ k = .int .i64 j ∧ r = .int .i64 (acc s i (bt s i - 240) (j - 1) : Nat) ∧ ∀ t, 1 ≤ t → t < j → contAt s i t)  (fun _ k => 4 - (intOf k).toNat)
  case atStart => exact ⟨1, by omega, by omega, rfl, i64_eq (acc_start 240 HG.out (by omega) rfl), fun t h1 h2 => by omega⟩
  case round =>
    obtain ⟨j, hj1, hj2, rfl, rfl, hall⟩ := hrel
    have HA := Lib.hid hall
    clear hall
    have hA := acc_lt s i (bt s i - 240) (j - 1) (by have := HG.out; omega) (by omega)
    obtain ⟨A, hA'⟩ : ∃ A, acc s i (bt s i - 240) (j - 1) = A := ⟨_, rfl⟩
    rw [hA'] at hA
    have HA' := Lib.hid hA'
    rw [hA']
    clear hA'
    by_cases hj : j < 4
    · have hij : i + j < s.size := by omega
      have hc := bt_lt s (i + j)
      have hcg := bt_get s (i + j) hij
      rw [← hcg] at hc
      have HC := Lib.hid hcg
      clear hcg
      have HNX := Lib.hid (acc_next s i (bt s i - 240) j A hj1 HA'.out)
      go_wp2
      all_goals first
        | (go_ret2
           exact nx_ret rfl rfl (nx_bad (lead_cont HL.out hj1 hj (by rw [contAt, ← HC.out]; omega))))
        | (go_round
           case rel =>
             have k1 : 128 ≤ s[i + j].toNat := by omega
             have k2 : s[i + j].toNat ≤ 191 := by omega
             exact ⟨j + 1, by omega, by omega, by go_num, i64_eq (acc_step HNX.out HC.out k1 (by omega)), cont_all HA.out (by rw [← HC.out]; exact k1) (by rw [← HC.out]; exact k2)⟩
           case measure => simp [intOf]; omega)
    · obtain rfl : j = 4 := by omega
      have HW := Lib.hid (lead_whole HL.out hsz HA.out HA'.out.symm)
      clear hj hj1 hj2
      go_wp2
      all_goals
        go_ret2
        first
        | exact nx_ret rfl rfl (nx_bad (HW.out.1 (by omega)))
        | exact nx_ret rfl rfl (by rw [nx_good (HW.out.2 (by omega)).1]; exact (HW.out.2 (by omega)).2)
/-- ████ THE DOCUMENT's OWN DECODER, at any place of any text. -/
theorem next_any (s : ByteArray) (i : Nat) (w : World) (hi : i < s.size) (hs : s.size ≤ 9223372036854775807) :
    Calls Tryd.prog 59 #[.string s, .int .i64 i] w (NxPost s i w) := by
  by_cases h0 : bt s i < 128
  · exact next_ascii s i w hi h0
  by_cases h1 : bt s i < 194 ∨ 245 ≤ bt s i
  · exact next_none s i w hi (by omega) h1
  obtain ⟨n, off, least, hL⟩ : ∃ n off least, Lead (bt s i) n off least := by
    by_cases h2 : bt s i < 224
    · exact ⟨2, 192, 128, .inl ⟨rfl, rfl, rfl, by omega, h2⟩⟩
    by_cases h3 : bt s i < 240
    · exact ⟨3, 224, 2048, .inr (.inl ⟨rfl, rfl, rfl, by omega, h3⟩)⟩
    · exact ⟨4, 240, 65536, .inr (.inr ⟨rfl, rfl, rfl, by omega, by omega⟩)⟩
  by_cases hsz : s.size - i < n
  · exact next_short s i n off least w hi hL hsz
  have hL' := hL
  rcases hL with ⟨rfl, rfl, rfl, _⟩ | ⟨rfl, rfl, rfl, _⟩ | ⟨rfl, rfl, rfl, _⟩
  · exact next_two s i w hi hs hL' (by omega)
  · exact next_three s i w hi hs hL' (by omega)
  · exact next_four s i w hi hs hL' (by omega)

/-- next, at a place where it tells (a, b). -/
theorem next_at {s : ByteArray} {i a b : Nat} (w : World) (hi : i < s.size) (hs : s.size ≤ 9223372036854775807) (h : nx s i = (a, b)) :
    Calls Tryd.prog 59 #[.string s, .int .i64 i] w fun e w' => e = .returned (.tuple #[.int .i32 (a : Int), .int .i64 (b : Int)]) ∧ w = w' := by
  have := next_any s i w hi hs
  unfold NxPost at this
  rw [h] at this
  exact this
def DecRel (s : ByteArray) (W : World) (v i : Value) (wr : World) : Prop :=
  ∃ (p : Nat) (l : List Nat), i = .int .i64 p ∧ p ≤ s.size ∧ l.length ≤ p ∧ wr.ownsRow W.heap.size 21 1 v l.length (cel l) ∧ Below W.heap.size W wr ∧ l ++ rns s p = rns s 0 ∧ vls s p = vls s 0
set_option maxHeartbeats 1600000 in
set_option maxRecDepth 100000 in
theorem refDecode (s : ByteArray) (w : World) (hs : s.size ≤ 1000000000) :
    Calls Tryd.prog 50 #[.string s] w (DecPost s w) := by
  obtain ⟨i0, hi, hz0, hz1, hz2⟩ := info_parts infoRune
  go_enter Tryd.func50, Tryd.ntmps50
  go_wp2
  go_loopw [4, 5] (fun v i wr => DecRel s w v i wr) (fun _ i _ => s.size - (intOf i).toNat)
  case atStart => exact ⟨0, [], rfl, Nat.zero_le _, Nat.zero_le _, World.ownsRow_nil _ _ _ _, Below.refl _ _, rfl, rfl⟩
  case round =>
    obtain ⟨p, l, rfl, hp, hlp, hown, hbel, hl, hv⟩ := hrel
    have HL := Lib.hid hl
    have HV := Lib.hid hv
    clear hl hv
    have hbs := hbel.size
    by_cases hlt : p < s.size
    · by_cases hb : bad s p = true
      · have hnx := nx_bad hb
        have HB := Lib.hid hb
        clear hb
        have cN : ∀ W, Calls Tryd.prog 59 #[.string s, .int .i64 p] W _ := fun W => next_at W hlt (by omega) hnx
        clear hnx
        go_wp2_with (go_at_call 59; refine (cN _).mono ?_; rintro e w' ⟨rfl, rfl⟩)
        go_ret2
        exact dec_bad (by rw [← HV.out]; exact vls_bad hlt HB.out) hbel
      · have hb' : bad s p = false := by simpa using hb
        clear hb
        have hnx := nx_good hb'
        have HB := Lib.hid hb'
        clear hb'
        have hw1 := dc_pos s p
        have hw2 := dc_le s p hlt
        have HR := Lib.hid (rns_step hlt)
        have HS := Lib.hid (vls_good hlt HB.out)
        obtain ⟨r, k, hrk⟩ : ∃ r k, dc s p = (r, k) := ⟨_, _, rfl⟩
        have hr := dc_rune s p
        rw [hrk] at hnx hw1 hw2 HR HS hr
        dsimp only at hw1 hw2 HR HS hr
        clear hrk
        have cN : ∀ W, Calls Tryd.prog 59 #[.string s, .int .i64 p] W _ := fun W => next_at W hlt (by omega) hnx
        clear hnx
        have hk0 : ((k : Int) == 0) = false := by simp; omega
        go_wp2_with (first
          | (go_at_call 59; refine (cN _).mono ?_; rintro e w' ⟨rfl, rfl⟩)
          | (at_builtin; go_loud (refine wpList_append_own _ rfl _ _ 64 rfl w.heap.size 21 i0 (.int .i32 0) 1 4 Tryd.underlying64 hi hz0 hz1 hz2 rfl (by decide) _ _ _ rfl (hown.alloc _) ⟨wr.heap.size, 0, none⟩ 1 1 [.int .i32 (r : Int)] rfl rfl (cell_one_new _ _ _) (fun x hx => by simp at hx; subst hx; rfl) (by unfold maxLen; omega) (by omega) (by simp; omega) ?_); intro v' w1 hown1 hgrow1 _))
        go_roundw
        case rel =>
          exact ⟨p + k, l ++ [r], by go_num, hw2, by simp; omega, by simpa [cel] using hown1, ((hbel.alloc hbs _).grown hgrow1 (by simp; omega) (fun g hg => (hown.lt g hg).1)),
            by rw [List.append_assoc, List.singleton_append, ← HR.out]; exact HL.out, by rw [← HS.out]; exact HV.out⟩
        case measure => simp [intOf]; omega
    · have e1 := rns_end hlt
      have e2 := vls_end hlt
      have hl := HL.out
      have hv := HV.out
      rw [e1, List.append_nil] at hl
      rw [e2] at hv
      have HL2 := Lib.hid hl
      have HV2 := Lib.hid hv
      clear hl hv e1 e2
      go_wp2
      go_ret2
      exact dec_good HV2.out.symm HL2.out hown hbel
set_option maxHeartbeats 1600000 in
set_option maxRecDepth 100000 in
theorem refClass (r : Int) (w : World) : Calls Tryd.prog 51 #[.int .i32 r] w fun e w' => e = .returned (.int .i64 (cls r)) ∧ w = w' := by
  obtain ⟨c, hc⟩ : ∃ c, cls r = c := ⟨_, rfl⟩
  rw [hc]
  have HC := Lib.hid hc
  clear hc
  go_enter Tryd.func51, Tryd.ntmps51
  go_wp2
  all_goals go_ret
  all_goals
    refine ⟨ret_i64 (HC.out.symm.trans (cls_is r _ ?_)), rfl⟩
    simp only [beq_iff_eq, beq_eq_false_iff_ne, bne_iff_ne, bne_eq_false_iff_eq, ne_eq, and_true] at *
    omega
end Go.Proofs.YtagocfifagnpkaaDoor
