/-
  Words for the walks of layers 1 and 2: small lemmas; what Check and Name leave.
-/
import Derived.Test.YtdofcjnkpgbjaaaDoorGt12
import Derived.Test.YtdofcjnkpgbjaaaDoorGt13
import Derived.BigQuiet
import Derived.Deep.AppendLies
import Derived.Deep.DeepMust
import Derived.Deep.QuietTactic
import Derived.IntWalk
import Derived.Lib.CountLaws
import Derived.Lib.Hide
import Derived.Lib.IndexBytes
import Derived.Lib.ItoaLen
import Derived.Lib.ItoaNum
import Derived.Lib.OthersKept
import Derived.Lib.Replace
import Derived.Outline
import Derived.OwnWalk
import Derived.Test.YtdofcjnkpgbjaaaDoorRows
import Derived.WalkKit
import Derived.WalkLawsBesides
import Derived.WalkSmall
import Derived.WalkSpells
namespace Go.Proofs.YtdofcjnkpgbjaaaDoor.B
open Go.RowKit

theorem addBlock (a : Addr) (n : Nat) : (a.add n).block = a.block := by unfold Addr.add; split <;> rfl
theorem i64_eq {a b : Int} (h : a = b) : Value.int .i64 a = .int .i64 b := by rw [h]
theorem below_drewN' {B : Nat} {a w : World} (h : Below B a w) (n : Nat) : Below B a (w.drewN n) := h.trans ⟨rfl, rfl, rfl, Nat.le_refl _, fun _ _ => rfl⟩
/-! ### Name -/
end Go.Proofs.YtdofcjnkpgbjaaaDoor.B
namespace Go.Proofs.YtdofcjnkpgbjaaaDoor.B
open Go.Lib

def ok (r : Nat) : Prop := r < 55296 ∨ (57343 < r ∧ r ≤ 1114111)
def en (r : Nat) : List UInt8 := encodeRune (r : Int)
def enc : List Nat → List UInt8
  | [] => []
  | r :: t => en r ++ enc t
def T (l : List Nat) : ByteArray := ⟨(enc l).toArray⟩
def wd (r : Nat) : Nat := (en r).length
def sz (l : List Nat) : Nat := (enc l).length
theorem enc_app (a b : List Nat) : enc (a ++ b) = enc a ++ enc b := by
  induction a with
  | nil => rfl
  | cons r t ih => simp only [List.cons_append, enc, ih, List.append_assoc]
theorem T_list (l : List Nat) : (T l).data.toList = enc l := rfl
theorem T_size (l : List Nat) : (T l).size = sz l := by rw [size_eq, T_list]; rfl
theorem sz_app (a b : List Nat) : sz (a ++ b) = sz a + sz b := by unfold sz; rw [enc_app, List.length_append]
theorem sz_nil : sz [] = 0 := rfl
theorem sz_cons (r : Nat) (t : List Nat) : sz (r :: t) = wd r + sz t := by unfold sz wd; simp only [enc, List.length_append]
theorem wd_pos (r : Nat) : 1 ≤ wd r ∧ wd r ≤ 4 := by
  have := encodeRuneZ_length (r : Int)
  unfold wd en encodeRune
  rw [List.length_map]
  exact this
theorem ba_ext {s t : ByteArray} (h : s.data.toList = t.data.toList) : s = t := by
  apply ByteArray.ext
  exact Array.ext' h
theorem T_app (a b : List Nat) : T (a ++ b) = T a ++ T b := by
  apply ba_ext
  rw [ByteArray.data_append, Array.toList_append, T_list, T_list, T_list, enc_app]
theorem wd_ascii {r : Nat} (h : r < 128) : wd r = 1 ∧ en r = [UInt8.ofNat r] := by
  have e : en r = [UInt8.ofNat r] := by
    unfold en encodeRune
    rw [encodeRuneZ_one (by omega) (by omega)]
    rfl
  exact ⟨by unfold wd; rw [e]; rfl, e⟩
theorem u8n (n : Nat) (h : n < 256) : (UInt8.ofNat n).toNat = n := by simp [UInt8.toNat_ofNat']; omega

/-! ### plain signs at a text's head -/
def u8 (l : List Nat) : List UInt8 := l.map UInt8.ofNat
theorem enc_ascii {l : List Nat} (h : ∀ x ∈ l, x < 128) : enc l = u8 l := by
  induction l with
  | nil => rfl
  | cons r t ih =>
    show en r ++ enc t = UInt8.ofNat r :: u8 t
    rw [(wd_ascii (h r (by simp))).2, ih (fun x hx => h x (by simp [hx]))]
    rfl
theorem sz_ascii {l : List Nat} (h : ∀ x ∈ l, x < 128) : sz l = l.length := by
  unfold sz; rw [enc_ascii h]; simp [u8]
end Go.Proofs.YtdofcjnkpgbjaaaDoor.B
namespace Go.Proofs.YtdofcjnkpgbjaaaDoor.B
open Go.Lib

def inr (r : Nat) : Bool := decide (cls r = 1 ∨ cls r = 2 ∨ r = 39)
def dgs (u : Nat) : List Nat := (decDigits u).map UInt8.toNat
def numb (n : Int) : List Nat := if n < 0 then 126 :: dgs n.natAbs else dgs n.toNat
def val (a : Nat) : List Nat → Nat
  | [] => a
  | r :: t => val (10 * a + (r - 48)) t
/-! ### how they go on -/
/-! ### checked texts -/
end Go.Proofs.YtdofcjnkpgbjaaaDoor.B
namespace Go.Proofs.YtdofcjnkpgbjaaaDoor.B
open Go.Lib


theorem dec_digit (u : Nat) : ∀ b ∈ decDigits u, 48 ≤ b.toNat ∧ b.toNat ≤ 57 := by
  induction u using Nat.strongRecOn with
  | _ u ih =>
    intro b hb
    rw [decDigits] at hb
    split at hb
    · simp only [List.mem_singleton] at hb
      rw [hb, u8n _ (by omega)]
      omega
    · rw [List.mem_append] at hb
      rcases hb with hb | hb
      · exact ih (u / 10) (by omega) b hb
      · simp only [List.mem_singleton] at hb
        rw [hb, u8n _ (by omega)]
        omega
theorem dgs_digit (u : Nat) : ∀ r ∈ dgs u, 48 ≤ r ∧ r ≤ 57 := by
  intro r hr
  obtain ⟨b, hb, rfl⟩ := List.mem_map.1 hr
  exact dec_digit u b hb
theorem u8_toNat (l : List UInt8) : u8 (l.map UInt8.toNat) = l := by
  unfold u8
  rw [List.map_map]
  conv => rhs; rw [← List.map_id l]
  refine List.map_congr_left fun b _ => ?_
  simp
theorem enc_dgs (u : Nat) : enc (dgs u) = decDigits u := by
  rw [enc_ascii (fun r hr => by have := dgs_digit u r hr; omega)]
  exact u8_toNat _
theorem numb_ascii (n : Int) : ∀ r ∈ numb n, r < 128 := by
  intro r hr
  unfold numb at hr
  split at hr
  · rcases List.mem_cons.1 hr with rfl | hr
    · omega
    · have := dgs_digit _ r hr; omega
  · have := dgs_digit _ r hr; omega
theorem enc_numb (n : Int) : enc (numb n) = if n < 0 then 126 :: decDigits n.natAbs else decDigits n.toNat := by
  unfold numb
  split
  · show en 126 ++ enc (dgs _) = _
    rw [enc_dgs]
    rfl
  · exact enc_dgs _
/-! ### no two numbers have the same digits -/
end Go.Proofs.YtdofcjnkpgbjaaaDoor.B
namespace Go.Proofs.YtdofcjnkpgbjaaaDoor.B
open Go.RowKit

def StrDrew (s : ByteArray) (W : World) (e : Ending) (w' : World) : Prop := e = .returned (.string s) ∧ ∃ m, w' = W.drewN m
theorem str_drew {s t : ByteArray} {W : World} (m : Nat) (h : t = s) : StrDrew s W (.returned (.string t)) (W.drewN m) := ⟨by rw [h], m, rfl⟩
theorem str_drew0 {s t : ByteArray} {W : World} (h : t = s) : StrDrew s W (.returned (.string t)) W := ⟨by rw [h], 0, rfl⟩
def DG : ByteArray := ⟨#[48, 49, 50, 51, 52, 53, 54, 55, 56, 57]⟩
theorem dg_at (d : Nat) (h : d < 10) : DG.extract d (d + 1) = T [48 + d] := by
  have h' : d = 0 ∨ d = 1 ∨ d = 2 ∨ d = 3 ∨ d = 4 ∨ d = 5 ∨ d = 6 ∨ d = 7 ∨ d = 8 ∨ d = 9 := by omega
  rcases h' with rfl | rfl | rfl | rfl | rfl | rfl | rfl | rfl | rfl | rfl
  all_goals (apply ba_ext; rw [Lib.extract_data]; rfl)
theorem dgs_small {u : Nat} (h : u < 10) : dgs u = [48 + u] := by
  unfold dgs
  rw [Lib.decDigits_one h]
  show [(UInt8.ofNat (48 + u)).toNat] = _
  rw [u8n _ (by omega)]
theorem dgs_big {u : Nat} (h : ¬ u < 10) : dgs u = dgs (u / 10) ++ [48 + u % 10] := by
  unfold dgs
  rw [Lib.decDigits, dif_neg h, List.map_append]
  show _ ++ [(UInt8.ofNat (48 + u % 10)).toNat] = _
  rw [u8n _ (by omega)]

theorem numb_size (v : Int) (h0 : -9223372036854775808 ≤ v) (h1 : v ≤ 9223372036854775807) : (T (numb v)).size ≤ 21 := by
  have h2 := Lib.itoa_length_le v h0 h1
  rw [T_size, sz_ascii (numb_ascii v)]
  unfold numb dgs
  unfold Lib.itoa at h2
  split
  · rename_i hn
    rw [if_pos hn] at h2
    simpa using h2
  · rename_i hn
    rw [if_neg hn] at h2
    simpa using h2
theorem dg_size (d : Nat) (h : d < 10) : ((⟨#[48, 49, 50, 51, 52, 53, 54, 55, 56, 57]⟩ : ByteArray).extract d (1 + d)).size ≤ 10 := by
  show (DG.extract d (1 + d)).size ≤ 10
  rw [Nat.add_comm, dg_at d h, T_size, sz_cons, sz_nil]
  have := (wd_pos (48 + d)).2
  omega

set_option maxHeartbeats 3200000 in
set_option maxRecDepth 100000 in
theorem refNumber : ∀ (k : Nat) (n : Int), n.natAbs ≤ k → -9223372036854775808 ≤ n → n ≤ 9223372036854775807 → ∀ w : World,
    Calls Tryd.prog 66 #[.int .i64 n] w (StrDrew (T (numb n)) w)
  | k, n, hk, h0, h1, w => by
    by_cases hn : n < 0
    · by_cases hs : -10 < n
      · obtain ⟨u, hu⟩ : ∃ u : Nat, n = -(u : Int) := ⟨n.natAbs, by omega⟩
        have hu1 : 1 ≤ u ∧ u < 10 := by omega
        have HA : Hid ((⟨#[126]⟩ : ByteArray) ++ DG.extract u (1 + u) = T (numb n)) := Lib.hid (by
          rw [Nat.add_comm 1 u, dg_at u hu1.2]
          have : numb n = [126] ++ [48 + u] := by
            unfold numb
            rw [if_pos hn, show n.natAbs = u by omega, dgs_small hu1.2]
            rfl
          rw [this, T_app]
          rfl)
        obtain ⟨X, hX⟩ : ∃ X, T (numb n) = X := ⟨_, rfl⟩
        rw [hX] at HA ⊢
        subst hu
        clear hX
        go_enter Tryd.func66, Tryd.ntmps66
        go_wp2
        go_ret
        exact str_drew0 HA.out
      · obtain ⟨u, hu⟩ : ∃ u : Nat, n = -(u : Int) := ⟨n.natAbs, by omega⟩
        obtain ⟨k, rfl⟩ : ∃ k', k = k' + 1 := ⟨k - 1, by omega⟩
        obtain ⟨m, hm⟩ : ∃ m, u / 10 = m := ⟨_, rfl⟩
        obtain ⟨d, hd⟩ : ∃ d, u % 10 = d := ⟨_, rfl⟩
        have hd10 : d < 10 := by omega
        have hm1 : 1 ≤ m := by omega
        have hmu : m ≤ u := by omega
        have cI := fun W => refNumber k (-(m : Int)) (by omega) (by omega) (by omega) W
        have HA : Hid (T (numb (-(m : Int))) ++ DG.extract d (1 + d) = T (numb n)) := Lib.hid (by
          rw [Nat.add_comm 1 d, dg_at d hd10, ← T_app]
          congr 1
          have e1 : numb n = 126 :: dgs u := by unfold numb; rw [if_pos hn, show n.natAbs = u by omega]
          have e2 : numb (-(m : Int)) = 126 :: dgs m := by unfold numb; rw [if_pos (by omega), show (-(m : Int)).natAbs = m by omega]
          rw [e1, e2, dgs_big (u := u) (by omega), hm, hd]
          rfl)
        have q1 : (-(u : Int)).tdiv 10 = -(m : Int) := by rw [Int.neg_tdiv, ← hm]; rfl
        have q2 : (-(u : Int)).tmod 10 = -(d : Int) := by rw [Int.neg_tmod, ← hd]; rfl
        have q3 : IntKind.i64.wrap (-(m : Int)) = -(m : Int) := IntWalk.i64_in _ (by omega)
        have q4 : IntKind.i64.wrap (d : Int) = (d : Int) := IntWalk.i64_in _ (by omega)
        have q5 : IntKind.i64.wrap (1 + (d : Int)) = 1 + (d : Int) := IntWalk.i64_in _ (by omega)
        have q6 : (1 + (d : Int)).toNat = 1 + d := by omega
        have q7 : (0 : Int) ≤ 1 + (d : Int) := by omega
        have q8 : 1 + d ≤ 10 := by omega
        have q9 : (1 : Int) + (d : Int) ≤ 10 := by omega
        obtain ⟨X, hX⟩ : ∃ X, T (numb n) = X := ⟨_, rfl⟩
        obtain ⟨Y, hY⟩ : ∃ Y, T (numb (-(m : Int))) = Y := ⟨_, rfl⟩
        rw [hX] at HA ⊢
        have b1 : Y.size ≤ 21 := by rw [← hY]; exact numb_size _ (by omega) (by omega)
        have b2 := dg_size d hd10
        rw [hY] at HA cI
        subst hu
        clear hX hY hm hd
        have hlt10 : ¬ -10 < -(u : Int) := hs
        have hlt0 : -(u : Int) < 0 := hn
        go_enter Tryd.func66, Tryd.ntmps66
        go_wp2
        go_quiet ((go_at_call 66; exact Calls.quiet_of (cI _)))
        go_wp2
        go_ret
        exact str_drew _ HA.out
    · by_cases hs : n < 10
      · obtain ⟨u, hu⟩ : ∃ u : Nat, n = (u : Int) := ⟨n.natAbs, by omega⟩
        have hu1 : u < 10 := by omega
        have HA : Hid (DG.extract u (u + 1) = T (numb n)) := Lib.hid (by
          rw [dg_at u hu1]
          unfold numb
          rw [if_neg hn, show n.toNat = u by omega, dgs_small hu1])
        obtain ⟨X, hX⟩ : ∃ X, T (numb n) = X := ⟨_, rfl⟩
        rw [hX] at HA ⊢
        subst hu
        clear hX
        go_enter Tryd.func66, Tryd.ntmps66
        go_wp2
        go_ret
        exact str_drew0 HA.out
      · obtain ⟨u, hu⟩ : ∃ u : Nat, n = (u : Int) := ⟨n.natAbs, by omega⟩
        obtain ⟨k, rfl⟩ : ∃ k', k = k' + 1 := ⟨k - 1, by omega⟩
        obtain ⟨m, hm⟩ : ∃ m, u / 10 = m := ⟨_, rfl⟩
        obtain ⟨d, hd⟩ : ∃ d, u % 10 = d := ⟨_, rfl⟩
        have hd10 : d < 10 := by omega
        have hmu : m ≤ u := by omega
        have cI := fun W => refNumber k (m : Int) (by omega) (by omega) (by omega) W
        have HA : Hid (T (numb (m : Int)) ++ DG.extract d (d + 1) = T (numb n)) := Lib.hid (by
          rw [dg_at d hd10, ← T_app]
          congr 1
          have e1 : numb n = dgs u := by unfold numb; rw [if_neg hn, show n.toNat = u by omega]
          have e2 : numb (m : Int) = dgs m := by unfold numb; rw [if_neg (by omega), show (m : Int).toNat = m by omega]
          rw [e1, e2, dgs_big (u := u) (by omega), hm, hd])
        have q1 : (u : Int).tdiv 10 = (m : Int) := by rw [← hm]; rfl
        have q2 : (u : Int).tmod 10 = (d : Int) := by rw [← hd]; rfl
        have q1' : (u : Int) / 10 = (m : Int) := by omega
        have q2' : (u : Int) % 10 = (d : Int) := by omega
        have q3 : IntKind.i64.wrap (m : Int) = (m : Int) := IntWalk.i64_in _ (by omega)
        have q4 : IntKind.i64.wrap (d : Int) = (d : Int) := IntWalk.i64_in _ (by omega)
        have q5 : IntKind.i64.wrap ((d : Int) + 1) = (d : Int) + 1 := IntWalk.i64_in _ (by omega)
        have q6 : ((d : Int) + 1).toNat = d + 1 := by omega
        have q7 : (0 : Int) ≤ (d : Int) + 1 := by omega
        have q8 : d + 1 ≤ 10 := by omega
        have q9 : (d : Int) + 1 ≤ 10 := by omega
        obtain ⟨X, hX⟩ : ∃ X, T (numb n) = X := ⟨_, rfl⟩
        obtain ⟨Y, hY⟩ : ∃ Y, T (numb (m : Int)) = Y := ⟨_, rfl⟩
        rw [hX] at HA ⊢
        have b1 : Y.size ≤ 21 := by rw [← hY]; exact numb_size _ (by omega) (by omega)
        have b2 := dg_size d hd10
        rw [Nat.add_comm 1 d] at b2
        rw [hY] at HA cI
        subst hu
        clear hX hY hm hd
        have hlt10 : ¬ (u : Int) < 10 := hs
        have hlt0 : ¬ (u : Int) < 0 := hn
        go_enter Tryd.func66, Tryd.ntmps66
        go_wp2
        go_quiet ((go_at_call 66; exact Calls.quiet_of (cI _)))
        go_wp2
        go_ret
        exact str_drew _ HA.out
end Go.Proofs.YtdofcjnkpgbjaaaDoor.B
