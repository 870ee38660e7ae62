/-
  Words for the walks of layers 1 and 2: small lemmas; what Check and Name leave.
-/
import Derived.Test.YtmiicfdigkkbdaaDoorGt12
import Derived.Test.YtmiicfdigkkbdaaDoorGt13
import Derived.BigQuiet
import Derived.Deep.AppendLies
import Derived.Deep.DeepMust
import Derived.Deep.QuietTactic
import Derived.IntWalk
import Derived.Lib.CountLaws
import Derived.Lib.Hide
import Derived.Lib.IndexBytes
import Derived.Lib.ItoaLen
import Derived.Lib.ItoaNum
import Derived.Lib.OthersKept
import Derived.Lib.Replace
import Derived.Outline
import Derived.OwnWalk
import Derived.Test.YtmiicfdigkkbdaaDoorRows
import Derived.WalkKit
import Derived.WalkLawsBesides
import Derived.WalkSmall
import Derived.WalkSpells
namespace Go.Proofs.YtmiicfdigkkbdaaDoor.B
open Go.RowKit

theorem addBlock (a : Addr) (n : Nat) : (a.add n).block = a.block := by unfold Addr.add; split <;> rfl
theorem i64_eq {a b : Int} (h : a = b) : Value.int .i64 a = .int .i64 b := by rw [h]
theorem below_drewN' {B : Nat} {a w : World} (h : Below B a w) (n : Nat) : Below B a (w.drewN n) := h.trans ⟨rfl, rfl, rfl, Nat.le_refl _, fun _ _ => rfl⟩
/-! ### Name -/
end Go.Proofs.YtmiicfdigkkbdaaDoor.B
namespace Go.Proofs.YtmiicfdigkkbdaaDoor.B
open Go.Lib

def ok (r : Nat) : Prop := r < 55296 ∨ (57343 < r ∧ r ≤ 1114111)
def en (r : Nat) : List UInt8 := encodeRune (r : Int)
def enc : List Nat → List UInt8
  | [] => []
  | r :: t => en r ++ enc t
def T (l : List Nat) : ByteArray := ⟨(enc l).toArray⟩
def wd (r : Nat) : Nat := (en r).length
def sz (l : List Nat) : Nat := (enc l).length
theorem enc_app (a b : List Nat) : enc (a ++ b) = enc a ++ enc b := by
  induction a with
  | nil => rfl
  | cons r t ih => simp only [List.cons_append, enc, ih, List.append_assoc]
theorem T_list (l : List Nat) : (T l).data.toList = enc l := rfl
theorem T_size (l : List Nat) : (T l).size = sz l := by rw [size_eq, T_list]; rfl
theorem sz_app (a b : List Nat) : sz (a ++ b) = sz a + sz b := by unfold sz; rw [enc_app, List.length_append]
theorem wd_ascii {r : Nat} (h : r < 128) : wd r = 1 ∧ en r = [UInt8.ofNat r] := by
  have e : en r = [UInt8.ofNat r] := by
    unfold en encodeRune
    rw [encodeRuneZ_one (by omega) (by omega)]
    rfl
  exact ⟨by unfold wd; rw [e]; rfl, e⟩
theorem u8n (n : Nat) (h : n < 256) : (UInt8.ofNat n).toNat = n := by simp [UInt8.toNat_ofNat']; omega

/-! ### plain signs at a text's head -/
def u8 (l : List Nat) : List UInt8 := l.map UInt8.ofNat
theorem enc_ascii {l : List Nat} (h : ∀ x ∈ l, x < 128) : enc l = u8 l := by
  induction l with
  | nil => rfl
  | cons r t ih =>
    show en r ++ enc t = UInt8.ofNat r :: u8 t
    rw [(wd_ascii (h r (by simp))).2, ih (fun x hx => h x (by simp [hx]))]
    rfl
theorem sz_ascii {l : List Nat} (h : ∀ x ∈ l, x < 128) : sz l = l.length := by
  unfold sz; rw [enc_ascii h]; simp [u8]
end Go.Proofs.YtmiicfdigkkbdaaDoor.B
namespace Go.Proofs.YtmiicfdigkkbdaaDoor.B
open Go.Lib

def inr (r : Nat) : Bool := decide (cls r = 1 ∨ cls r = 2 ∨ r = 39)
def dgs (u : Nat) : List Nat := (decDigits u).map UInt8.toNat
def numb (n : Int) : List Nat := if n < 0 then 126 :: dgs n.natAbs else dgs n.toNat
def val (a : Nat) : List Nat → Nat
  | [] => a
  | r :: t => val (10 * a + (r - 48)) t
/-! ### how they go on -/
/-! ### checked texts -/
end Go.Proofs.YtmiicfdigkkbdaaDoor.B
namespace Go.Proofs.YtmiicfdigkkbdaaDoor.B
open Go.Lib


theorem dec_digit (u : Nat) : ∀ b ∈ decDigits u, 48 ≤ b.toNat ∧ b.toNat ≤ 57 := by
  induction u using Nat.strongRecOn with
  | _ u ih =>
    intro b hb
    rw [decDigits] at hb
    split at hb
    · simp only [List.mem_singleton] at hb
      rw [hb, u8n _ (by omega)]
      omega
    · rw [List.mem_append] at hb
      rcases hb with hb | hb
      · exact ih (u / 10) (by omega) b hb
      · simp only [List.mem_singleton] at hb
        rw [hb, u8n _ (by omega)]
        omega
theorem dgs_digit (u : Nat) : ∀ r ∈ dgs u, 48 ≤ r ∧ r ≤ 57 := by
  intro r hr
  obtain ⟨b, hb, rfl⟩ := List.mem_map.1 hr
  exact dec_digit u b hb
theorem u8_toNat (l : List UInt8) : u8 (l.map UInt8.toNat) = l := by
  unfold u8
  rw [List.map_map]
  conv => rhs; rw [← List.map_id l]
  refine List.map_congr_left fun b _ => ?_
  simp
theorem enc_dgs (u : Nat) : enc (dgs u) = decDigits u := by
  rw [enc_ascii (fun r hr => by have := dgs_digit u r hr; omega)]
  exact u8_toNat _
theorem numb_ascii (n : Int) : ∀ r ∈ numb n, r < 128 := by
  intro r hr
  unfold numb at hr
  split at hr
  · rcases List.mem_cons.1 hr with rfl | hr
    · omega
    · have := dgs_digit _ r hr; omega
  · have := dgs_digit _ r hr; omega
theorem enc_numb (n : Int) : enc (numb n) = if n < 0 then 126 :: decDigits n.natAbs else decDigits n.toNat := by
  unfold numb
  split
  · show en 126 ++ enc (dgs _) = _
    rw [enc_dgs]
    rfl
  · exact enc_dgs _
/-! ### no two numbers have the same digits -/
end Go.Proofs.YtmiicfdigkkbdaaDoor.B
namespace Go.Proofs.YtmiicfdigkkbdaaDoor.B
open Go.RowKit

theorem numb_size (v : Int) (h0 : -9223372036854775808 ≤ v) (h1 : v ≤ 9223372036854775807) : (T (numb v)).size ≤ 21 := by
  have h2 := Lib.itoa_length_le v h0 h1
  rw [T_size, sz_ascii (numb_ascii v)]
  unfold numb dgs
  unfold Lib.itoa at h2
  split
  · rename_i hn
    rw [if_pos hn] at h2
    simpa using h2
  · rename_i hn
    rw [if_neg hn] at h2
    simpa using h2
end Go.Proofs.YtmiicfdigkkbdaaDoor.B
