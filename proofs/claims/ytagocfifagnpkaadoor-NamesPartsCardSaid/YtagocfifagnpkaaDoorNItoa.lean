/-
  The lexer's Number: what it tells.
-/
import Derived.Test.YtagocfifagnpkaaDoorNVar
import Derived.Test.YtagocfifagnpkaaDoorNNum
import Derived.Lib.AppendIntMem
namespace Go.Proofs.YtagocfifagnpkaaDoor
open Go.RowKit

def StrPost (s : ByteArray) (W : World) (e : Ending) (w' : World) : Prop := e = .returned (.string s) ∧ Below W.heap.size W w'
theorem itoa_any (n : Int) (h0 : -9223372036854775808 ≤ n) (h1 : n ≤ 9223372036854775807) (w : World) (hL : Nx w) :
    Calls Tryd.prog 63 #[.int .i64 n] w (StrPost ⟨(Lib.itoa n).toArray⟩ w) :=
  (Tryd.strconv_Itoa n h0 h1 w hL.1).mono fun _ _ ⟨he, k, os, hw⟩ => ⟨he, by rw [hw]; exact Lib.below_grow _ _ (Nat.le_refl _) k os⟩
theorem T_of {l : List UInt8} {r : List Nat} (h : l = enc r) : (⟨l.toArray⟩ : ByteArray) = T r := by rw [h]; rfl
theorem replace_any (n : Int) (h0 : -9223372036854775808 ≤ n) (h1 : n ≤ 9223372036854775807) (w : World) (hL : Nx w) :
    Calls Tryd.prog 62 #[.string ⟨(Lib.itoa n).toArray⟩, .string ⟨#[45]⟩, .string ⟨#[126]⟩, .int .i64 1] w (StrPost (T (numb n)) w) := by
  obtain ⟨m, hm⟩ := hL.2
  have hl := Lib.itoa_length_le n h0 h1
  have hc := count_itoa n
  have hsz : (ByteArray.mk (Lib.itoa n).toArray).size = (Lib.itoa n).length := by rw [Lib.size_eq]
  have hc' : Lib.countB ⟨(Lib.itoa n).toArray⟩ ⟨#[45]⟩ ≤ 1 := hc
  refine (Tryd.strings_Replace ⟨(Lib.itoa n).toArray⟩ ⟨#[45]⟩ ⟨#[126]⟩ 1 m w (by rw [hsz]; omega) hm (by decide) ?_).mono fun _ _ ⟨he, hb⟩ => ⟨?_, hb⟩
  · rw [hsz, show (ByteArray.mk #[126]).size = 1 from rfl]
    omega
  · rw [he]
    exact congrArg (fun x => Ending.returned (.string x)) (T_of (rep_itoa n))

set_option maxHeartbeats 1600000 in
set_option maxRecDepth 100000 in
theorem number_txt (n : Int) (h0 : -9223372036854775808 ≤ n) (h1 : n ≤ 9223372036854775807) (w : World) (hL : Nx w) :
    Calls Tryd.prog 55 #[.int .i64 n] w (StrPost (T (numb n)) w) := by
  have c1 := itoa_any n h0 h1 w hL
  have c2 := fun W (hL : Nx W) => replace_any n h0 h1 W hL
  obtain ⟨X, hX⟩ : ∃ X, X = T (numb n) := ⟨_, rfl⟩
  obtain ⟨Y, hY⟩ : ∃ Y : ByteArray, Y = ⟨(Lib.itoa n).toArray⟩ := ⟨_, rfl⟩
  rw [← hX] at c2 ⊢
  rw [← hY] at c1 c2
  have C2 := Lib.hid c2
  clear hX hY c2
  go_enter Tryd.func55, Tryd.ntmps55
  go_wp2_with fail
  refine c1.mono ?_
  rintro e w1 ⟨rfl, hb1⟩
  go_wp2_with fail
  refine (C2.out w1 (hL.below hb1)).mono ?_
  rintro e w2 ⟨rfl, hb2⟩
  have hfin := chn hb1 hb2
  go_wp2
  go_ret
  exact ⟨rfl, hfin⟩
end Go.Proofs.YtagocfifagnpkaaDoor
