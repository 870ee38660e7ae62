/-
  The document's word: is a text what a row asks?
-/
import Derived.Test.YtoejegndbcbkmaaMgH
import Derived.Test.YtoejegndbcbkmaaMgG
namespace Go.Proofs.Ytoejegndbcbkmaa
open Go.RowKit

theorem up_nm {b : Bool} {w : World} {e : Ending} {w' : World} (h : B.NmPost b w e w') : e = .returned (.bool b) ∧ Below w.heap.size w w' := h
theorem emp_eq (s : ByteArray) : (s.toList.isEmpty) = isEmp s := by
  unfold isEmp
  rw [Lib.toList_data, Lib.size_eq]
  cases s.data.toList <;> rfl
set_option maxHeartbeats 3200000 in
set_option maxRecDepth 100000 in
theorem word_any (s : ByteArray) (l : List UInt8) (hl : l = [] ∨ l = [110] ∨ l = [108]) (w : World) (hs : s.size ≤ 1000000000) :
    Calls Try.prog 46 #[.string s, .string (byt l)] w fun e w' => e = .returned (.bool (wordR B.nck B.long s l)) ∧ Below w.heap.size w w' := by
  have c1 := fun W => B.refCk s W hs
  have c2 := fun W => B.refLong s W hs
  rcases hl with rfl | rfl | rfl
  · have he := emp_eq s
    have HW : Hid (wordR B.nck B.long s [] = isEmp s) := Lib.hid rfl
    rw [HW.out]
    have f1 : ((byt []).toList == [110]) = false := by rw [Lib.toList_data]; rfl
    have f2 : ((byt []).toList == [108]) = false := by rw [Lib.toList_data]; rfl
    clear c1 c2
    go_enter Try.func46, Try.ntmps46
    go_wp2_with fail
    go_ret
    exact ⟨rfl, Below.refl _ _⟩
  · have HW : Hid (wordR B.nck B.long s [110] = B.nck s) := Lib.hid rfl
    rw [HW.out]
    have f1 : ((byt [110]).toList == [110]) = true := by rw [Lib.toList_data]; rfl
    go_enter Try.func46, Try.ntmps46
    go_wp2_with fail
    refine (c1 _).mono ?_
    rintro e w1 ⟨rfl, hb1⟩
    go_wp2_with fail
    go_ret
    exact ⟨rfl, hb1⟩
  · have HW : Hid (wordR B.nck B.long s [108] = B.long s) := Lib.hid rfl
    rw [HW.out]
    have f1 : ((byt [108]).toList == [110]) = false := by rw [Lib.toList_data]; rfl
    have f2 : ((byt [108]).toList == [108]) = true := by rw [Lib.toList_data]; rfl
    go_enter Try.func46, Try.ntmps46
    go_wp2_with fail
    refine (c2 _).mono ?_
    rintro e w1 ⟨rfl, hb1⟩
    go_wp2_with fail
    go_ret
    exact ⟨rfl, hb1⟩
end Go.Proofs.Ytoejegndbcbkmaa
