/-
  The lexer's Word: what it tells of any text.
-/
import Derived.Test.YtagocfifagnpkaaDoorLexS
import Derived.Test.YtagocfifagnpkaaDoorNRun
namespace Go.Proofs.YtagocfifagnpkaaDoor
open Go.RowKit


def wrdL (b : List UInt8) : Bool := (b == [118, 97, 108]) || (b == [116, 121, 112, 101]) || (b == [100, 97, 116, 97, 116, 121, 112, 101]) || (b == [115, 116, 114, 117, 99, 116, 117, 114, 101]) || (b == [115, 105, 103, 110, 97, 116, 117, 114, 101]) || (b == [102, 117, 110, 99, 116, 111, 114]) || (b == [111, 112, 101, 110]) || (b == [105, 110, 99, 108, 117, 100, 101]) || (b == [115, 116, 114, 117, 99, 116]) || (b == [101, 110, 100]) || (b == [115, 105, 103]) || (b == [119, 104, 101, 114, 101]) || (b == [115, 104, 97, 114, 105, 110, 103]) || (b == [102, 110]) || (b == [108, 101, 116]) || (b == [105, 110]) || (b == [105, 102]) || (b == [116, 104, 101, 110]) || (b == [101, 108, 115, 101]) || (b == [99, 97, 115, 101]) || (b == [102, 111, 108, 100]) || (b == [111, 102]) || (b == [116, 111]) || (b == [105, 110, 116]) || (b == [98, 111, 111, 108]) || (b == [117, 110, 105, 116]) || (b == [116, 114, 117, 101]) || (b == [102, 97, 108, 115, 101]) || (b == [109, 117])
theorem wrd_L (s : ByteArray) : wrd s = wrdL s.toList := by
  have e : ∀ x : List Nat, (∀ r ∈ x, r < 128) → decide (s = T x) = (s.toList == u8 x) := by
    intro x hx
    rw [Lib.toList_data, Bool.eq_iff_iff, decide_eq_true_iff, beq_iff_eq, ← enc_ascii hx]
    exact ⟨fun h => by rw [h]; rfl, fun h => ba_ext h⟩
  have k : WORDS.any (fun x => decide (s = T x)) = WORDS.any (fun x => s.toList == u8 x) := by
    have hW : ∀ x ∈ WORDS, ∀ r ∈ x, r < 128 := by decide
    rw [Bool.eq_iff_iff, List.any_eq_true, List.any_eq_true]
    exact ⟨fun ⟨x, h1, h2⟩ => ⟨x, h1, by rw [← e x (hW x h1)]; exact h2⟩, fun ⟨x, h1, h2⟩ => ⟨x, h1, by rw [e x (hW x h1)]; exact h2⟩⟩
  unfold wrd
  rw [k]
  simp only [WORDS, List.any_cons, List.any_nil, Bool.or_false, u8, List.map_cons, List.map_nil, wrdL, Bool.or_assoc]
  rfl

set_option maxHeartbeats 6400000 in
set_option maxRecDepth 100000 in
theorem word_any (s : ByteArray) (w : World) :
    Calls Tryd.prog 36 #[.string s] w fun e w' => e = .returned (.bool (wrd s)) ∧ w = w' := by
  rw [wrd_L]
  obtain ⟨ANS, hans⟩ : ∃ b, wrdL s.toList = b := ⟨_, rfl⟩
  rw [hans]
  have HA := Lib.hid hans
  clear hans
  go_enter Tryd.func36, Tryd.ntmps36
  go_wp2
  all_goals first
    | (exfalso; simp_all; done)
    | (go_ret
       refine ⟨ret_b (HA.out.symm.trans ?_), rfl⟩
       unfold wrdL
       simp only [*, Bool.true_or, Bool.or_true, Bool.or_self])
end Go.Proofs.YtagocfifagnpkaaDoor
