/-
  Plain facts, without the program: a byte of a text is a rune of it.
-/
import Derived.Test.YtagocfifagnpkaaDoorLexS
namespace Go.Proofs.YtagocfifagnpkaaDoor
open Go.Lib

theorem mem_en {r : Nat} (h : ok r) {b : UInt8} (hb : b ∈ en r) : (r < 128 ∧ b = UInt8.ofNat r) ∨ 128 ≤ b.toNat := by
  unfold ok at h
  rcases en_is h with ⟨h1, e⟩ | ⟨h1, h2, e⟩ | ⟨h1, h2, e⟩ | ⟨h1, e⟩
  · rw [e] at hb; simp only [List.mem_singleton] at hb; exact .inl ⟨h1, hb⟩
  all_goals
    rw [e] at hb
    simp only [List.mem_cons, List.not_mem_nil, or_false] at hb
    right
    rcases hb with rfl | rfl | rfl | rfl
    all_goals (rw [u8n _ (by omega)]; omega)
theorem mem_enc {l : List Nat} (ho : okl l) {c : Nat} (hc : c < 128) (h : UInt8.ofNat c ∈ enc l) : c ∈ l := by
  induction l with
  | nil => cases h
  | cons r t ih =>
    obtain ⟨h1, h2⟩ := okl_cons.1 ho
    have h' : UInt8.ofNat c ∈ en r ++ enc t := h
    rcases List.mem_append.1 h' with h3 | h3
    · rcases mem_en h1 h3 with ⟨h4, h5⟩ | h4
      · have := congrArg UInt8.toNat h5
        rw [u8n _ (by omega), u8n _ (by omega)] at this
        rw [this]
        simp
      · rw [u8n _ (by omega)] at h4
        omega
    · exact List.mem_cons_of_mem _ (ih h2 h3)
end Go.Proofs.YtagocfifagnpkaaDoor
