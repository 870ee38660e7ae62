/-
  Plain facts, without the program: texts as runes, by places in the text. 'dc s p': the rune that begins at byte p and its width; (65533, 1): none begins there. 'rns s p': the runes from place p on; 'vls s p': all from there on is right UTF-8.
-/
import Derived.Lib.RuneCount
import Derived.Lib.ValidLaws
namespace Go.Proofs.YtdofcjnkpgbjaaaDoor.B
open Go.Lib

abbrev dc (s : ByteArray) (p : Nat) : Nat × Nat := Utf8.decode s p
def bt (s : ByteArray) (p : Nat) : Nat := (s.get! p).toNat
theorem dc_N (s : ByteArray) (p : Nat) : dc s p = decodeN (s.size - p) (bt s p) (bt s (p + 1)) (bt s (p + 2)) (bt s (p + 3)) := decode_at s p
theorem dc_pos (s : ByteArray) (p : Nat) : 1 ≤ (dc s p).2 := width_pos s p
theorem dc_le (s : ByteArray) (p : Nat) (h : p < s.size) : p + (dc s p).2 ≤ s.size := by
  rw [dc_N]
  rcases decodeN_shape (s.size - p) (bt s p) (bt s (p + 1)) (bt s (p + 2)) (bt s (p + 3)) with ⟨c, e⟩ | ⟨c1, c2, c3, cv, e⟩ | ⟨c1, c2, c3, c4, cv, cs, e⟩ | ⟨c1, c2, c3, c4, c5, cv, cw, e⟩ | e
  all_goals (rw [e]; dsimp only; omega)

/-! ### the document's decoder, lead byte by lead byte -/
/-! ### the runes from a place on -/
theorem along (s : ByteArray) (Q : Nat → Prop) (hend : ∀ p, s.size ≤ p → Q p) (hstep : ∀ p, p < s.size → Q (p + (dc s p).2) → Q p) : ∀ p, Q p := by
  have key : ∀ f p, s.size ≤ p + f → Q p := by
    intro f
    induction f with
    | zero => intro p h; exact hend p (by omega)
    | succ f ih =>
      intro p h
      by_cases hp : p < s.size
      · have hw := dc_pos s p
        exact hstep p hp (ih _ (by omega))
      · exact hend p (by omega)
  intro p
  exact key s.size p (by omega)

end Go.Proofs.YtdofcjnkpgbjaaaDoor.B
namespace Go.Proofs.YtdofcjnkpgbjaaaDoor.B
open Go.Lib

def goF {σ α : Type} (s : ByteArray) (stop : σ → Nat → Option α) (next : σ → Nat → σ) (fin : σ → α) : Nat → σ → Nat → α
  | 0, st, _ => fin st
  | f + 1, st, p => if p < s.size then (match stop st p with | some a => a | none => goF s stop next fin f (next st p) (p + (dc s p).2)) else fin st
section
variable {σ α : Type} {s : ByteArray} {stop : σ → Nat → Option α} {next : σ → Nat → σ} {fin : σ → α}
theorem goF_end {f : Nat} {st : σ} {p : Nat} (h : ¬ p < s.size) : goF s stop next fin f st p = fin st := by
  cases f with
  | zero => rfl
  | succ f => simp only [goF, if_neg h]
theorem goF_fuel : ∀ (f g : Nat) (st : σ) (p : Nat), s.size ≤ p + f → s.size ≤ p + g → goF s stop next fin f st p = goF s stop next fin g st p
  | 0, g, st, p, h, _ => by rw [goF_end (by omega), goF_end (by omega)]
  | f + 1, 0, st, p, _, h => by rw [goF_end (by omega), goF_end (by omega)]
  | f + 1, g + 1, st, p, h1, h2 => by
    have hw := dc_pos s p
    simp only [goF]
    rw [goF_fuel f g (next st p) (p + (dc s p).2) (by omega) (by omega)]
end
def along_ {σ α : Type} (s : ByteArray) (stop : σ → Nat → Option α) (next : σ → Nat → σ) (fin : σ → α) (st : σ) (p : Nat) : α := goF s stop next fin s.size st p
section
variable {σ α : Type} {s : ByteArray} {stop : σ → Nat → Option α} {next : σ → Nat → σ} {fin : σ → α}
theorem along_end {st : σ} {p : Nat} (h : ¬ p < s.size) : along_ s stop next fin st p = fin st := goF_end h
theorem along_stop {st : σ} {p : Nat} {a : α} (h : p < s.size) (e : stop st p = some a) : along_ s stop next fin st p = a := by
  unfold along_
  rw [goF_fuel s.size (s.size + 1) st p (by omega) (by omega)]
  simp only [goF, if_pos h, e]
theorem along_next {st : σ} {p : Nat} (h : p < s.size) (e : stop st p = none) : along_ s stop next fin st p = along_ s stop next fin (next st p) (p + (dc s p).2) := by
  have hw := dc_pos s p
  unfold along_
  rw [goF_fuel s.size (s.size + 1) st p (by omega) (by omega)]
  simp only [goF, if_pos h, e]
end

def cls (r : Int) : Int :=
  if (65 ≤ r ∧ r ≤ 90) ∨ (97 ≤ r ∧ r ≤ 122) ∨ r = 95 then 1
  else if 48 ≤ r ∧ r ≤ 57 then 2
  else if r = 32 ∨ r = 9 ∨ r = 10 then 3
  else if 128 ≤ r ∧ r ≤ 1114111 ∧ r ≠ 65533 ∧ (r < 55296 ∨ 57343 < r) then 1
  else 0
def mst (r : Int) (first : Bool) : Bool := decide (cls r = 1) || (decide (cls r = 2 ∨ r = 39) && !first)
def nmF (s : ByteArray) (p : Nat) : Bool := along_ s (fun (_ : Unit) p => if mst (dc s p).1 (decide (p = 0)) then none else some false) (fun u _ => u) (fun _ => true) () p
def nm (s : ByteArray) : Bool := decide (1 ≤ s.size ∧ s.size ≤ 32) && nmF s 0
def ct (s : ByteArray) (n : Int) (p : Nat) : Nat := along_ s (fun (n : Int) p => if n ≤ 0 then some p else none) (fun n _ => n - 1) (fun _ => s.size) n p
theorem ct_end {s : ByteArray} {n : Int} {p : Nat} (h : ¬ p < s.size) : ct s n p = s.size := along_end h
theorem ct_stop {s : ByteArray} {n : Int} {p : Nat} (h : p < s.size) (e : n ≤ 0) : ct s n p = p := along_stop h (by simp [e])
theorem ct_next {s : ByteArray} {n : Int} {p : Nat} (h : p < s.size) (e : 0 < n) : ct s n p = ct s (n - 1) (p + (dc s p).2) := along_next h (by simp; omega)
theorem ct_le (s : ByteArray) : ∀ p, p ≤ s.size → ∀ n, p ≤ ct s n p ∧ ct s n p ≤ s.size := by
  refine along s _ ?_ ?_
  · intro p h hp n
    rw [ct_end (by omega)]
    omega
  · intro p h ih hp n
    have hw := dc_pos s p
    have hl := dc_le s p h
    by_cases hn : n ≤ 0
    · rw [ct_stop h hn]; omega
    · rw [ct_next h (by omega)]
      have := ih hl (n - 1)
      omega

end Go.Proofs.YtdofcjnkpgbjaaaDoor.B
