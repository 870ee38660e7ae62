/-
  Plain facts, without the program: texts as runes, by places in the text. 'dc s p': the rune that begins at byte p and its width; (65533, 1): none begins there. 'rns s p': the runes from place p on; 'vls s p': all from there on is right UTF-8.
-/
import Derived.Lib.RuneCount
import Derived.Lib.ValidLaws
namespace Go.Proofs.YtmiicfdigkkbdaaDoor.B
open Go.Lib

abbrev dc (s : ByteArray) (p : Nat) : Nat × Nat := Utf8.decode s p
def bt (s : ByteArray) (p : Nat) : Nat := (s.get! p).toNat
theorem dc_N (s : ByteArray) (p : Nat) : dc s p = decodeN (s.size - p) (bt s p) (bt s (p + 1)) (bt s (p + 2)) (bt s (p + 3)) := decode_at s p
theorem dc_pos (s : ByteArray) (p : Nat) : 1 ≤ (dc s p).2 := width_pos s p
theorem dc_le (s : ByteArray) (p : Nat) (h : p < s.size) : p + (dc s p).2 ≤ s.size := by
  rw [dc_N]
  rcases decodeN_shape (s.size - p) (bt s p) (bt s (p + 1)) (bt s (p + 2)) (bt s (p + 3)) with ⟨c, e⟩ | ⟨c1, c2, c3, cv, e⟩ | ⟨c1, c2, c3, c4, cv, cs, e⟩ | ⟨c1, c2, c3, c4, c5, cv, cw, e⟩ | e
  all_goals (rw [e]; dsimp only; omega)

def bad (s : ByteArray) (p : Nat) : Bool := decide (dc s p = (65533, 1))
theorem bad_iff (s : ByteArray) (p : Nat) : bad s p = true ↔ dc s p = (65533, 1) := by simp [bad]
/-! ### the document's decoder, lead byte by lead byte -/
/-! ### the runes from a place on -/
def vlsF (s : ByteArray) : Nat → Nat → Bool
  | 0, _ => true
  | f + 1, p => if p < s.size then (if bad s p then false else vlsF s f (p + (dc s p).2)) else true
theorem vlsF_fuel (s : ByteArray) : ∀ f g p, s.size ≤ p + f → s.size ≤ p + g → vlsF s f p = vlsF s g p
  | 0, 0, _, _, _ => rfl
  | 0, g + 1, p, h, _ => by simp [vlsF, show ¬ p < s.size by omega]
  | f + 1, 0, p, _, h => by simp [vlsF, show ¬ p < s.size by omega]
  | f + 1, g + 1, p, h1, h2 => by
    have hw := dc_pos s p
    simp only [vlsF]
    rw [vlsF_fuel s f g _ (by omega) (by omega)]
def vls (s : ByteArray) (p : Nat) : Bool := vlsF s s.size p
theorem vls_end {s : ByteArray} {p : Nat} (h : ¬ p < s.size) : vls s p = true := by
  unfold vls; cases s.size <;> simp_all [vlsF]
theorem vls_step {s : ByteArray} {p : Nat} (h : p < s.size) : vls s p = if bad s p then false else vls s (p + (dc s p).2) := by
  have hw := dc_pos s p
  unfold vls
  rw [vlsF_fuel s s.size (s.size + 1) p (by omega) (by omega)]
  simp only [vlsF, if_pos h]
theorem vls_good {s : ByteArray} {p : Nat} (h : p < s.size) (hb : bad s p = false) : vls s p = vls s (p + (dc s p).2) := by rw [vls_step h, hb]; simp
theorem along (s : ByteArray) (Q : Nat → Prop) (hend : ∀ p, s.size ≤ p → Q p) (hstep : ∀ p, p < s.size → Q (p + (dc s p).2) → Q p) : ∀ p, Q p := by
  have key : ∀ f p, s.size ≤ p + f → Q p := by
    intro f
    induction f with
    | zero => intro p h; exact hend p (by omega)
    | succ f ih =>
      intro p h
      by_cases hp : p < s.size
      · have hw := dc_pos s p
        exact hstep p hp (ih _ (by omega))
      · exact hend p (by omega)
  intro p
  exact key s.size p (by omega)

end Go.Proofs.YtmiicfdigkkbdaaDoor.B
namespace Go.Proofs.YtmiicfdigkkbdaaDoor.B
open Go.Lib

def goF {σ α : Type} (s : ByteArray) (stop : σ → Nat → Option α) (next : σ → Nat → σ) (fin : σ → α) : Nat → σ → Nat → α
  | 0, st, _ => fin st
  | f + 1, st, p => if p < s.size then (match stop st p with | some a => a | none => goF s stop next fin f (next st p) (p + (dc s p).2)) else fin st
section
variable {σ α : Type} {s : ByteArray} {stop : σ → Nat → Option α} {next : σ → Nat → σ} {fin : σ → α}
theorem goF_end {f : Nat} {st : σ} {p : Nat} (h : ¬ p < s.size) : goF s stop next fin f st p = fin st := by
  cases f with
  | zero => rfl
  | succ f => simp only [goF, if_neg h]
theorem goF_fuel : ∀ (f g : Nat) (st : σ) (p : Nat), s.size ≤ p + f → s.size ≤ p + g → goF s stop next fin f st p = goF s stop next fin g st p
  | 0, g, st, p, h, _ => by rw [goF_end (by omega), goF_end (by omega)]
  | f + 1, 0, st, p, _, h => by rw [goF_end (by omega), goF_end (by omega)]
  | f + 1, g + 1, st, p, h1, h2 => by
    have hw := dc_pos s p
    simp only [goF]
    rw [goF_fuel f g (next st p) (p + (dc s p).2) (by omega) (by omega)]
end
def along_ {σ α : Type} (s : ByteArray) (stop : σ → Nat → Option α) (next : σ → Nat → σ) (fin : σ → α) (st : σ) (p : Nat) : α := goF s stop next fin s.size st p
section
variable {σ α : Type} {s : ByteArray} {stop : σ → Nat → Option α} {next : σ → Nat → σ} {fin : σ → α}
theorem along_end {st : σ} {p : Nat} (h : ¬ p < s.size) : along_ s stop next fin st p = fin st := goF_end h
theorem along_stop {st : σ} {p : Nat} {a : α} (h : p < s.size) (e : stop st p = some a) : along_ s stop next fin st p = a := by
  unfold along_
  rw [goF_fuel s.size (s.size + 1) st p (by omega) (by omega)]
  simp only [goF, if_pos h, e]
theorem along_next {st : σ} {p : Nat} (h : p < s.size) (e : stop st p = none) : along_ s stop next fin st p = along_ s stop next fin (next st p) (p + (dc s p).2) := by
  have hw := dc_pos s p
  unfold along_
  rw [goF_fuel s.size (s.size + 1) st p (by omega) (by omega)]
  simp only [goF, if_pos h, e]
end

def cls (r : Int) : Int :=
  if (65 ≤ r ∧ r ≤ 90) ∨ (97 ≤ r ∧ r ≤ 122) ∨ r = 95 then 1
  else if 48 ≤ r ∧ r ≤ 57 then 2
  else if r = 32 ∨ r = 9 ∨ r = 10 then 3
  else if 128 ≤ r ∧ r ≤ 1114111 ∧ r ≠ 65533 ∧ (r < 55296 ∨ 57343 < r) then 1
  else 0
theorem cls_bad : cls 65533 = 0 := by decide

def rdb (r : Int) : Bool := !(decide (r = 65533 ∨ r = 127 ∨ (r < 32 ∧ r ≠ 9 ∧ r ≠ 10)))
theorem dc_bad1 {s : ByteArray} {p : Nat} (h : bad s p = true) : (dc s p).1 = 65533 := by
  rw [bad_iff] at h; rw [h]
def ck (s : ByteArray) (p : Nat) : Int × Int := along_ s (fun (_ : Unit) p => if rdb (dc s p).1 then none else some ((p : Int), (4 : Int))) (fun u _ => u) (fun _ => (0, 0)) () p
def mst (r : Int) (first : Bool) : Bool := decide (cls r = 1) || (decide (cls r = 2 ∨ r = 39) && !first)
def nmF (s : ByteArray) (p : Nat) : Bool := along_ s (fun (_ : Unit) p => if mst (dc s p).1 (decide (p = 0)) then none else some false) (fun u _ => u) (fun _ => true) () p
theorem nm_stop {s : ByteArray} {p : Nat} (h : p < s.size) (e : mst (dc s p).1 (decide (p = 0)) = false) : nmF s p = false := along_stop h (by simp [e])
theorem nm_next {s : ByteArray} {p : Nat} (h : p < s.size) (e : mst (dc s p).1 (decide (p = 0)) = true) : nmF s p = nmF s (p + (dc s p).2) := along_next h (by simp [e])
theorem nm_bad (s : ByteArray) : ∀ p, vls s p = false → nmF s p = false := by
  refine along s _ ?_ ?_
  · intro p h hv
    rw [vls_end (by omega)] at hv
    cases hv
  · intro p h ih hv
    cases hb : bad s p
    · rw [vls_good h hb] at hv
      cases hm : mst (dc s p).1 (decide (p = 0))
      · exact nm_stop h hm
      · rw [nm_next h hm]; exact ih hv
    · refine nm_stop h ?_
      rw [dc_bad1 hb]
      unfold mst
      rw [show ((65533 : Nat) : Int) = 65533 from rfl, cls_bad]
      rfl
def nm (s : ByteArray) : Bool := decide (1 ≤ s.size ∧ s.size ≤ 32) && nmF s 0
def ct (s : ByteArray) (n : Int) (p : Nat) : Nat := along_ s (fun (n : Int) p => if n ≤ 0 then some p else none) (fun n _ => n - 1) (fun _ => s.size) n p
theorem ct_end {s : ByteArray} {n : Int} {p : Nat} (h : ¬ p < s.size) : ct s n p = s.size := along_end h
theorem ct_stop {s : ByteArray} {n : Int} {p : Nat} (h : p < s.size) (e : n ≤ 0) : ct s n p = p := along_stop h (by simp [e])
theorem ct_next {s : ByteArray} {n : Int} {p : Nat} (h : p < s.size) (e : 0 < n) : ct s n p = ct s (n - 1) (p + (dc s p).2) := along_next h (by simp; omega)
theorem ct_le (s : ByteArray) : ∀ p, p ≤ s.size → ∀ n, p ≤ ct s n p ∧ ct s n p ≤ s.size := by
  refine along s _ ?_ ?_
  · intro p h hp n
    rw [ct_end (by omega)]
    omega
  · intro p h ih hp n
    have hw := dc_pos s p
    have hl := dc_le s p h
    by_cases hn : n ≤ 0
    · rw [ct_stop h hn]; omega
    · rw [ct_next h (by omega)]
      have := ih hl (n - 1)
      omega

end Go.Proofs.YtmiicfdigkkbdaaDoor.B
