/-
  Plain facts, without the program: going along a text's runes with a state; what Check, Name, Cut and Place tell.
-/
import Derived.Test.YtagocfifagnpkaaDoorUtf
namespace Go.Proofs.YtagocfifagnpkaaDoor
open Go.Lib

def goF {σ α : Type} (s : ByteArray) (stop : σ → Nat → Option α) (next : σ → Nat → σ) (fin : σ → α) : Nat → σ → Nat → α
  | 0, st, _ => fin st
  | f + 1, st, p => if p < s.size then (match stop st p with | some a => a | none => goF s stop next fin f (next st p) (p + (dc s p).2)) else fin st
section
variable {σ α : Type} {s : ByteArray} {stop : σ → Nat → Option α} {next : σ → Nat → σ} {fin : σ → α}
theorem goF_end {f : Nat} {st : σ} {p : Nat} (h : ¬ p < s.size) : goF s stop next fin f st p = fin st := by
  cases f with
  | zero => rfl
  | succ f => simp only [goF, if_neg h]
theorem goF_fuel : ∀ (f g : Nat) (st : σ) (p : Nat), s.size ≤ p + f → s.size ≤ p + g → goF s stop next fin f st p = goF s stop next fin g st p
  | 0, g, st, p, h, _ => by rw [goF_end (by omega), goF_end (by omega)]
  | f + 1, 0, st, p, _, h => by rw [goF_end (by omega), goF_end (by omega)]
  | f + 1, g + 1, st, p, h1, h2 => by
    have hw := dc_pos s p
    simp only [goF]
    rw [goF_fuel f g (next st p) (p + (dc s p).2) (by omega) (by omega)]
end
/-- From place p on, in a state. -/
def along_ {σ α : Type} (s : ByteArray) (stop : σ → Nat → Option α) (next : σ → Nat → σ) (fin : σ → α) (st : σ) (p : Nat) : α := goF s stop next fin s.size st p
section
variable {σ α : Type} {s : ByteArray} {stop : σ → Nat → Option α} {next : σ → Nat → σ} {fin : σ → α}
theorem along_end {st : σ} {p : Nat} (h : ¬ p < s.size) : along_ s stop next fin st p = fin st := goF_end h
theorem along_stop {st : σ} {p : Nat} {a : α} (h : p < s.size) (e : stop st p = some a) : along_ s stop next fin st p = a := by
  unfold along_
  rw [goF_fuel s.size (s.size + 1) st p (by omega) (by omega)]
  simp only [goF, if_pos h, e]
theorem along_next {st : σ} {p : Nat} (h : p < s.size) (e : stop st p = none) : along_ s stop next fin st p = along_ s stop next fin (next st p) (p + (dc s p).2) := by
  have hw := dc_pos s p
  unfold along_
  rw [goF_fuel s.size (s.size + 1) st p (by omega) (by omega)]
  simp only [goF, if_pos h, e]
end

/-- A rune's class, as a number. -/
def cls (r : Int) : Int :=
  if (65 ≤ r ∧ r ≤ 90) ∨ (97 ≤ r ∧ r ≤ 122) ∨ r = 95 then 1
  else if 48 ≤ r ∧ r ≤ 57 then 2
  else if r = 32 ∨ r = 9 ∨ r = 10 then 3
  else if 128 ≤ r ∧ r ≤ 1114111 ∧ r ≠ 65533 ∧ (r < 55296 ∨ 57343 < r) then 1
  else 0
theorem cls_is (r c : Int) (h : ((65 ≤ r ∧ r ≤ 90) ∨ (97 ≤ r ∧ r ≤ 122) ∨ r = 95) ∧ c = 1 ∨ (48 ≤ r ∧ r ≤ 57) ∧ c = 2 ∨ (r = 32 ∨ r = 9 ∨ r = 10) ∧ c = 3 ∨
    (128 ≤ r ∧ r ≤ 1114111 ∧ r ≠ 65533 ∧ (r < 55296 ∨ 57343 < r)) ∧ c = 1 ∨
    (¬ ((65 ≤ r ∧ r ≤ 90) ∨ (97 ≤ r ∧ r ≤ 122) ∨ r = 95) ∧ ¬ (48 ≤ r ∧ r ≤ 57) ∧ ¬ (r = 32 ∨ r = 9 ∨ r = 10) ∧ ¬ (128 ≤ r ∧ r ≤ 1114111 ∧ r ≠ 65533 ∧ (r < 55296 ∨ 57343 < r))) ∧ c = 0) : cls r = c := by
  unfold cls
  repeat' split
  all_goals omega
theorem cls_three (r : Int) : cls r = 3 ↔ (r = 32 ∨ r = 9 ∨ r = 10) := by
  unfold cls
  repeat' split
  all_goals omega
theorem cls_bad : cls 65533 = 0 := by decide

/-- May a rune stand in a text that is read? -/
def rdb (r : Int) : Bool := !(decide (r = 65533 ∨ r = 127 ∨ (r < 32 ∧ r ≠ 9 ∧ r ≠ 10)))
theorem rdb_is (r : Int) (b : Bool) (h : b = true ↔ ¬ (r = 65533 ∨ r = 127 ∨ (r < 32 ∧ r ≠ 9 ∧ r ≠ 10))) : rdb r = b := by
  unfold rdb
  rw [Bool.eq_iff_iff, h, Bool.not_eq_true', decide_eq_false_iff_not]
theorem rdb_true {r : Int} (h : rdb r = true) : ¬ (r = 65533 ∨ r = 127 ∨ (r < 32 ∧ r ≠ 9 ∧ r ≠ 10)) := by
  unfold rdb at h
  rw [Bool.not_eq_true', decide_eq_false_iff_not] at h
  exact h
theorem rdb_false {r : Int} (h : rdb r = false) : r = 65533 ∨ r = 127 ∨ (r < 32 ∧ r ≠ 9 ∧ r ≠ 10) := by
  unfold rdb at h
  rw [Bool.not_eq_false', decide_eq_true_eq] at h
  exact h
theorem dc_bad1 {s : ByteArray} {p : Nat} (h : bad s p = true) : (dc s p).1 = 65533 := by
  rw [bad_iff] at h; rw [h]
theorem dc_bad2 {s : ByteArray} {p : Nat} (h : bad s p = true) : (dc s p).2 = 1 := by
  rw [bad_iff] at h; rw [h]

/-- Check, from place p on. -/
def ck (s : ByteArray) (p : Nat) : Int × Int := along_ s (fun (_ : Unit) p => if rdb (dc s p).1 then none else some ((p : Int), (4 : Int))) (fun u _ => u) (fun _ => (0, 0)) () p
theorem ck_end {s : ByteArray} {p : Nat} (h : ¬ p < s.size) : ck s p = (0, 0) := along_end h
theorem ck_stop {s : ByteArray} {p : Nat} (h : p < s.size) (e : rdb (dc s p).1 = false) : ck s p = ((p : Int), 4) := along_stop h (by simp [e])
theorem ck_next {s : ByteArray} {p : Nat} (h : p < s.size) (e : rdb (dc s p).1 = true) : ck s p = ck s (p + (dc s p).2) := along_next h (by simp [e])

/-- May a rune stand in a name, as its first one or further on? -/
def mst (r : Int) (first : Bool) : Bool := decide (cls r = 1) || (decide (cls r = 2 ∨ r = 39) && !first)
def nmF (s : ByteArray) (p : Nat) : Bool := along_ s (fun (_ : Unit) p => if mst (dc s p).1 (decide (p = 0)) then none else some false) (fun u _ => u) (fun _ => true) () p
theorem nm_end {s : ByteArray} {p : Nat} (h : ¬ p < s.size) : nmF s p = true := along_end h
theorem nm_stop {s : ByteArray} {p : Nat} (h : p < s.size) (e : mst (dc s p).1 (decide (p = 0)) = false) : nmF s p = false := along_stop h (by simp [e])
theorem nm_next {s : ByteArray} {p : Nat} (h : p < s.size) (e : mst (dc s p).1 (decide (p = 0)) = true) : nmF s p = nmF s (p + (dc s p).2) := along_next h (by simp [e])
def nmL : List Nat → Bool
  | [] => true
  | r :: t => mst r true && t.all fun (x : Nat) => mst x false
theorem nm_bad (s : ByteArray) : ∀ p, vls s p = false → nmF s p = false := by
  refine along s _ ?_ ?_
  · intro p h hv
    rw [vls_end (by omega)] at hv
    cases hv
  · intro p h ih hv
    cases hb : bad s p
    · rw [vls_good h hb] at hv
      cases hm : mst (dc s p).1 (decide (p = 0))
      · exact nm_stop h hm
      · rw [nm_next h hm]; exact ih hv
    · refine nm_stop h ?_
      rw [dc_bad1 hb]
      unfold mst
      rw [show ((65533 : Nat) : Int) = 65533 from rfl, cls_bad]
      rfl
theorem nm_rest (s : ByteArray) : ∀ p, 0 < p → nmF s p = (rns s p).all fun (x : Nat) => mst x false := by
  refine along s _ ?_ ?_
  · intro p h _
    rw [nm_end (by omega), rns_end (by omega)]
    rfl
  · intro p h ih hp
    have hw := dc_pos s p
    have e0 : decide (p = 0) = false := by simp; omega
    rw [rns_step h, List.all_cons, ← ih (by omega)]
    cases hm : mst (dc s p).1 false
    · rw [Bool.false_and]
      exact nm_stop h (by rw [e0]; exact hm)
    · rw [Bool.true_and]
      exact nm_next h (by rw [e0]; exact hm)
theorem nm_list (s : ByteArray) : nmF s 0 = nmL (rns s 0) := by
  by_cases h : 0 < s.size
  · have hw := dc_pos s 0
    rw [rns_step h]
    show _ = (mst (dc s 0).1 true && _)
    rw [← nm_rest s _ (by omega)]
    cases hm : mst (dc s 0).1 true
    · rw [Bool.false_and]
      exact nm_stop h (by simpa using hm)
    · rw [Bool.true_and]
      exact nm_next h (by simpa using hm)
  · rw [nm_end h, rns_end h]
    rfl
/-- Is a text a name? -/
def nm (s : ByteArray) : Bool := decide (1 ≤ s.size ∧ s.size ≤ 32) && nmF s 0
theorem nm_size {s : ByteArray} (h : ¬ (1 ≤ s.size ∧ s.size ≤ 32)) : nm s = false := by simp [nm, h]
theorem nm_of {s : ByteArray} (h : 1 ≤ s.size ∧ s.size ≤ 32) : nm s = nmF s 0 := by simp [nm, h]

/-- Where a text's first n runes end, from place p on. -/
def ct (s : ByteArray) (n : Int) (p : Nat) : Nat := along_ s (fun (n : Int) p => if n ≤ 0 then some p else none) (fun n _ => n - 1) (fun _ => s.size) n p
theorem ct_end {s : ByteArray} {n : Int} {p : Nat} (h : ¬ p < s.size) : ct s n p = s.size := along_end h
theorem ct_stop {s : ByteArray} {n : Int} {p : Nat} (h : p < s.size) (e : n ≤ 0) : ct s n p = p := along_stop h (by simp [e])
theorem ct_next {s : ByteArray} {n : Int} {p : Nat} (h : p < s.size) (e : 0 < n) : ct s n p = ct s (n - 1) (p + (dc s p).2) := along_next h (by simp; omega)
theorem ct_le (s : ByteArray) : ∀ p, p ≤ s.size → ∀ n, p ≤ ct s n p ∧ ct s n p ≤ s.size := by
  refine along s _ ?_ ?_
  · intro p h hp n
    rw [ct_end (by omega)]
    omega
  · intro p h ih hp n
    have hw := dc_pos s p
    have hl := dc_le s p h
    by_cases hn : n ≤ 0
    · rw [ct_stop h hn]; omega
    · rw [ct_next h (by omega)]
      have := ih hl (n - 1)
      omega

/-- Line and column of a byte, from place p on. -/
def bhd (st : Int × Int) (r : Nat) : Int × Int := if r = 10 then (st.1 + 1, 1) else (st.1, st.2 + 1)
def pl (s : ByteArray) (at_ : Int) (st : Int × Int) (p : Nat) : Int × Int :=
  along_ s (fun (st : Int × Int) p => if at_ < (p + (dc s p).2 : Nat) then some st else none) (fun st p => bhd st (dc s p).1) (fun st => st) st p
theorem pl_end {s : ByteArray} {at_ : Int} {st : Int × Int} {p : Nat} (h : ¬ p < s.size) : pl s at_ st p = st := along_end h
theorem pl_stop {s : ByteArray} {at_ : Int} {st : Int × Int} {p : Nat} (h : p < s.size) (e : at_ < (p + (dc s p).2 : Nat)) : pl s at_ st p = st := along_stop h (by simp only [if_pos e])
theorem pl_next {s : ByteArray} {at_ : Int} {st : Int × Int} {p : Nat} (h : p < s.size) (e : ¬ at_ < (p + (dc s p).2 : Nat)) : pl s at_ st p = pl s at_ (bhd st (dc s p).1) (p + (dc s p).2) := along_next h (by simp only [if_neg e])
end Go.Proofs.YtagocfifagnpkaaDoor
