/-
  The document's signs: the longest one is the first of the program's list that begins the text.
-/
import Derived.Test.YteennkekpblccaaGreatDoorRefX
namespace Go.Proofs.YteennkekpblccaaGreatDoor
open Go.RowKit

def RS : List (List Nat) := [[40], [41], [123], [125], [44], [58], [58, 62], [61], [61, 62], [45, 62], [42], [43], [45], [60], [124], [35, 49], [35, 50]]
def rs (k : Nat) : List Nat := RS.getD k []
def bstep (d b x : List Nat) : List Nat := if x.isPrefixOf d && decide (b.length < x.length) then x else b
def bst (d : List Nat) (k : Nat) : List Nat := (RS.take k).foldl (bstep d) []
theorem rs_get (k : Nat) (h : k < 17) : RS[k]? = some (rs k) := by
  unfold rs
  rw [List.getD_eq_getElem?_getD, List.getElem?_eq_getElem (show k < RS.length from h)]
  rfl
theorem bst_succ (d : List Nat) {k : Nat} (h : k < 17) : bst d (k + 1) = bstep d (bst d k) (rs k) := by
  unfold bst
  rw [List.take_add_one, rs_get k h, List.foldl_append]
  rfl
theorem rs_mem (k : Nat) (h : k < 17) : rs k ∈ RS := List.mem_of_getElem? (rs_get k h)
theorem rs_ok : ∀ x ∈ RS, (∀ r ∈ x, r < 128) ∧ 1 ≤ x.length ∧ x.length ≤ 2 := by decide
theorem bst_or (d : List Nat) : ∀ k, k ≤ 17 → bst d k = [] ∨ bst d k ∈ RS
  | 0, _ => .inl rfl
  | k + 1, h => by
    rw [bst_succ d (by omega)]
    unfold bstep
    split
    · exact .inr (rs_mem k (by omega))
    · exact bst_or d k (by omega)
theorem bst_len (d : List Nat) {k : Nat} (h : k ≤ 17) : (∀ r ∈ bst d k, r < 128) ∧ (bst d k).length ≤ 2 := by
  rcases bst_or d k h with e | e
  · rw [e]; simp
  · have := rs_ok _ e; exact ⟨this.1, this.2.2⟩
def ofb (b : List Nat) : Option (Tok × Nat) := match b with | [] => none | b => some (⟨3, b, 0⟩, b.length)
theorem sign_bst (d : List Nat) : signT d = ofb (bst d 17) := by
  cases d with
  | nil => rfl
  | cons r u =>
    by_cases h40 : r = 40; · subst h40; rfl
    by_cases h41 : r = 41; · subst h41; rfl
    by_cases h123 : r = 123; · subst h123; rfl
    by_cases h125 : r = 125; · subst h125; rfl
    by_cases h44 : r = 44; · subst h44; rfl
    by_cases h42 : r = 42; · subst h42; rfl
    by_cases h43 : r = 43; · subst h43; rfl
    by_cases h60 : r = 60; · subst h60; rfl
    by_cases h124 : r = 124; · subst h124; rfl
    by_cases h58 : r = 58
    · subst h58
      cases u with
      | nil => rfl
      | cons q t =>
        by_cases hq : q = 62; · subst hq; rfl
        have e : ((62 : Nat) == q) = false := by rw [beq_eq_false_iff_ne]; omega
        simp [signT, SIGNS, bst, RS, bstep, ofb, List.isPrefixOf, e, List.find?]
    by_cases h61 : r = 61
    · subst h61
      cases u with
      | nil => rfl
      | cons q t =>
        by_cases hq : q = 62; · subst hq; rfl
        have e : ((62 : Nat) == q) = false := by rw [beq_eq_false_iff_ne]; omega
        simp [signT, SIGNS, bst, RS, bstep, ofb, List.isPrefixOf, e, List.find?]
    by_cases h45 : r = 45
    · subst h45
      cases u with
      | nil => rfl
      | cons q t =>
        by_cases hq : q = 62; · subst hq; rfl
        have e : ((62 : Nat) == q) = false := by rw [beq_eq_false_iff_ne]; omega
        simp [signT, SIGNS, bst, RS, bstep, ofb, List.isPrefixOf, e, List.find?]
    by_cases h35 : r = 35
    · subst h35
      cases u with
      | nil => rfl
      | cons q t =>
        by_cases hq : q = 49; · subst hq; rfl
        by_cases hq2 : q = 50; · subst hq2; rfl
        have e : ((49 : Nat) == q) = false := by rw [beq_eq_false_iff_ne]; omega
        have e2 : ((50 : Nat) == q) = false := by rw [beq_eq_false_iff_ne]; omega
        simp [signT, SIGNS, bst, RS, bstep, ofb, List.isPrefixOf, e, e2, List.find?]
    have hb : ∀ c : Nat, c ≠ r → (c == r) = false := fun c h => by rw [beq_eq_false_iff_ne]; exact h
    simp [signT, SIGNS, bst, RS, bstep, ofb, List.isPrefixOf, List.find?, hb 40 (Ne.symm h40), hb 41 (Ne.symm h41), hb 123 (Ne.symm h123), hb 125 (Ne.symm h125), hb 44 (Ne.symm h44), hb 42 (Ne.symm h42), hb 43 (Ne.symm h43), hb 60 (Ne.symm h60), hb 124 (Ne.symm h124), hb 58 (Ne.symm h58), hb 61 (Ne.symm h61), hb 45 (Ne.symm h45), hb 35 (Ne.symm h35)]
def rsV : Array Value := (RS.map fun x => Value.string (T x)).toArray
theorem rsV_at (k : Nat) (h : k < 17) : rsV[k]? = some (.string (T (rs k))) := by
  unfold rsV
  rw [List.getElem?_toArray, List.getElem?_map, rs_get k h]
  rfl
theorem signs_ref (w : World) : Calls Tryz.prog 37 #[] w fun e w' => e = .returned (.slice (some ⟨w.heap.size, 0, none⟩) 17 17) ∧ w' = w.alloc (.cells rsV 9) := by
  have hv : rsV = #[.string ⟨#[40]⟩] ++ rsV.extract 1 17 := by kernel_rfl
  clear hv
  go_enter Tryz.func37, Tryz.ntmps37
  go_wp2
  go_ret
  refine ⟨rfl, ?_⟩
  exact congrArg (fun c => w.alloc (.cells c 9)) (by kernel_rfl)
end Go.Proofs.YteennkekpblccaaGreatDoor
