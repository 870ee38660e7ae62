/-
  Plain facts, without the program: the lexer's loops along a text's bytes, and the same over its runes.
-/
import Derived.Test.YteennkekpblccaaGreatDoorLexS
namespace Go.Proofs.YteennkekpblccaaGreatDoor
open Go.Lib

def rn (f : Nat → Bool) (s : ByteArray) (p : Nat) : Nat := along_ s (fun (_ : Unit) p => if f (dc s p).1 then none else some p) (fun u _ => u) (fun _ => s.size) () p
theorem rn_end {f : Nat → Bool} {s : ByteArray} {p : Nat} (h : ¬ p < s.size) : rn f s p = s.size := along_end h
theorem rn_stop {f : Nat → Bool} {s : ByteArray} {p : Nat} (h : p < s.size) (e : f (dc s p).1 = false) : rn f s p = p := along_stop h (by simp [e])
theorem rn_next {f : Nat → Bool} {s : ByteArray} {p : Nat} (h : p < s.size) (e : f (dc s p).1 = true) : rn f s p = rn f s (p + (dc s p).2) := along_next h (by simp [e])
theorem snoc_T (a : List Nat) (r : Nat) (t : List Nat) : a ++ r :: t = (a ++ [r]) ++ t ∧ sz a + wd r = sz (a ++ [r]) := by
  refine ⟨by simp, ?_⟩
  rw [sz_app, sz_cons, sz_nil, Nat.add_zero]
theorem lt_T (a : List Nat) (r : Nat) (t : List Nat) : sz a < (T (a ++ r :: t)).size := by
  have := wd_pos r
  rw [T_size, sz_app, sz_cons]; omega
theorem rn_T (f : Nat → Bool) : ∀ (b a : List Nat), okl b → rn f (T (a ++ b)) (sz a) = sz a + sz (b.take (cnt f b)) := by
  intro b
  induction b with
  | nil =>
    intro a _
    rw [List.append_nil, rn_end (by rw [T_size]; omega), T_size]
    simp [cnt, sz_nil]
  | cons r t ih =>
    intro a h
    obtain ⟨h1, h2⟩ := okl_cons.1 h
    obtain ⟨e1, e2⟩ := snoc_T a r t
    have hlt := lt_T a r t
    have k := ih (a ++ [r]) h2
    rw [← e1, ← e2] at k
    cases hf : f r
    · rw [rn_stop hlt (by rw [dc_T a h1 t]; exact hf)]
      simp [cnt, hf, sz_nil]
    · rw [rn_next hlt (by rw [dc_T a h1 t]; exact hf), dc_T a h1 t]
      show rn f _ (sz a + wd r) = _
      rw [k]
      simp only [cnt, hf, if_true, List.take_succ_cons, sz_cons]
      omega
theorem rn_T0 (f : Nat → Bool) {b : List Nat} (h : okl b) : rn f (T b) 0 = sz (b.take (cnt f b)) := by
  have := rn_T f b [] h
  rw [List.nil_append, sz_nil, Nat.zero_add] at this
  exact this

def cstep (st : Int × Nat) (r : Nat) : Int × Nat := if st.2 = 40 ∧ r = 42 then (st.1 + 1, 32) else if st.2 = 42 ∧ r = 41 then (st.1 - 1, 32) else (st.1, r)
def chit (st : Int × Nat) (r : Nat) : Bool := decide (((st.2 = 40 ∧ r = 42) ∨ (st.2 = 42 ∧ r = 41)) ∧ (cstep st r).1 = 0)
def cmp (s : ByteArray) (st : Int × Nat) (p : Nat) : Nat := along_ s (fun (st : Int × Nat) p => if chit st (dc s p).1 then some (p + 1) else none) (fun st p => cstep st (dc s p).1) (fun _ => 0) st p
theorem cmp_end {s : ByteArray} {st : Int × Nat} {p : Nat} (h : ¬ p < s.size) : cmp s st p = 0 := along_end h
theorem cmp_stop {s : ByteArray} {st : Int × Nat} {p : Nat} (h : p < s.size) (e : chit st (dc s p).1 = true) : cmp s st p = p + 1 := along_stop h (by simp [e])
theorem cmp_next {s : ByteArray} {st : Int × Nat} {p : Nat} (h : p < s.size) (e : chit st (dc s p).1 = false) : cmp s st p = cmp s (cstep st (dc s p).1) (p + (dc s p).2) := along_next h (by simp [e])
theorem cm_T : ∀ (b a : List Nat) (d : Int) (last : Nat), okl b → cmp (T (a ++ b)) (d, last) (sz a) = (match cm d last b with | none => 0 | some k => sz a + sz (b.take k)) := by
  intro b
  induction b with
  | nil =>
    intro a d last _
    rw [List.append_nil, cmp_end (by rw [T_size]; omega)]
    rfl
  | cons r t ih =>
    intro a d last h
    obtain ⟨h1, h2⟩ := okl_cons.1 h
    obtain ⟨e1, e2⟩ := snoc_T a r t
    have hlt := lt_T a r t
    have key : ∀ d' last', chit (d, last) r = false → cstep (d, last) r = (d', last') → cmp (T (a ++ r :: t)) (d, last) (sz a) = (match (cm d' last' t).map (· + 1) with | none => 0 | some k => sz a + sz ((r :: t).take k)) := by
      intro d' last' hc hs
      rw [cmp_next hlt (by rw [dc_T a h1 t]; exact hc), dc_T a h1 t]
      show cmp _ (cstep (d, last) r) (sz a + wd r) = _
      rw [hs]
      have k := ih (a ++ [r]) d' last' h2
      rw [← e1, ← e2] at k
      rw [k]
      cases cm d' last' t with
      | none => rfl
      | some j =>
        show _ = sz a + sz ((r :: t).take (j + 1))
        rw [List.take_succ_cons, sz_cons]
        simp only
        omega
    have stop : chit (d, last) r = true → r < 128 → cmp (T (a ++ r :: t)) (d, last) (sz a) = sz a + sz ((r :: t).take 1) := by
      intro hc hr
      rw [cmp_stop hlt (by rw [dc_T a h1 t]; exact hc)]
      have := (wd_ascii hr).1
      rw [List.take_succ_cons, List.take_zero, sz_cons, sz_nil, this]
    unfold cm
    by_cases c1 : last = 40 ∧ r = 42
    · have hs : cstep (d, last) r = (d + 1, 32) := by unfold cstep; rw [if_pos c1]
      rw [if_pos c1]
      by_cases hd : d + 1 = 0
      · rw [if_pos hd]
        exact stop (by unfold chit; rw [hs]; simp [c1, hd]) (by omega)
      · rw [if_neg hd]
        exact key _ _ (by unfold chit; rw [hs]; simp [hd]) hs
    · rw [if_neg c1]
      by_cases c2 : last = 42 ∧ r = 41
      · have hs : cstep (d, last) r = (d - 1, 32) := by unfold cstep; rw [if_neg c1, if_pos c2]
        rw [if_pos c2]
        by_cases hd : d - 1 = 0
        · rw [if_pos hd]
          exact stop (by unfold chit; rw [hs]; simp [c2, hd]) (by omega)
        · rw [if_neg hd]
          exact key _ _ (by unfold chit; rw [hs]; simp [hd]) hs
      · have hs : cstep (d, last) r = (d, r) := by unfold cstep; rw [if_neg c1, if_neg c2]
        rw [if_neg c2]
        refine key _ _ ?_ hs
        unfold chit
        rw [decide_eq_false_iff_not]
        rintro ⟨h | h, _⟩
        · exact c1 h
        · exact c2 h
/-- What 'comment' tells of any text. -/
def cmb (s : ByteArray) : Nat := if hasPrefix s.data.toList [40, 42] then cmp s (0, 32) 0 else 0
theorem opens_T {l : List Nat} (h : okl l) : hasPrefix (enc l) [40, 42] = opens l := pre_T (p := [40, 42]) (by decide) h
theorem cmb_T {l : List Nat} (h : okl l) : cmb (T l) = sz (l.take (cmt l)) := by
  unfold cmb cmt
  rw [T_list, opens_T h]
  cases ho : opens l
  · simp [sz_nil]
  · have k := cm_T l [] 0 32 h
    rw [List.nil_append, sz_nil] at k
    simp only [if_true]
    rw [k]
    cases cm 0 32 l with
    | none => simp [sz_nil]
    | some j => simp
end Go.Proofs.YteennkekpblccaaGreatDoor
