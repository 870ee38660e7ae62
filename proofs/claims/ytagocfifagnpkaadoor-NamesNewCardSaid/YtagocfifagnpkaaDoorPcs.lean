/-
  Plain facts, without the program: a text's pieces between its dots, and what is joined of pieces.
-/
import Derived.Lib.CutLaws
import Derived.Lib.IndexBytes
import Derived.Lib.Join
namespace Go.Proofs.YtagocfifagnpkaaDoor
open Go.Lib

/-- What dots part. -/
def pcl : List UInt8 → List (List UInt8)
  | [] => [[]]
  | b :: l => if b = 46 then [] :: pcl l else match pcl l with
    | [] => [[b]]
    | x :: r => (b :: x) :: r
/-- Pieces with dots between. -/
def jn : List (List UInt8) → List UInt8
  | [] => []
  | x :: r => x ++ (match r with | [] => [] | _ :: _ => 46 :: jn r)
theorem jn_one (x : List UInt8) : jn [x] = x := by simp [jn]
theorem jn_two (x y : List UInt8) (r : List (List UInt8)) : jn (x :: y :: r) = x ++ 46 :: jn (y :: r) := rfl
theorem pcl_ne (l : List UInt8) : pcl l ≠ [] := by
  cases l with
  | nil => simp [pcl]
  | cons b t =>
    unfold pcl
    split
    · simp
    · cases pcl t <;> simp
theorem pcl_cons {b : UInt8} {t : List UInt8} (h : b ≠ 46) : ∃ x r, pcl t = x :: r ∧ pcl (b :: t) = (b :: x) :: r := by
  cases hp : pcl t with
  | nil => exact absurd hp (pcl_ne t)
  | cons x r => exact ⟨x, r, rfl, by rw [pcl, if_neg h, hp]⟩
theorem pcl_none {l : List UInt8} (h : (46 : UInt8) ∉ l) : pcl l = [l] := by
  induction l with
  | nil => rfl
  | cons r t ih =>
    simp only [List.mem_cons, not_or] at h
    unfold pcl
    rw [if_neg (fun e => h.1 e.symm), ih h.2]
theorem pcl_at {a r : List UInt8} (h : (46 : UInt8) ∉ a) : pcl (a ++ 46 :: r) = a :: pcl r := by
  induction a with
  | nil => show pcl (46 :: r) = _; simp [pcl]
  | cons x t ih =>
    simp only [List.mem_cons, not_or] at h
    show pcl (x :: (t ++ 46 :: r)) = _
    rw [pcl, if_neg (fun e => h.1 e.symm), ih h.2]
theorem dot_in (l : List UInt8) : (46 : UInt8) ∉ l ∨ ∃ a r, l = a ++ 46 :: r ∧ (46 : UInt8) ∉ a := by
  induction l with
  | nil => left; simp
  | cons x t ih =>
    by_cases hx : x = 46
    · right; exact ⟨[], t, by rw [hx]; rfl, by simp⟩
    · rcases ih with h | ⟨a, r, rfl, h⟩
      · left; simp; exact ⟨fun e => hx e.symm, h⟩
      · right; exact ⟨x :: a, r, rfl, by simp; exact ⟨fun e => hx e.symm, h⟩⟩
/-- Along the pieces of a text. -/
theorem by_pieces (Q : List UInt8 → Prop) (h1 : ∀ l, (46 : UInt8) ∉ l → Q l) (h2 : ∀ a r, (46 : UInt8) ∉ a → Q r → Q (a ++ 46 :: r)) : ∀ l, Q l := by
  have : ∀ n, ∀ l : List UInt8, l.length ≤ n → Q l := by
    intro n
    induction n with
    | zero => intro l hl; rw [List.eq_nil_of_length_eq_zero (by omega : l.length = 0)]; exact h1 _ (by simp)
    | succ n ih =>
      intro l hl
      rcases dot_in l with h | ⟨a, r, rfl, h⟩
      · exact h1 l h
      · exact h2 a r h (ih r (by simp at hl; omega))
  exact fun l => this l.length l (Nat.le_refl _)
theorem jn_cons {x : List UInt8} {r : List (List UInt8)} (h : r ≠ []) : jn (x :: r) = x ++ 46 :: jn r := by
  cases r with
  | nil => exact absurd rfl h
  | cons y t => rfl
theorem jn_pcl : ∀ l, jn (pcl l) = l := by
  refine by_pieces _ (fun l h => by rw [pcl_none h, jn_one]) fun a r h ih => ?_
  rw [pcl_at h, jn_cons (pcl_ne r), ih]
theorem pcl_nodot : ∀ l, ∀ x ∈ pcl l, (46 : UInt8) ∉ x := by
  refine by_pieces _ (fun l h x hx => ?_) fun a r h ih x hx => ?_
  · rw [pcl_none h] at hx; rw [List.mem_singleton.1 hx]; exact h
  · rw [pcl_at h] at hx
    rcases List.mem_cons.1 hx with rfl | hx
    · exact h
    · exact ih x hx
theorem pcl_jn {xs : List (List UInt8)} (h : xs ≠ []) (hd : ∀ x ∈ xs, (46 : UInt8) ∉ x) : pcl (jn xs) = xs := by
  induction xs with
  | nil => exact absurd rfl h
  | cons x r ih =>
    by_cases hr : r = []
    · subst hr; rw [jn_one]; exact pcl_none (hd x (by simp))
    · rw [jn_cons hr, pcl_at (hd x (by simp)), ih hr fun y hy => hd y (by simp [hy])]
theorem join_jn (xs : List (List UInt8)) : Lib.join xs [46] = jn xs := by
  induction xs with
  | nil => rfl
  | cons x r ih =>
    by_cases hr : r = []
    · subst hr; rw [join_one, jn_one]
    · rw [jn_cons hr, ← ih, join_cons]
      cases r with
      | nil => exact absurd rfl hr
      | cons y t => rw [join_cons]; simp [joinTail]
theorem ibx_none {x : List UInt8} {c : UInt8} (h : c ∉ x) : indexByte x c = -1 := by
  induction x with
  | nil => rfl
  | cons b t ih =>
    simp only [List.mem_cons, not_or] at h
    unfold indexByte
    rw [if_neg (by simp; exact fun e => h.1 e.symm), ih h.2]
    rfl
theorem ibx_at {x y : List UInt8} {c : UInt8} (h : c ∉ x) : indexByte (x ++ c :: y) c = (x.length : Int) := by
  induction x with
  | nil => simp [indexByte]
  | cons b t ih =>
    simp only [List.mem_cons, not_or] at h
    show indexByte (b :: (t ++ c :: y)) c = _
    unfold indexByte
    rw [if_neg (by simp; exact fun e => h.1 e.symm), ih h.2, if_neg (by simp)]
    simp
theorem cut_none {l : List UInt8} (h : (46 : UInt8) ∉ l) : Lib.cut l [46] = (l, [], false) := by
  unfold Lib.cut
  rw [index_one, ibx_none h]
  rfl
theorem cut_at {a r : List UInt8} (h : (46 : UInt8) ∉ a) : Lib.cut (a ++ 46 :: r) [46] = (a, r, true) := by
  unfold Lib.cut
  rw [index_one, ibx_at h, if_pos (by omega)]
  have e : ((a.length : Int)).toNat = a.length := by omega
  rw [e]
  have e2 : (a ++ 46 :: r).drop (a.length + 1) = r := by
    rw [← List.drop_drop, List.drop_left]; rfl
  simp only [List.take_left', List.length_singleton, e2]
theorem pcl_len : ∀ l, 1 ≤ (pcl l).length ∧ (pcl l).length ≤ l.length + 1 := by
  refine by_pieces _ (fun l h => by rw [pcl_none h]; simp) fun a r h ih => ?_
  rw [pcl_at h]; simp; omega
theorem pcl_sz : ∀ l, ∀ x ∈ pcl l, x.length ≤ l.length := by
  refine by_pieces _ (fun l h x hx => ?_) fun a r h ih x hx => ?_
  · rw [pcl_none h] at hx; rw [List.mem_singleton.1 hx]; exact Nat.le_refl _
  · rw [pcl_at h] at hx
    rcases List.mem_cons.1 hx with rfl | hx
    · simp
    · have := ih x hx; simp; omega
theorem jn_app : ∀ {xs ys : List (List UInt8)}, xs ≠ [] → ys ≠ [] → jn (xs ++ ys) = jn xs ++ 46 :: jn ys
  | [], _, h, _ => absurd rfl h
  | [x], ys, _, hy => by rw [jn_one]; exact jn_cons hy
  | x :: y :: r, ys, _, hy => by
    have ih := jn_app (xs := y :: r) (ys := ys) (by simp) hy
    show x ++ 46 :: jn (y :: r ++ ys) = (x ++ 46 :: jn (y :: r)) ++ 46 :: jn ys
    rw [ih]
    simp
/-- Pieces begin with pieces just if the text begins with the text, and a dot, or nothing, follows. -/
theorem pre_pieces : ∀ (p s : List (List UInt8)), p ≠ [] → s ≠ [] → (∀ x ∈ p, (46 : UInt8) ∉ x) → (∀ x ∈ s, (46 : UInt8) ∉ x) →
    ((∃ t, jn s = jn p ++ t ∧ (t = [] ∨ ∃ u, t = 46 :: u)) ↔ p <+: s) := by
  intro p s hp hs hdp hds
  constructor
  · rintro ⟨t, ht, h⟩
    rcases h with rfl | ⟨u, rfl⟩
    · rw [List.append_nil] at ht
      have e := congrArg pcl ht
      rw [pcl_jn hs hds, pcl_jn hp hdp] at e
      rw [e]; exact List.prefix_refl _
    · have e : jn s = jn (p ++ pcl u) := by rw [jn_app hp (pcl_ne u), jn_pcl, ht]
      have e2 := congrArg pcl e
      rw [pcl_jn hs hds, pcl_jn (by simp [hp]) (by
        intro x hx
        rcases List.mem_append.1 hx with hx | hx
        · exact hdp x hx
        · exact pcl_nodot u x hx)] at e2
      rw [e2]; exact List.prefix_append _ _
  · rintro ⟨r, rfl⟩
    by_cases hr : r = []
    · subst hr; exact ⟨[], by simp, .inl rfl⟩
    · exact ⟨46 :: jn r, jn_app hp hr, .inr ⟨_, rfl⟩⟩
/-- What is moved: pieces ahead, and what stood behind. -/
theorem jn_move {a p s : List (List UInt8)} (ha : a ≠ []) (hp : p ≠ []) (h : p <+: s) : jn (a ++ s.drop p.length) = jn a ++ (jn s).drop (jn p).length := by
  obtain ⟨r, rfl⟩ := h
  rw [List.drop_left]
  by_cases hr : r = []
  · subst hr; simp
  · rw [jn_app ha hr, jn_app hp hr, List.drop_left]
end Go.Proofs.YtagocfifagnpkaaDoor
