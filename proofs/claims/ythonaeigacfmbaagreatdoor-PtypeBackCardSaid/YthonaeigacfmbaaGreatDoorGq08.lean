/-
  Plain definitions, without the program: what layer 2 tells, over a text's runes: blanks, comments, words, names, numbers, signs, tokens.
-/
import Derived.Test.YthonaeigacfmbaaGreatDoorGq07
import Derived.Lib.ItoaNum
namespace Go.Proofs.YthonaeigacfmbaaGreatDoor.B
open Go.Lib

def inr (r : Nat) : Bool := decide (cls r = 1 ∨ cls r = 2 ∨ r = 39)
def blk (r : Nat) : Bool := decide (cls r = 3)
def dig (r : Nat) : Bool := decide (cls r = 2)
def lng (r : Nat) : Bool := inr r || decide (r = 46)
def cnt (f : Nat → Bool) : List Nat → Nat
  | [] => 0
  | r :: t => if f r then cnt f t + 1 else 0
theorem cnt_le (f : Nat → Bool) (l : List Nat) : cnt f l ≤ l.length := by
  induction l with
  | nil => exact Nat.le_refl _
  | cons r t ih => unfold cnt; split <;> simp <;> omega

def cm (d : Int) (last : Nat) : List Nat → Option Nat
  | [] => none
  | r :: t =>
    if last = 40 ∧ r = 42 then (if d + 1 = 0 then some 1 else (cm (d + 1) 32 t).map (· + 1))
    else if last = 42 ∧ r = 41 then (if d - 1 = 0 then some 1 else (cm (d - 1) 32 t).map (· + 1))
    else (cm d r t).map (· + 1)
def opens (l : List Nat) : Bool := [40, 42].isPrefixOf l
def cmt (l : List Nat) : Nat := if opens l then (cm 0 32 l).getD 0 else 0
def btwF : Nat → List Nat → Nat
  | 0, _ => 0
  | f + 1, l => if cmt (l.drop (cnt blk l)) = 0 then cnt blk l else cnt blk l + cmt (l.drop (cnt blk l)) + btwF f (l.drop (cnt blk l + cmt (l.drop (cnt blk l))))
def btw (l : List Nat) : Nat := btwF (l.length + 1) l

def WORDS : List (List Nat) := [[118, 97, 108], [116, 121, 112, 101], [100, 97, 116, 97, 116, 121, 112, 101], [115, 116, 114, 117, 99, 116, 117, 114, 101], [115, 105, 103, 110, 97, 116, 117, 114, 101], [102, 117, 110, 99, 116, 111, 114], [111, 112, 101, 110], [105, 110, 99, 108, 117, 100, 101], [115, 116, 114, 117, 99, 116], [101, 110, 100], [115, 105, 103], [119, 104, 101, 114, 101], [115, 104, 97, 114, 105, 110, 103], [102, 110], [108, 101, 116], [105, 110], [105, 102], [116, 104, 101, 110], [101, 108, 115, 101], [99, 97, 115, 101], [102, 111, 108, 100], [111, 102], [116, 111], [105, 110, 116], [98, 111, 111, 108], [117, 110, 105, 116], [116, 114, 117, 101], [102, 97, 108, 115, 101], [109, 117]]
def wrd (s : ByteArray) : Bool := WORDS.any fun x => decide (s = T x)
def SIGNS : List (List Nat) := [[58, 62], [61, 62], [45, 62], [35, 49], [35, 50], [40], [41], [123], [125], [44], [58], [61], [42], [43], [45], [60], [124]]

structure Tok where
  k : Int
  x : List Nat
  n : Int
  deriving DecidableEq

def spl : List Nat → List (List Nat)
  | [] => [[]]
  | r :: t => if r = 46 then [] :: spl t else match spl t with | [] => [[r]] | a :: b => (r :: a) :: b
def isLong (x : List Nat) : Bool := decide (sz x ≤ 128) && (spl x).all fun y => !wrd (T y) && nm (T y)
def nameT (l : List Nat) : Option (Tok × Nat) :=
  if wrd (T (l.take (cnt lng l))) then some (⟨3, l.take (cnt lng l), 0⟩, cnt lng l)
  else if isLong (l.take (cnt lng l)) then some (⟨1, l.take (cnt lng l), 0⟩, cnt lng l) else none

def dgs (u : Nat) : List Nat := (decDigits u).map UInt8.toNat
def numb (n : Int) : List Nat := if n < 0 then 126 :: dgs n.natAbs else dgs n.toNat
def val (a : Nat) : List Nat → Nat
  | [] => a
  | r :: t => val (10 * a + (r - 48)) t
def digT (neg : Bool) (d : List Nat) : Option (Tok × Nat) :=
  if cnt inr (d.drop (cnt dig d)) > 0 then none
  else if cnt dig d = 0 then none
  else if 1073741824 < val 0 (d.take (cnt dig d)) then none
  else some (if neg then (⟨2, numb (-(val 0 (d.take (cnt dig d)) : Int)), -(val 0 (d.take (cnt dig d)) : Int)⟩, 1 + cnt dig d) else (⟨2, numb (val 0 (d.take (cnt dig d)) : Int), (val 0 (d.take (cnt dig d)) : Int)⟩, cnt dig d))
def numT (l : List Nat) : Option (Tok × Nat) := match l with
  | 126 :: d => digT true d
  | d => digT false d
def signT (l : List Nat) : Option (Tok × Nat) := (SIGNS.find? fun x => x.isPrefixOf l).map fun x => (⟨3, x, 0⟩, x.length)
def tokT (l : List Nat) : Option (Tok × Nat) := match l with
  | [] => none
  | r :: _ => if cls r = 1 then nameT l else if cls r = 2 ∨ r = 126 then numT l else if opens l then none else signT l

def lexF : Nat → List Nat → Nat → List (Tok × Nat) ⊕ Nat
  | 0, _, a => .inr a
  | f + 1, l, a =>
    if l.drop (btw l) = [] then .inl []
    else match tokT (l.drop (btw l)) with
      | none => .inr (a + sz (l.take (btw l)))
      | some (t, n) => match lexF f ((l.drop (btw l)).drop n) (a + sz (l.take (btw l)) + sz ((l.drop (btw l)).take n)) with
        | .inl r => .inl ((t, a + sz (l.take (btw l))) :: r)
        | .inr e => .inr e
def lexL (l : List Nat) (a : Nat) : List (Tok × Nat) ⊕ Nat := lexF (l.length + 1) l a

/-! ### how they go on -/
theorem cm_some {d : Int} {last : Nat} {l : List Nat} {k : Nat} (h : cm d last l = some k) : 1 ≤ k ∧ k ≤ l.length := by
  induction l generalizing d last k with
  | nil => cases h
  | cons r t ih =>
    unfold cm at h
    have key : ∀ {d' : Int} {last' : Nat}, (cm d' last' t).map (· + 1) = some k → 1 ≤ k ∧ k ≤ (r :: t).length := by
      intro d' last' h
      obtain ⟨j, hj, rfl⟩ := Option.map_eq_some_iff.1 h
      have := ih hj
      simp
      omega
    split at h
    · split at h
      · injection h with h; subst h; simp
      · exact key h
    · split at h
      · split at h
        · injection h with h; subst h; simp
        · exact key h
      · exact key h
theorem cmt_le (l : List Nat) : cmt l ≤ l.length := by
  unfold cmt
  split
  · cases h : cm 0 32 l with
    | none => simp
    | some k => exact (cm_some h).2
  · omega
theorem btwF_fuel : ∀ (f g : Nat) (l : List Nat), l.length < f → l.length < g → btwF f l = btwF g l
  | 0, _, _, h, _ => by omega
  | _ + 1, 0, _, _, h => by omega
  | f + 1, g + 1, l, h1, h2 => by
    have hc := cmt_le (l.drop (cnt blk l))
    simp only [List.length_drop] at hc
    simp only [btwF]
    by_cases h : cmt (l.drop (cnt blk l)) = 0
    · rw [if_pos h, if_pos h]
    · rw [if_neg h, if_neg h, btwF_fuel f g _ (by simp only [List.length_drop]; omega) (by simp only [List.length_drop]; omega)]
theorem btw_end {l : List Nat} (h : cmt (l.drop (cnt blk l)) = 0) : btw l = cnt blk l := by
  show btwF (l.length + 1) l = _
  simp only [btwF, if_pos h]
theorem btw_step {l : List Nat} (h : cmt (l.drop (cnt blk l)) ≠ 0) : btw l = cnt blk l + cmt (l.drop (cnt blk l)) + btw (l.drop (cnt blk l + cmt (l.drop (cnt blk l)))) := by
  have hc := cmt_le (l.drop (cnt blk l))
  have hl := cnt_le blk l
  simp only [List.length_drop] at hc
  show btwF (l.length + 1) l = _
  simp only [btwF, if_neg h]
  unfold btw
  rw [btwF_fuel l.length (((l.drop (cnt blk l + cmt (l.drop (cnt blk l)))).length) + 1) _ (by simp only [List.length_drop]; omega) (by omega)]
theorem btwF_le : ∀ (f : Nat) (l : List Nat), btwF f l ≤ l.length
  | 0, l => by simp [btwF]
  | f + 1, l => by
    have hl := cnt_le blk l
    have hc := cmt_le (l.drop (cnt blk l))
    have := btwF_le f (l.drop (cnt blk l + cmt (l.drop (cnt blk l))))
    simp only [List.length_drop] at hc this
    simp only [btwF]
    split <;> omega
theorem btw_le (l : List Nat) : btw l ≤ l.length := btwF_le _ l

theorem digT_some {b : Bool} {d : List Nat} {t : Tok} {n : Nat} (h : digT b d = some (t, n)) : 1 ≤ n ∧ n ≤ d.length + (if b then 1 else 0) := by
  unfold digT at h
  have := cnt_le dig d
  split at h
  · cases h
  split at h
  · cases h
  split at h
  · cases h
  · cases b
    · simp at h; simp; omega
    · simp at h; simp; omega
theorem cnt_head {f : Nat → Bool} {r : Nat} {t : List Nat} (h : f r = true) : 1 ≤ cnt f (r :: t) := by simp [cnt, h]
theorem signs_pos : ∀ x ∈ SIGNS, 1 ≤ x.length := by decide
theorem find_pre {l x : List Nat} (h : SIGNS.find? (fun x => x.isPrefixOf l) = some x) : x ∈ SIGNS ∧ x <+: l := by
  refine ⟨List.mem_of_find?_eq_some h, ?_⟩
  have := List.find?_some h
  exact List.isPrefixOf_iff_prefix.1 this
theorem tokT_some {l : List Nat} {t : Tok} {n : Nat} (h : tokT l = some (t, n)) : 1 ≤ n ∧ n ≤ l.length := by
  cases l with
  | nil => cases h
  | cons r u =>
    unfold tokT at h
    simp only at h
    split at h
    · rename_i hr
      have h1 : 1 ≤ cnt lng (r :: u) := cnt_head (by simp [lng, inr, hr])
      have h2 := cnt_le lng (r :: u)
      unfold nameT at h
      split at h
      · simp at h; omega
      · split at h
        · simp at h; omega
        · cases h
    · split at h
      · unfold numT at h
        split at h
        · have := digT_some h; simp_all
        · have := digT_some h; simp_all
      · split at h
        · cases h
        · unfold signT at h
          obtain ⟨x, hx, he⟩ := Option.map_eq_some_iff.1 h
          obtain ⟨h1, h2⟩ := find_pre hx
          have h3 := signs_pos x h1
          have h4 := h2.length_le
          simp at he
          omega
theorem lexF_fuel : ∀ (f g : Nat) (l : List Nat) (a : Nat), l.length < f → l.length < g → lexF f l a = lexF g l a
  | 0, _, _, _, h, _ => by omega
  | _ + 1, 0, _, _, _, h => by omega
  | f + 1, g + 1, l, a, h1, h2 => by
    simp only [lexF]
    split
    · rfl
    · split
      · rfl
      · rename_i t n e
        have := tokT_some e
        simp only [List.length_drop] at this
        rw [lexF_fuel f g _ _ (by simp only [List.length_drop]; omega) (by simp only [List.length_drop]; omega)]
theorem lex_end {l : List Nat} {a : Nat} (h : l.drop (btw l) = []) : lexL l a = .inl [] := by
  unfold lexL; simp only [lexF, if_pos h]
theorem lex_bad {l : List Nat} {a : Nat} (h : l.drop (btw l) ≠ []) (e : tokT (l.drop (btw l)) = none) : lexL l a = .inr (a + sz (l.take (btw l))) := by
  unfold lexL; simp only [lexF, if_neg h, e]
theorem lex_next {l : List Nat} {a : Nat} {t : Tok} {n : Nat} (h : l.drop (btw l) ≠ []) (e : tokT (l.drop (btw l)) = some (t, n)) :
    lexL l a = match lexL ((l.drop (btw l)).drop n) (a + sz (l.take (btw l)) + sz ((l.drop (btw l)).take n)) with
      | .inl r => .inl ((t, a + sz (l.take (btw l))) :: r)
      | .inr e => .inr e := by
  have hn := tokT_some e
  simp only [List.length_drop] at hn
  have hb := btw_le l
  unfold lexL
  rw [show lexF (l.length + 1) l a = (if l.drop (btw l) = [] then Sum.inl [] else match tokT (l.drop (btw l)) with
      | none => .inr (a + sz (l.take (btw l)))
      | some (t, n) => match lexF l.length ((l.drop (btw l)).drop n) (a + sz (l.take (btw l)) + sz ((l.drop (btw l)).take n)) with
        | .inl r => .inl ((t, a + sz (l.take (btw l))) :: r)
        | .inr e => .inr e) from rfl, if_neg h, e]
  simp only
  rw [lexF_fuel l.length (((l.drop (btw l)).drop n).length + 1) _ _ (by simp only [List.length_drop]; omega) (by omega)]

/-! ### checked texts -/
def ckr (s : ByteArray) : Int × Int := if 16384 < s.size then (0, 3) else ck s 0
theorem ck_ok (s : ByteArray) : ∀ p, ((ck s p).2 = 0 ∧ (ck s p).1 = 0 ∧ vls s p = true ∧ ∀ r ∈ rns s p, rdb (r : Int) = true) ∨ ((ck s p).2 = 4) := by
  refine along s _ ?_ ?_
  · intro p h
    rw [ck_end (by omega), vls_end (by omega), rns_end (by omega)]
    exact .inl ⟨rfl, rfl, rfl, fun _ h => by cases h⟩
  · intro p h ih
    cases hr : rdb ((dc s p).1 : Int)
    · rw [ck_stop h hr]; exact .inr rfl
    · rw [ck_next h hr]
      rcases ih with ⟨h1, h2, h3, h4⟩ | h1
      · refine .inl ⟨h1, h2, ?_, ?_⟩
        · cases hb : bad s p
          · rw [vls_good h hb]; exact h3
          · rw [dc_bad1 hb] at hr
            exact absurd hr (by decide)
        · rw [rns_step h]
          intro r hrr
          rcases List.mem_cons.1 hrr with rfl | h5
          · exact hr
          · exact h4 r h5
      · exact .inr h1
theorem ck_T : ∀ {l : List Nat} (a : List Nat), okl (a ++ l) → (∀ r ∈ l, rdb (r : Int) = true) → ck (T (a ++ l)) (sz a) = (0, 0) := by
  intro l
  induction l with
  | nil => intro a _ _; rw [List.append_nil]; exact ck_end (by rw [T_size]; omega)
  | cons r t ih =>
    intro a h hr
    obtain ⟨h0, h1⟩ := okl_app.1 h
    obtain ⟨h1, h2⟩ := okl_cons.1 h1
    have hw := wd_pos r
    have hlt : sz a < (T (a ++ r :: t)).size := by rw [T_size, sz_app, sz_cons]; omega
    have e : a ++ r :: t = (a ++ [r]) ++ t := by simp
    have es : sz a + wd r = sz (a ++ [r]) := by rw [sz_app, sz_cons, sz_nil]; omega
    have k := ih (a ++ [r]) (by rw [← e]; exact h) (fun x hx => hr x (by simp [hx]))
    rw [ck_next hlt (by rw [dc_T a h1 t]; exact hr r (by simp)), dc_T a h1 t]
    rw [← e, ← es] at k
    exact k
def lexR (s : ByteArray) : List (Tok × Nat) × Int × Int :=
  if (ckr s).2 = 0 then (match lexL (rns s 0) 0 with | .inl l => (l, 0, 0) | .inr a => ([], (a : Int), 5)) else ([], (ckr s).1, (ckr s).2)
end Go.Proofs.YthonaeigacfmbaaGreatDoor.B
