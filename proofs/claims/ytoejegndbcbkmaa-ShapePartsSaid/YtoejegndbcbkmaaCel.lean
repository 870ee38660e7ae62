/-
  Plain facts, without the program: what cells are a tree, and which; a tree's cells are its; an opened tree has as many nodes as there are cells.
-/
import Derived.Test.YtoejegndbcbkmaaTre
namespace Go.Proofs.Ytoejegndbcbkmaa

/-- A row of trees out of a list. -/
def rowOf : List Tr → Fr
  | [] => .nil
  | t :: r => .cons t.1 t.2 (rowOf r)
theorem rowOf_snoc (l : List Tr) (t : Tr) : rowOf (l ++ [t]) = (rowOf l).app (.cons t.1 t.2 .nil) := by
  induction l with
  | nil => rfl
  | cons u r ih => simp only [List.cons_append, rowOf, Fr.app, ih]
theorem rowOf_len (l : List Tr) : (rowOf l).len = l.length := by
  induction l with
  | nil => rfl
  | cons t r ih => simp only [rowOf, Fr.len, ih, List.length_cons]
def nod0 : Nod := ⟨0, 0, ⟨#[]⟩, ⟨#[]⟩⟩
def cel (cs : List Cel) (i : Nat) : Cel := cs.getD i ⟨nod0, []⟩
/-- The tree of a cell; the number bounds how deep it may go. -/
def gr (cs : List Cel) : Nat → Nat → Tr
  | 0, i => ((cel cs i).x, .nil)
  | f + 1, i => ((cel cs i).x, rowOf ((cel cs i).ks.map fun x => gr cs f x.toNat))
/-- Each kid lies ahead. -/
def okK (cs : List Cel) : Prop := ∀ (i : Nat) (c : Cel), cs[i]? = some c → ∀ x ∈ c.ks, 0 ≤ x ∧ x < (i : Int)
def kidsOf (cs : List Cel) : List Int := cs.flatMap (·.ks)
/-- Each cell but the last one is the kid of just one. -/
def okC (cs : List Cel) : Prop := ∀ i : Nat, i + 1 < cs.length → (kidsOf cs).count (i : Int) = 1
theorem cel_at {cs : List Cel} {i : Nat} {c : Cel} (h : cs[i]? = some c) : cel cs i = c := by unfold cel; rw [List.getD_eq_getElem?_getD, h]; rfl
theorem cel_lt {cs : List Cel} {i : Nat} (h : i < cs.length) : cs[i]? = some (cel cs i) := by
  rw [List.getElem?_eq_getElem h, cel_at (List.getElem?_eq_getElem h)]
theorem gr_fuel {cs : List Cel} (h : okK cs) : ∀ f g i, i < f → i < g → i < cs.length → gr cs f i = gr cs g i
  | 0, _, i, h1, _, _ => absurd h1 (Nat.not_lt_zero _)
  | _ + 1, 0, i, _, h2, _ => absurd h2 (Nat.not_lt_zero _)
  | f + 1, g + 1, i, h1, h2, hi => by
    unfold gr
    congr 2
    refine List.map_congr_left fun x hx => ?_
    have hx' := h i _ (cel_lt hi) x hx
    exact gr_fuel h f g x.toNat (by omega) (by omega) (by omega)

/-! ### sums -/
def sumTo (f : Nat → Int) : Nat → Int
  | 0 => 0
  | n + 1 => sumTo f n + f n
theorem sumTo_congr {f g : Nat → Int} : ∀ n, (∀ i, i < n → f i = g i) → sumTo f n = sumTo g n
  | 0, _ => rfl
  | n + 1, h => by unfold sumTo; rw [sumTo_congr n fun i hi => h i (by omega), h n (by omega)]
theorem sumTo_add (f g : Nat → Int) : ∀ n, sumTo (fun i => f i + g i) n = sumTo f n + sumTo g n
  | 0 => rfl
  | n + 1 => by unfold sumTo; rw [sumTo_add f g n]; omega
theorem sumTo_sub (f g : Nat → Int) : ∀ n, sumTo (fun i => f i - g i) n = sumTo f n - sumTo g n
  | 0 => rfl
  | n + 1 => by unfold sumTo; rw [sumTo_sub f g n]; omega
theorem sumTo_zero {f : Nat → Int} : ∀ n, (∀ i, i < n → f i = 0) → sumTo f n = 0
  | 0, _ => rfl
  | n + 1, h => by unfold sumTo; rw [sumTo_zero n fun i hi => h i (by omega), h n (by omega)]; rfl
theorem sumTo_one {s : Nat → Int} {x : Nat} : ∀ n, x < n → sumTo (fun i => if i = x then s i else 0) n = s x
  | 0, h => absurd h (Nat.not_lt_zero _)
  | n + 1, h => by
    unfold sumTo
    by_cases e : n = x
    · subst e
      rw [sumTo_zero n fun i hi => if_neg (by omega), if_pos rfl]
      omega
    · rw [sumTo_one n (by omega), if_neg e]
      omega
def sumL (s : Nat → Int) : List Int → Int
  | [] => 0
  | x :: r => s x.toNat + sumL s r
theorem sum_count (s : Nat → Int) (n : Nat) : ∀ l : List Int, (∀ x ∈ l, 0 ≤ x ∧ x < (n : Int)) → sumTo (fun i => s i * ((l.count (i : Int) : Nat) : Int)) n = sumL s l
  | [], _ => sumTo_zero n fun i _ => by simp
  | x :: r, h => by
    obtain ⟨h1, h2⟩ := h x (by simp)
    have ih := sum_count s n r fun y hy => h y (by simp [hy])
    have e1 := sumTo_one (s := s) (x := x.toNat) n (by omega)
    unfold sumL
    rw [← ih, ← e1, ← sumTo_add]
    refine sumTo_congr n fun i _ => ?_
    rw [List.count_cons]
    by_cases e : i = x.toNat
    · have e2 : (x == (i : Int)) = true := by rw [beq_iff_eq]; omega
      rw [if_pos e, e2, if_pos rfl, Int.natCast_add, Int.mul_add]
      simp
      omega
    · have e2 : (x == (i : Int)) = false := by rw [beq_eq_false_iff_ne]; omega
      rw [if_neg e, e2]
      simp
theorem rowOf_sz (cs : List Cel) (f : Nat) : ∀ l : List Int, ((rowOf (l.map fun x => gr cs f x.toNat)).sz : Int) = sumL (fun i => (szT (gr cs f i) : Int)) l
  | [] => rfl
  | x :: r => by
    have ih := rowOf_sz cs f r
    unfold sumL
    rw [← ih]
    simp only [List.map_cons, rowOf, Fr.sz, szT]
    omega
theorem sumL_congr {s t : Nat → Int} : ∀ l : List Int, (∀ x ∈ l, s x.toNat = t x.toNat) → sumL s l = sumL t l
  | [], _ => rfl
  | x :: r, h => by unfold sumL; rw [h x (by simp), sumL_congr r fun y hy => h y (by simp [hy])]
theorem kidsOf_take {cs : List Cel} {i : Nat} {c : Cel} (h : cs[i]? = some c) : kidsOf (cs.take (i + 1)) = kidsOf (cs.take i) ++ c.ks := by
  unfold kidsOf
  rw [List.take_add_one, h, List.flatMap_append]
  simp
theorem kids_lt {cs : List Cel} (h : okK cs) : ∀ i, i ≤ cs.length → ∀ x ∈ kidsOf (cs.take i), 0 ≤ x ∧ x < (i : Int)
  | 0, _, x, hx => by simp [kidsOf] at hx
  | i + 1, hi, x, hx => by
    rw [kidsOf_take (cel_lt (by omega))] at hx
    rcases List.mem_append.1 hx with hx | hx
    · have := kids_lt h i (by omega) x hx; omega
    · have := h i _ (cel_lt (by omega)) x hx; omega
/-- The trees of the cells up to a place that are no kids yet have as many nodes as there are cells. -/
theorem open_sum {cs : List Cel} (h : okK cs) : ∀ i, i ≤ cs.length → sumTo (fun r => (szT (gr cs cs.length r) : Int) * (1 - (((kidsOf (cs.take i)).count (r : Int) : Nat) : Int))) i = (i : Int)
  | 0, _ => rfl
  | i + 1, hi => by
    have ih := open_sum h i (by omega)
    have hc := cel_lt (cs := cs) (i := i) (by omega)
    have hk := h i _ hc
    have hlt := kids_lt h i (by omega)
    unfold sumTo
    have e0 : (kidsOf (cs.take (i + 1))).count (i : Int) = 0 := by
      rw [List.count_eq_zero]
      intro hm
      rw [kidsOf_take hc] at hm
      rcases List.mem_append.1 hm with hm | hm
      · have := hlt _ hm; omega
      · have := hk _ hm; omega
    have e1 : (szT (gr cs cs.length i) : Int) = 1 + sumL (fun j => (szT (gr cs cs.length j) : Int)) (cel cs i).ks := by
      obtain ⟨n, hn⟩ : ∃ n, cs.length = n + 1 := ⟨cs.length - 1, by omega⟩
      have e2 : gr cs cs.length i = ((cel cs i).x, rowOf ((cel cs i).ks.map fun x => gr cs n x.toNat)) := by rw [hn]; rfl
      rw [e2]
      have e3 := rowOf_sz cs n (cel cs i).ks
      have e4 : sumL (fun j => (szT (gr cs n j) : Int)) (cel cs i).ks = sumL (fun j => (szT (gr cs cs.length j) : Int)) (cel cs i).ks := by
        refine sumL_congr _ fun x hx => ?_
        have := hk x hx
        rw [gr_fuel h n cs.length x.toNat (by omega) (by omega) (by omega)]
      rw [← e4, ← e3]
      simp only [szT]
      omega
    have e5 : sumTo (fun r => (szT (gr cs cs.length r) : Int) * (1 - (((kidsOf (cs.take (i + 1))).count (r : Int) : Nat) : Int))) i = (i : Int) - sumL (fun j => (szT (gr cs cs.length j) : Int)) (cel cs i).ks := by
      rw [← ih, ← sum_count (fun j => (szT (gr cs cs.length j) : Int)) i (cel cs i).ks hk, ← sumTo_sub]
      refine sumTo_congr i fun r _ => ?_
      rw [kidsOf_take hc, List.count_append, ← Int.mul_sub]
      congr 1
      omega
    rw [e5, e0, e1]
    simp
    omega
theorem open_size {cs : List Cel} (h : okK cs) (hc : okC cs) (hn : 0 < cs.length) : szT (gr cs cs.length (cs.length - 1)) = cs.length := by
  obtain ⟨n, hl⟩ : ∃ n, cs.length = n + 1 := ⟨cs.length - 1, by omega⟩
  have hs := open_sum h cs.length (Nat.le_refl _)
  rw [List.take_length] at hs
  have e0 : (kidsOf cs).count (n : Int) = 0 := by
    rw [List.count_eq_zero]
    intro hm
    have h1 := kids_lt h cs.length (Nat.le_refl _)
    rw [List.take_length] at h1
    unfold kidsOf at hm
    obtain ⟨c, hc', hx⟩ := List.mem_flatMap.1 hm
    obtain ⟨i, hi, rfl⟩ := List.getElem_of_mem hc'
    have := h i _ (List.getElem?_eq_getElem hi) _ hx
    omega
  rw [hl] at hs ⊢
  unfold sumTo at hs
  rw [sumTo_zero n fun i hi => by rw [hc i (by omega)]; simp, e0] at hs
  simp only [Nat.add_sub_cancel]
  simp at hs
  omega

/-! ### a tree's cells are its -/
theorem celF_range (t : Fr) : ∀ f, (∀ (j : Nat) (c : Cel), (celF t f).1[j]? = some c → ∀ x ∈ c.ks, (f : Int) ≤ x ∧ x < (f + j : Nat)) ∧ (∀ x ∈ (celF t f).2, (f : Int) ≤ x ∧ x < (f + t.sz : Nat)) := by
  induction t with
  | nil => intro f; exact ⟨fun j c h => by simp [celF] at h, fun x hx => by simp [celF] at hx⟩
  | cons x k r ihk ihr =>
    intro f
    have hk := ihk f
    have hkl := (celF_len k f).1
    have hr := ihr (f + (celF k f).1.length + 1)
    simp only [celF]
    refine ⟨fun j c hj y hy => ?_, fun y hy => ?_⟩
    · rcases Nat.lt_or_ge j (celF k f).1.length with h1 | h1
      · rw [List.getElem?_append_left h1] at hj
        exact hk.1 j c hj y hy
      · rw [List.getElem?_append_right h1] at hj
        rcases Nat.eq_or_lt_of_le h1 with h2 | h2
        · rw [← h2, Nat.sub_self] at hj
          simp only [List.getElem?_cons_zero, Option.some.injEq] at hj
          rw [← hj] at hy
          have := hk.2 y hy
          omega
        · obtain ⟨i, hi⟩ : ∃ i, j - (celF k f).1.length = i + 1 := ⟨j - (celF k f).1.length - 1, by omega⟩
          rw [hi, List.getElem?_cons_succ] at hj
          have := hr.1 i c hj y hy
          omega
    · simp only [Fr.sz]
      rcases List.mem_cons.1 hy with rfl | hy
      · omega
      · have := hr.2 y hy; omega
theorem kids_range {t : Fr} {f : Nat} {y : Int} (h : y ∈ kidsOf (celF t f).1) : (f : Int) ≤ y ∧ y < (f + t.sz : Nat) := by
  unfold kidsOf at h
  obtain ⟨c, hc, hx⟩ := List.mem_flatMap.1 h
  obtain ⟨i, hi, rfl⟩ := List.getElem_of_mem hc
  have h1 := (celF_range t f).1 i _ (List.getElem?_eq_getElem hi) y hx
  rw [(celF_len t f).1] at hi
  omega
theorem celF_count (t : Fr) : ∀ (f : Nat) (y : Int), (kidsOf (celF t f).1 ++ (celF t f).2).count y = if (f : Int) ≤ y ∧ y < (f + t.sz : Nat) then 1 else 0 := by
  induction t with
  | nil =>
    intro f y
    rw [if_neg (by simp only [Fr.sz]; omega)]
    rfl
  | cons x k r ihk ihr =>
    intro f y
    have hk := ihk f y
    have hkl := (celF_len k f).1
    have hr := ihr (f + (celF k f).1.length + 1) y
    have e : kidsOf (celF (.cons x k r) f).1 ++ (celF (.cons x k r) f).2 = (kidsOf (celF k f).1 ++ (celF k f).2) ++ (kidsOf (celF r (f + (celF k f).1.length + 1)).1 ++ ((f + (celF k f).1.length : Nat) : Int) :: (celF r (f + (celF k f).1.length + 1)).2) := by
      simp [celF, kidsOf]
    rw [e, List.count_append, hk, List.count_append, List.count_cons]
    rw [List.count_append] at hr
    have hsz : (Fr.cons x k r).sz = 1 + k.sz + r.sz := rfl
    by_cases hy : (((f + (celF k f).1.length : Nat) : Int) == y) = true
    · rw [hy]
      have hy' : ((f + (celF k f).1.length : Nat) : Int) = y := by simpa using hy
      rw [if_neg (by omega)]
      rw [if_neg (by omega)] at hr
      simp only [if_true]
      rw [if_pos (by omega)]
      omega
    · have hy2 : (((f + (celF k f).1.length : Nat) : Int) == y) = false := by simpa using hy
      have hy' : ((f + (celF k f).1.length : Nat) : Int) ≠ y := by simpa using hy2
      rw [hy2]
      simp only [Bool.false_eq_true, if_false, Nat.add_zero]
      rw [hr]
      by_cases h1 : (f : Int) ≤ y ∧ y < (f + k.sz : Nat)
      · rw [if_pos h1, if_neg (by omega), if_pos (by omega)]
      · rw [if_neg h1]
        by_cases h2 : ((f + (celF k f).1.length + 1 : Nat) : Int) ≤ y ∧ y < (f + (celF k f).1.length + 1 + r.sz : Nat)
        · rw [if_pos h2, if_pos (by omega)]
        · rw [if_neg h2, if_neg (by omega)]
theorem celF_grow (t : Fr) : ∀ (f g : Nat) (cs : List Cel), (∀ (j : Nat) (c : Cel), (celF t f).1[j]? = some c → cs[f + j]? = some c) → f + t.sz ≤ g → rowOf ((celF t f).2.map fun x => gr cs g x.toNat) = t := by
  induction t with
  | nil => intro f g cs _ _; rfl
  | cons x k r ihk ihr =>
    intro f g cs hcs hg
    have hkl := (celF_len k f).1
    simp only [Fr.sz] at hg
    obtain ⟨g', rfl⟩ : ∃ g', g = g' + 1 := ⟨g - 1, by omega⟩
    have hroot : cs[f + (celF k f).1.length]? = some ⟨x, (celF k f).2⟩ := by
      refine hcs _ _ ?_
      simp [celF]
    have hk := ihk f g' cs (fun j c hj => hcs j c (by
      simp only [celF]
      rw [List.getElem?_append_left (List.getElem?_eq_some_iff.1 hj).1]
      exact hj)) (by omega)
    have hr := ihr (f + (celF k f).1.length + 1) (g' + 1) cs (fun j c hj => by
      have := hcs ((celF k f).1.length + 1 + j) c (by
        simp only [celF]
        rw [List.getElem?_append_right (by omega)]
        have e : (celF k f).1.length + 1 + j - (celF k f).1.length = j + 1 := by omega
        rw [e, List.getElem?_cons_succ]
        exact hj)
      have e2 : f + ((celF k f).1.length + 1 + j) = f + (celF k f).1.length + 1 + j := by omega
      rw [← e2]
      exact this) (by omega)
    have e : (celF (.cons x k r) f).2 = ((f + (celF k f).1.length : Nat) : Int) :: (celF r (f + (celF k f).1.length + 1)).2 := rfl
    rw [e, List.map_cons]
    have e2 : gr cs (g' + 1) (((f + (celF k f).1.length : Nat) : Int)).toNat = (x, k) := by
      rw [Int.toNat_natCast]
      unfold gr
      rw [cel_at hroot]
      simp only
      rw [hk]
    rw [e2]
    unfold rowOf
    rw [hr]
/-- What is packed is opened as it was. -/
theorem pack_open (t : Tr) : okK (celT t 0) ∧ okC (celT t 0) ∧ gr (celT t 0) (celT t 0).length ((celT t 0).length - 1) = t := by
  have hl := (celF_len t.2 0).1
  have hr := celF_range t.2 0
  have hT : celT t 0 = (celF t.2 0).1 ++ [⟨t.1, (celF t.2 0).2⟩] := rfl
  have hlen : (celT t 0).length = t.2.sz + 1 := by rw [hT, List.length_append, hl]; rfl
  refine ⟨fun i c hi x hx => ?_, fun i hi => ?_, ?_⟩
  · rw [hT] at hi
    rcases Nat.lt_or_ge i (celF t.2 0).1.length with h1 | h1
    · rw [List.getElem?_append_left h1] at hi
      have := hr.1 i c hi x hx
      omega
    · rw [List.getElem?_append_right h1] at hi
      have h2 := (List.getElem?_eq_some_iff.1 hi).1
      simp at h2
      rw [show i - (celF t.2 0).1.length = 0 by omega] at hi
      simp only [List.getElem?_cons_zero, Option.some.injEq] at hi
      rw [← hi] at hx
      have := hr.2 x hx
      omega
  · have e : kidsOf (celT t 0) = kidsOf (celF t.2 0).1 ++ (celF t.2 0).2 := by rw [hT]; simp [kidsOf]
    rw [e, celF_count, if_pos (by omega)]
  · rw [hlen, Nat.add_sub_cancel]
    have hroot : (celT t 0)[t.2.sz]? = some ⟨t.1, (celF t.2 0).2⟩ := by
      rw [hT, List.getElem?_append_right (by omega), hl, Nat.sub_self]
      rfl
    unfold gr
    rw [cel_at hroot]
    simp only
    rw [celF_grow t.2 0 t.2.sz (celT t 0) (fun j c hj => by
      rw [hT, Nat.zero_add, List.getElem?_append_left (List.getElem?_eq_some_iff.1 hj).1]
      exact hj) (by omega)]
end Go.Proofs.Ytoejegndbcbkmaa
