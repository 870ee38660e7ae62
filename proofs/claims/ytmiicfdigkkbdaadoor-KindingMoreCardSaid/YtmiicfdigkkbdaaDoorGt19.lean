/-
  Layer 12: plain: the kind of a constructor in a context of kinds; where kinds stay.
-/
import Derived.Test.YtmiicfdigkkbdaaDoorGt18
namespace Go.Proofs.YtmiicfdigkkbdaaDoor
open Go.RowKit

def nodB (x y : Nod) : Bool := x.k == y.k && (x.n == y.n && (x.a.data.toList == y.a.data.toList && x.m.data.toList == y.m.data.toList))
theorem bytes_ext {a b : ByteArray} (h : a.data.toList = b.data.toList) : a = b := by
  cases a; cases b
  congr 1
  exact Array.toList_inj.1 h
theorem nodB_iff {x y : Nod} : nodB x y = true ↔ x = y := by
  unfold nodB
  simp only [Bool.and_eq_true, beq_iff_eq]
  constructor
  · rintro ⟨h1, h2, h3, h4⟩
    cases x; cases y
    simp only at h1 h2 h3 h4
    rw [h1, h2, bytes_ext h3, bytes_ext h4]
  · rintro rfl; exact ⟨rfl, rfl, rfl, rfl⟩
def Fr.eqB : Fr → Fr → Bool
  | .nil, .nil => true
  | .cons x k r, .cons y l s => nodB x y && (k.eqB l && r.eqB s)
  | _, _ => false
theorem Fr.eqB_iff : ∀ {f g : Fr}, f.eqB g = true ↔ f = g := by
  intro f
  induction f with
  | nil =>
    intro g
    cases g with
    | nil => exact ⟨fun _ => rfl, fun _ => rfl⟩
    | cons y l s => exact ⟨(fun h => nomatch h), (fun h => nomatch h)⟩
  | cons x k r ihk ihr =>
    intro g
    cases g with
    | nil => exact ⟨(fun h => nomatch h), (fun h => nomatch h)⟩
    | cons y l s =>
      unfold Fr.eqB
      rw [Bool.and_eq_true, Bool.and_eq_true, nodB_iff, ihk, ihr]
      constructor
      · rintro ⟨rfl, rfl, rfl⟩; rfl
      · intro h; injection h with h1 h2 h3; exact ⟨h1, h2, h3⟩
def eqTB (a b : Tr) : Bool := nodB a.1 b.1 && a.2.eqB b.2
theorem eqTB_iff {a b : Tr} : eqTB a b = true ↔ a = b := by
  unfold eqTB
  rw [Bool.and_eq_true, nodB_iff, Fr.eqB_iff]
  exact ⟨fun h => Prod.ext h.1 h.2, fun h => by rw [h]; exact ⟨rfl, rfl⟩⟩
def loF : Bool → Fr → Bool
  | _, .nil => false
  | b, .cons x k r => (if b then loF false k else if x.k = 110 then false else if x.k = 115 then loF true k else decide (0 < (if atV 0 0 x then 1 else 0) + Fr.ct 0 (0 + innK x.k) k)) || loF b r
def loT (t : Tr) : Bool := if t.1.k = 110 then false else if t.1.k = 115 then loF true t.2 else decide (0 < ctT 0 0 t)
theorem loF_c (x : Nod) (k r : Fr) : loF false (.cons x k r) = (loT (x, k) || loF false r) := rfl
theorem loF_d (x : Nod) (k r : Fr) : loF true (.cons x k r) = (loF false k || loF true r) := rfl
def starT : Tr := (⟨100, 0, ⟨#[]⟩, ⟨#[]⟩⟩, .nil)
def karT (a b : Tr) : Tr := (⟨101, 0, ⟨#[]⟩, ⟨#[]⟩⟩, .cons a.1 a.2 (.cons b.1 b.2 .nil))
abbrev Kx := Except Nat Tr
def kxE : Kx → Nat
  | .error e => e + 1
  | .ok _ => 0
def musE : Kx → Nat
  | .error e => e + 1
  | .ok t => if t.1.k = 100 then 0 else 10
def musB : Bool → List Kx → Nat
  | b, [] => if b = true then 0 else 10
  | _, .error e :: _ => e + 1
  | b, .ok t :: l => musB (b && decide (t.1.k = 100)) l
def musL (l : List Kx) : Nat := musB true l
theorem musB_zero : ∀ {l : List Kx} {b : Bool}, musB b l = 0 → b = true ∧ ∀ a ∈ l, musE a = 0
  | [], b, h => by
    unfold musB at h
    split at h
    · rename_i hb; exact ⟨hb, fun a ha => by cases ha⟩
    · cases h
  | .error e :: l, b, h => absurd h (Nat.succ_ne_zero e)
  | .ok t :: l, b, h => by
    have h := musB_zero (l := l) (b := b && decide (t.1.k = 100)) h
    rw [Bool.and_eq_true, decide_eq_true_iff] at h
    refine ⟨h.1.1, fun a ha => ?_⟩
    rcases List.mem_cons.1 ha with rfl | ha
    · exact if_pos h.1.2
    · exact h.2 a ha
theorem mus_star {a : Kx} (h : musE a = 0) : ∃ t, a = .ok t ∧ t.1.k = 100 := by
  cases a with
  | error e => exact absurd h (Nat.succ_ne_zero e)
  | ok t =>
    refine ⟨t, rfl, ?_⟩
    apply Classical.byContradiction
    intro hk
    unfold musE at h
    simp only at h
    rw [if_neg hk] at h
    cases h
theorem musB_of : ∀ {l : List Kx}, (∀ a ∈ l, musE a = 0) → musB true l = 0
  | [], _ => rfl
  | a :: l, h => by
    obtain ⟨t, rfl, ht⟩ := mus_star (h a (List.mem_cons_self ..))
    show musB (true && decide (t.1.k = 100)) l = 0
    rw [ht]
    exact musB_of (l := l) fun a ha => h a (List.mem_cons_of_mem _ ha)
theorem musL_iff {l : List Kx} : musL l = 0 ↔ ∀ a ∈ l, musE a = 0 := ⟨fun h => (musB_zero h).2, musB_of⟩
def okS : Nat → Kx
  | 0 => .ok starT
  | e + 1 => .error e
def nth (l : List Kx) (i : Nat) : Kx := match l[i]? with
  | some a => a
  | none => .error 9
def hdT (f : Fr) : Tr := match f with
  | .cons x k _ => (x, k)
  | .nil => starT
def laX (h : Tr) (a : Kx) : Kx := match a with
  | .error e => .error e
  | .ok t => .ok (karT h t)
def apX (a b : Kx) : Kx := match a with
  | .error e => .error e
  | .ok f => match b with
    | .error e => .error e
    | .ok t => if f.1.k = 101 then (match f.2 with
      | .cons x k (.cons y l _) => if eqTB (x, k) t = true then .ok (y, l) else .error 9
      | _ => .error 9) else .error 9
def vaX (c : List Tr) (n : Int) : Kx := match c[n.toNat]? with
  | some t => .ok t
  | none => .error 7
def ofX (s : Bool) (c : List Tr) (x : Nod) (k : Fr) (R : List Tr → List Kx) : Kx :=
  if x.k = 110 then vaX c x.n
  else if x.k = 114 ∨ x.k = 115 then okS (musL (R c))
  else if x.k = 117 ∨ x.k = 118 then okS (musE (nth (R (hdT k :: c)) 1))
  else if x.k = 119 then laX (hdT k) (nth (R (hdT k :: c)) 1)
  else if x.k = 120 then apX (nth (R c) 0) (nth (R c) 1)
  else if x.k = 121 then (if musL (R (starT :: c)) = 0 then (if s = true ∧ loF true k = true then .error 14 else .ok starT) else okS (musL (R (starT :: c))))
  else if x.k = 116 ∨ x.k = 122 then nth (R c) 0
  else .ok starT
def ofF (s : Bool) : List Tr → Fr → List Kx
  | _, .nil => []
  | c, .cons x k r => ofX s c x k (fun c' => ofF s c' k) :: ofF s c r
def ofT (s : Bool) (c : List Tr) (t : Tr) : Kx := ofX s c t.1 t.2 (fun c' => ofF s c' t.2)
theorem ofF_c (s : Bool) (c : List Tr) (x : Nod) (k r : Fr) : ofF s c (.cons x k r) = ofT s c (x, k) :: ofF s c r := rfl

/-! ### what stays when the kids' kinds stay -/
def Les (a b : Kx) : Prop := ∀ t, a = .ok t → b = .ok t
inductive LesL : List Kx → List Kx → Prop
  | nil : LesL [] []
  | cons {a b : Kx} {l m : List Kx} : Les a b → LesL l m → LesL (a :: l) (b :: m)
theorem Les.refl (a : Kx) : Les a a := fun _ h => h
theorem Les.trans {a b c : Kx} (h : Les a b) (h' : Les b c) : Les a c := fun t e => h' t (h t e)
theorem LesL.refl : ∀ (l : List Kx), LesL l l
  | [] => .nil
  | a :: l => .cons (Les.refl a) (LesL.refl l)
theorem LesL.nth {l m : List Kx} (h : LesL l m) (i : Nat) : Les (nth l i) (nth m i) := by
  induction h generalizing i with
  | nil => exact Les.refl _
  | cons h1 _ ih =>
    cases i with
    | zero => exact h1
    | succ i => exact ih i
theorem mus_les {a b : Kx} (h : Les a b) (h0 : musE a = 0) : musE b = 0 := by
  cases a with
  | error e => exact absurd h0 (Nat.succ_ne_zero e)
  | ok t => rw [h t rfl]; exact h0
theorem musL_les {l m : List Kx} (h : LesL l m) (h0 : musL l = 0) : musL m = 0 := by
  rw [musL_iff] at h0 ⊢
  induction h with
  | nil => exact h0
  | cons h1 _ ih =>
    rename_i a b l m _
    intro x hx
    rcases List.mem_cons.1 hx with rfl | hx
    · exact mus_les h1 (h0 a (List.mem_cons_self ..))
    · exact ih (fun y hy => h0 y (List.mem_cons_of_mem _ hy)) x hx
theorem okS_les {e f : Nat} (h : e = 0 → f = 0) : Les (okS e) (okS f) := by
  intro t ht
  cases e with
  | zero => rw [h rfl]; exact ht
  | succ e => cases ht
theorem laX_les {h : Tr} {a b : Kx} (hl : Les a b) : Les (laX h a) (laX h b) := by
  intro t ht
  cases a with
  | error e => cases ht
  | ok s => rw [hl s rfl]; exact ht
theorem apX_les {a b a' b' : Kx} (h : Les a a') (h' : Les b b') : Les (apX a b) (apX a' b') := by
  intro t ht
  cases a with
  | error e => cases ht
  | ok f =>
    cases b with
    | error e => cases ht
    | ok s => rw [h f rfl, h' s rfl]; exact ht
theorem ofX_les {s s' : Bool} {c c' : List Tr} {x x' : Nod} {k k' : Fr} {R R' : List Tr → List Kx} (hx : x'.k = x.k) (hv : x.k = 110 → Les (vaX c x.n) (vaX c' x'.n))
    (h0 : innK x.k = 0 → LesL (R c) (R' c')) (h1 : innK x.k = 1 → ∀ h, LesL (R (h :: c)) (R' (h :: c'))) (hh : 117 ≤ x.k → x.k ≤ 119 → hdT k' = hdT k)
    (hl : x.k = 121 → (s' = true ∧ loF true k' = true) → (s = true ∧ loF true k = true)) : Les (ofX s c x k R) (ofX s' c' x' k' R') := by
  unfold ofX
  rw [hx]
  by_cases c1 : x.k = 110
  · rw [if_pos c1, if_pos c1]; exact hv c1
  rw [if_neg c1, if_neg c1]
  by_cases c2 : x.k = 114 ∨ x.k = 115
  · rw [if_pos c2, if_pos c2]
    exact okS_les (musL_les (h0 (by unfold innK; rw [if_neg (by omega)])))
  rw [if_neg c2, if_neg c2]
  by_cases c3 : x.k = 117 ∨ x.k = 118
  · rw [if_pos c3, if_pos c3, hh (by omega) (by omega)]
    exact okS_les (mus_les ((h1 (by unfold innK; rw [if_pos (by omega)]) _).nth 1))
  rw [if_neg c3, if_neg c3]
  by_cases c4 : x.k = 119
  · rw [if_pos c4, if_pos c4, hh (by omega) (by omega)]
    exact laX_les ((h1 (by unfold innK; rw [if_pos (by omega)]) _).nth 1)
  rw [if_neg c4, if_neg c4]
  by_cases c5 : x.k = 120
  · rw [if_pos c5, if_pos c5]
    have h := h0 (by unfold innK; rw [if_neg (by omega)])
    exact apX_les (h.nth 0) (h.nth 1)
  rw [if_neg c5, if_neg c5]
  by_cases c6 : x.k = 121
  · rw [if_pos c6, if_pos c6]
    have h := h1 (by unfold innK; rw [if_pos (by omega)]) starT
    by_cases c7 : musL (R (starT :: c)) = 0
    · rw [if_pos c7, if_pos (musL_les h c7)]
      by_cases c8 : s = true ∧ loF true k = true
      · rw [if_pos c8]; intro t ht; cases ht
      · rw [if_neg c8, if_neg (fun h => c8 (hl c6 h))]
        exact Les.refl _
    · rw [if_neg c7]
      intro t ht
      cases hm : musL (R (starT :: c)) with
      | zero => exact absurd hm c7
      | succ e => rw [hm] at ht; cases ht
  rw [if_neg c6, if_neg c6]
  by_cases c9 : x.k = 116 ∨ x.k = 122
  · rw [if_pos c9, if_pos c9]
    exact (h0 (by unfold innK; rw [if_neg (by omega)])).nth 0
  rw [if_neg c9, if_neg c9]
  exact Les.refl _
theorem ofF_more (s : Bool) (m : List Tr) (f : Fr) : ∀ c, LesL (ofF s c f) (ofF s (c ++ m) f) := by
  induction f with
  | nil => intro c; exact .nil
  | cons x k r ihk ihr =>
    intro c
    refine .cons (ofX_les rfl (fun _ => ?_) (fun _ => ihk c) (fun _ h => ihk (h :: c)) (fun _ _ => rfl) (fun _ h => h)) (ihr c)
    intro t ht
    unfold vaX at ht ⊢
    cases hg : c[x.n.toNat]? with
    | none => rw [hg] at ht; cases ht
    | some u =>
      rw [hg] at ht
      rw [List.getElem?_append_left (by
        have := List.getElem?_eq_some_iff.1 hg
        exact this.1), hg]
      exact ht
theorem ofT_more {s : Bool} {c m : List Tr} {t k : Tr} (h : ofT s c t = .ok k) : ofT s (c ++ m) t = .ok k := by
  have := ofF_more s m (.cons t.1 t.2 .nil) c
  cases this with
  | cons h1 _ => exact h1 k h
theorem ofF_lax (f : Fr) : ∀ c, LesL (ofF true c f) (ofF false c f) := by
  induction f with
  | nil => intro c; exact .nil
  | cons x k r ihk ihr =>
    intro c
    exact .cons (ofX_les rfl (fun _ => Les.refl _) (fun _ => ihk c) (fun _ h => ihk (h :: c)) (fun _ _ => rfl) (fun _ h => nomatch h.1)) (ihr c)
theorem ofT_lax {c : List Tr} {t k : Tr} (h : ofT true c t = .ok k) : ofT false c t = .ok k := by
  have := ofF_lax (.cons t.1 t.2 .nil) c
  cases this with
  | cons h1 _ => exact h1 k h
def Fit (a b : Kx) : Prop := ∀ t, a = .ok t → b = .ok t ∨ b = .error 14
inductive FitL : List Kx → List Kx → Prop
  | nil : FitL [] []
  | cons {a b : Kx} {l m : List Kx} : Fit a b → FitL l m → FitL (a :: l) (b :: m)
theorem FitL.nth {l m : List Kx} (h : FitL l m) (i : Nat) : Fit (nth l i) (nth m i) := by
  induction h generalizing i with
  | nil => exact fun t h => .inl h
  | cons h1 _ ih =>
    cases i with
    | zero => exact h1
    | succ i => exact ih i
theorem mus_fit {a b : Kx} (h : Fit a b) (h0 : musE a = 0) : musE b = 0 ∨ musE b = 15 := by
  cases a with
  | error e => exact absurd h0 (Nat.succ_ne_zero e)
  | ok t =>
    rcases h t rfl with h | h
    · rw [h]; exact .inl h0
    · rw [h]; exact .inr rfl
theorem musB_fit {l m : List Kx} (h : FitL l m) (h0 : ∀ a ∈ l, musE a = 0) : musB true m = 0 ∨ musB true m = 15 := by
  induction h with
  | nil => exact .inl rfl
  | cons h1 _ ih =>
    rename_i a b l m _
    obtain ⟨t, rfl, ht⟩ := mus_star (h0 a (List.mem_cons_self ..))
    rcases h1 t rfl with rfl | rfl
    · have h2 := ih fun y hy => h0 y (List.mem_cons_of_mem _ hy)
      show musB (true && decide (t.1.k = 100)) m = 0 ∨ musB (true && decide (t.1.k = 100)) m = 15
      rw [ht]
      exact h2
    · exact .inr rfl
theorem musL_fit {l m : List Kx} (h : FitL l m) (h0 : musL l = 0) : musL m = 0 ∨ musL m = 15 := musB_fit h (musL_iff.1 h0)
theorem okS_fit {e f : Nat} (h : e = 0 → f = 0 ∨ f = 15) : Fit (okS e) (okS f) := by
  intro t ht
  cases e with
  | zero =>
    rcases h rfl with h | h
    · rw [h]; exact .inl ht
    · rw [h]; exact .inr rfl
  | succ e => cases ht
theorem ofX_fit {c : List Tr} {x : Nod} {k : Fr} {R R' : List Tr → List Kx} (h0 : ∀ c, FitL (R c) (R' c)) : Fit (ofX false c x k R) (ofX true c x k R') := by
  unfold ofX
  by_cases c1 : x.k = 110
  · rw [if_pos c1, if_pos c1]; exact fun t h => .inl h
  rw [if_neg c1, if_neg c1]
  by_cases c2 : x.k = 114 ∨ x.k = 115
  · rw [if_pos c2, if_pos c2]
    exact okS_fit (musL_fit (h0 _))
  rw [if_neg c2, if_neg c2]
  by_cases c3 : x.k = 117 ∨ x.k = 118
  · rw [if_pos c3, if_pos c3]
    exact okS_fit (mus_fit ((h0 _).nth 1))
  rw [if_neg c3, if_neg c3]
  by_cases c4 : x.k = 119
  · rw [if_pos c4, if_pos c4]
    have h := (h0 (hdT k :: c)).nth 1
    intro t ht
    cases ha : nth (R (hdT k :: c)) 1 with
    | error e => rw [ha] at ht; cases ht
    | ok s =>
      rw [ha] at ht
      rcases h s ha with h | h
      · rw [h]; exact .inl ht
      · rw [h]; exact .inr rfl
  rw [if_neg c4, if_neg c4]
  by_cases c5 : x.k = 120
  · rw [if_pos c5, if_pos c5]
    have h := (h0 c).nth 0
    have h' := (h0 c).nth 1
    intro t ht
    cases ha : nth (R c) 0 with
    | error e => rw [ha] at ht; cases ht
    | ok s =>
      cases hb : nth (R c) 1 with
      | error e => rw [ha, hb] at ht; cases ht
      | ok s' =>
        rw [ha, hb] at ht
        rcases h s ha with h | h
        · rcases h' s' hb with h' | h'
          · rw [h, h']; exact .inl ht
          · rw [h, h']; exact .inr rfl
        · rw [h]; exact .inr rfl
  rw [if_neg c5, if_neg c5]
  by_cases c6 : x.k = 121
  · rw [if_pos c6, if_pos c6]
    have h := h0 (starT :: c)
    intro t ht
    by_cases c7 : musL (R (starT :: c)) = 0
    · rw [if_pos c7, if_neg (fun h => nomatch h.1)] at ht
      rcases musL_fit h c7 with h | h
      · rw [if_pos h]
        by_cases c8 : (true = true) ∧ loF true k = true
        · rw [if_pos c8]; exact .inr rfl
        · rw [if_neg c8]; exact .inl ht
      · rw [if_neg (by omega), h]; exact .inr rfl
    · rw [if_neg c7] at ht
      cases hm : musL (R (starT :: c)) with
      | zero => exact absurd hm c7
      | succ e => rw [hm] at ht; cases ht
  rw [if_neg c6, if_neg c6]
  by_cases c9 : x.k = 116 ∨ x.k = 122
  · rw [if_pos c9, if_pos c9]
    exact (h0 _).nth 0
  rw [if_neg c9, if_neg c9]
  exact fun t h => .inl h
theorem ofF_fit (f : Fr) : ∀ c, FitL (ofF false c f) (ofF true c f) := by
  induction f with
  | nil => intro c; exact .nil
  | cons x k r ihk ihr => intro c; exact .cons (ofX_fit ihk) (ihr c)
theorem ofT_fit {c : List Tr} {t k : Tr} (h : ofT false c t = .ok k) : ofT true c t = .ok k ∨ ofT true c t = .error 14 := by
  have := ofF_fit (.cons t.1 t.2 .nil) c
  cases this with
  | cons h1 _ => exact h1 k h
end Go.Proofs.YtmiicfdigkkbdaaDoor
