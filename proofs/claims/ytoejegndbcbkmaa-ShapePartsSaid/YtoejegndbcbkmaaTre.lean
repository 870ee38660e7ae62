/-
  Plain definitions, without the program: trees as forests; their size, depth, cells, paths; what stands at a path, and what is put there; what a list of cells is the tree of.
-/
import Derived.Below
namespace Go.Proofs.Ytoejegndbcbkmaa

/-- What a node bears. -/
structure Nod where
  k : Int
  n : Int
  a : ByteArray
  m : ByteArray
/-- A row of trees: the first one's node and kids, and the others. -/
inductive Fr where
  | nil : Fr
  | cons (x : Nod) (ks : Fr) (rs : Fr) : Fr
/-- A tree. -/
abbrev Tr := Nod × Fr
def Fr.len : Fr → Nat
  | .nil => 0
  | .cons _ _ r => r.len + 1
def Fr.sz : Fr → Nat
  | .nil => 0
  | .cons _ k r => 1 + k.sz + r.sz
def Fr.dp : Fr → Nat
  | .nil => 0
  | .cons _ k r => max (1 + k.dp) r.dp
def szT (t : Tr) : Nat := 1 + t.2.sz
def dpT (t : Tr) : Nat := 1 + t.2.dp
def szO : Option Tr → Nat
  | none => 0
  | some t => szT t
def dpO : Option Tr → Nat
  | none => 0
  | some t => dpT t
def Fr.app : Fr → Fr → Fr
  | .nil, b => b
  | .cons x k r, b => .cons x k (r.app b)
def Fr.get : Fr → Nat → Option Tr
  | .nil, _ => none
  | .cons x k _, 0 => some (x, k)
  | .cons _ _ r, i + 1 => r.get i
theorem Fr.len_le (f : Fr) : f.len ≤ f.sz := by
  induction f with
  | nil => exact Nat.le_refl _
  | cons x k r _ ih => unfold Fr.len Fr.sz; omega
theorem Fr.dp_le (f : Fr) : f.dp ≤ f.sz := by
  induction f with
  | nil => exact Nat.le_refl _
  | cons x k r ihk ihr => unfold Fr.dp Fr.sz; omega
theorem Fr.len_app (a b : Fr) : (a.app b).len = a.len + b.len := by
  induction a with
  | nil => simp [Fr.app, Fr.len]
  | cons x k r _ ih => simp only [Fr.app, Fr.len, ih]; omega
theorem Fr.sz_app (a b : Fr) : (a.app b).sz = a.sz + b.sz := by
  induction a with
  | nil => simp [Fr.app, Fr.sz]
  | cons x k r _ ih => simp only [Fr.app, Fr.sz, ih]; omega
theorem Fr.dp_app (a b : Fr) : (a.app b).dp = max a.dp b.dp := by
  induction a with
  | nil => simp [Fr.app, Fr.dp]
  | cons x k r _ ih => simp only [Fr.app, Fr.dp, ih]; omega
theorem Fr.app_assoc (a b c : Fr) : (a.app b).app c = a.app (b.app c) := by
  induction a with
  | nil => rfl
  | cons x k r _ ih => simp only [Fr.app, ih]
theorem Fr.app_nil (a : Fr) : a.app .nil = a := by
  induction a with
  | nil => rfl
  | cons x k r _ ih => simp only [Fr.app, ih]
theorem Fr.get_lt {f : Fr} {i : Nat} {t : Tr} (h : f.get i = some t) : i < f.len := by
  induction f generalizing i with
  | nil => cases h
  | cons x k r _ ih =>
    cases i with
    | zero => exact Nat.succ_pos _
    | succ i => exact Nat.succ_lt_succ (ih h)
theorem Fr.get_some {f : Fr} {i : Nat} (h : i < f.len) : ∃ t, f.get i = some t := by
  induction f generalizing i with
  | nil => exact absurd h (Nat.not_lt_zero _)
  | cons x k r _ ih =>
    cases i with
    | zero => exact ⟨_, rfl⟩
    | succ i => exact ih (Nat.lt_of_succ_lt_succ h)
theorem Fr.get_none {f : Fr} {i : Nat} (h : f.len ≤ i) : f.get i = none := by
  cases hg : f.get i with
  | none => rfl
  | some t => have := Fr.get_lt hg; omega
theorem Fr.get_sz {f : Fr} {i : Nat} {t : Tr} (h : f.get i = some t) : szT t ≤ f.sz := by
  induction f generalizing i with
  | nil => cases h
  | cons x k r _ ih =>
    cases i with
    | zero => injection h with h; subst h; show 1 + k.sz ≤ 1 + k.sz + r.sz; omega
    | succ i => have := ih h; simp only [Fr.sz]; omega
theorem Fr.ext {a b : Fr} (h : ∀ i, a.get i = b.get i) : a = b := by
  induction a generalizing b with
  | nil =>
    cases b with
    | nil => rfl
    | cons y l s => have := h 0; cases this
  | cons x k r _ ih =>
    cases b with
    | nil => have := h 0; cases this
    | cons y l s =>
      have h0 := h 0
      injection h0 with h0
      injection h0 with h1 h2
      subst h1 h2
      rw [ih fun i => h (i + 1)]

/-! ### cells -/
/-- A cell: a node, and where its kids lie. -/
structure Cel where
  x : Nod
  ks : List Int
/-- The cells of a row of trees, the first one at a place; and where the trees' roots lie. -/
def celF : Fr → Nat → List Cel × List Int
  | .nil, _ => ([], [])
  | .cons x k r, f =>
    let p := celF k f
    let q := celF r (f + p.1.length + 1)
    (p.1 ++ ⟨x, p.2⟩ :: q.1, ((f + p.1.length : Nat) : Int) :: q.2)
def celT (t : Tr) (f : Nat) : List Cel := (celF t.2 f).1 ++ [⟨t.1, (celF t.2 f).2⟩]
theorem celF_len (t : Fr) : ∀ f, (celF t f).1.length = t.sz ∧ (celF t f).2.length = t.len := by
  induction t with
  | nil => intro f; exact ⟨rfl, rfl⟩
  | cons x k r ihk ihr =>
    intro f
    simp only [celF, List.length_append, List.length_cons, Fr.sz, Fr.len]
    have h1 := ihk f
    have h2 := ihr (f + (celF k f).1.length + 1)
    omega
theorem celT_len (t : Tr) (f : Nat) : (celT t f).length = szT t := by
  unfold celT szT
  rw [List.length_append, (celF_len t.2 f).1, List.length_singleton]
  omega
/-- The roots' places, and all cells' kids', lie ahead of their own. -/
theorem celF_app (a b : Fr) (f : Nat) : celF (a.app b) f = ((celF a f).1 ++ (celF b (f + a.sz)).1, (celF a f).2 ++ (celF b (f + a.sz)).2) := by
  induction a generalizing f with
  | nil => simp [celF, Fr.app, Fr.sz]
  | cons x k r _ ih =>
    simp only [Fr.app, celF, ih, Fr.sz, (celF_len k f).1]
    have e : f + k.sz + 1 + r.sz = f + (1 + k.sz + r.sz) := by omega
    rw [e]
    simp

/-! ### paths -/
def pathsF (kind : Int) : Fr → Int → List (List Int)
  | .nil, _ => []
  | .cons x k r, i => (((if kind < 0 ∨ x.k = kind then [[]] else []) ++ pathsF kind k 0).map fun p => i :: p) ++ pathsF kind r (i + 1)
def pathsT (kind : Int) (t : Tr) : List (List Int) := (if kind < 0 ∨ t.1.k = kind then [[]] else []) ++ pathsF kind t.2 0
theorem pathsF_cons (kind : Int) (x : Nod) (k r : Fr) (i : Int) : pathsF kind (.cons x k r) i = (pathsT kind (x, k)).map (fun p => i :: p) ++ pathsF kind r (i + 1) := rfl
def getZ (f : Fr) (i : Int) : Option Tr := if i < 0 then none else f.get i.toNat
/-- What stands at a path. -/
def atT : Tr → List Int → Option Tr
  | t, [] => some t
  | t, i :: p => match getZ t.2 i with
    | none => none
    | some u => atT u p
/-- Another tree in the place of the i-th one. -/
def Fr.set : Fr → Nat → Tr → Fr
  | .nil, _, _ => .nil
  | .cons _ _ r, 0, t => .cons t.1 t.2 r
  | .cons x k r, i + 1, t => .cons x k (r.set i t)
/-- Another tree put at a path. -/
def withT : Tr → List Int → Tr → Tr
  | _, [], s => s
  | t, i :: p, s => match getZ t.2 i with
    | none => t
    | some u => (t.1, t.2.set i.toNat (withT u p s))
theorem withT_cons (t : Tr) (i : Int) (p : List Int) (s : Tr) : withT t (i :: p) s = match getZ t.2 i with
    | none => t
    | some u => (t.1, t.2.set i.toNat (withT u p s)) := rfl
theorem withT_some {t u : Tr} {i : Int} (p : List Int) (s : Tr) (h : getZ t.2 i = some u) : withT t (i :: p) s = (t.1, t.2.set i.toNat (withT u p s)) := by rw [withT_cons, h]
theorem atT_some {t u : Tr} {i : Int} (p : List Int) (h : getZ t.2 i = some u) : atT t (i :: p) = atT u p := by
  show (match getZ t.2 i with | none => none | some u => atT u p) = _
  rw [h]
theorem Fr.len_set (f : Fr) (i : Nat) (t : Tr) : (f.set i t).len = f.len := by
  induction f generalizing i with
  | nil => rfl
  | cons x k r _ ih =>
    cases i with
    | zero => rfl
    | succ i => simp only [Fr.set, Fr.len, ih]
theorem Fr.get_set (f : Fr) (i : Nat) (t : Tr) (h : i < f.len) : (f.set i t).get i = some t := by
  induction f generalizing i with
  | nil => exact absurd h (Nat.not_lt_zero _)
  | cons x k r _ ih =>
    cases i with
    | zero => rfl
    | succ i => exact ih i (Nat.lt_of_succ_lt_succ h)
theorem Fr.get_set_ne (f : Fr) (i j : Nat) (t : Tr) (h : j ≠ i) : (f.set i t).get j = f.get j := by
  induction f generalizing i j with
  | nil => rfl
  | cons x k r _ ih =>
    cases i with
    | zero =>
      cases j with
      | zero => exact absurd rfl h
      | succ j => rfl
    | succ i =>
      cases j with
      | zero => rfl
      | succ j => exact ih i j (by omega)
theorem Fr.set_get (f : Fr) (i : Nat) (t : Tr) (h : f.get i = some t) : f.set i t = f := by
  apply Fr.ext
  intro j
  by_cases e : j = i
  · subst e; rw [Fr.get_set f j t (Fr.get_lt h), h]
  · exact Fr.get_set_ne f i j t e
theorem Fr.set_set (f : Fr) (i : Nat) (t u : Tr) : (f.set i t).set i u = f.set i u := by
  induction f generalizing i with
  | nil => rfl
  | cons x k r _ ih =>
    cases i with
    | zero => rfl
    | succ i => simp only [Fr.set, ih]
theorem Fr.sz_set {f : Fr} {i : Nat} {t u : Tr} (h : f.get i = some u) : (f.set i t).sz + szT u = f.sz + szT t := by
  induction f generalizing i with
  | nil => cases h
  | cons x k r _ ih =>
    cases i with
    | zero => injection h with h; subst h; simp only [Fr.set, Fr.sz, szT]; omega
    | succ i => have := ih h; simp only [Fr.set, Fr.sz]; omega
theorem getZ_set {f : Fr} {i : Int} {t u : Tr} (h : getZ f i = some u) : getZ (f.set i.toNat t) i = some t := by
  unfold getZ at h ⊢
  split at h
  · cases h
  · rename_i hi
    rw [if_neg hi]
    exact Fr.get_set f _ t (Fr.get_lt h)
theorem getZ_some {f : Fr} {i : Int} {u : Tr} (h : getZ f i = some u) : 0 ≤ i ∧ f.get i.toNat = some u := by
  unfold getZ at h
  split at h
  · cases h
  · exact ⟨by omega, h⟩
/-- What is put is found. -/
theorem at_with : ∀ (p : List Int) (t s u : Tr), atT t p = some u → atT (withT t p s) p = some s
  | [], _, _, _, _ => rfl
  | i :: p, t, s, u, h => by
    unfold atT at h
    cases hg : getZ t.2 i with
    | none => rw [hg] at h; cases h
    | some v =>
      rw [hg] at h
      have e1 : withT t (i :: p) s = (t.1, t.2.set i.toNat (withT v p s)) := withT_some p s hg
      rw [e1, atT_some p (getZ_set hg)]
      exact at_with p v s u h
/-- What was there, put again, makes the tree that was. -/
theorem with_back : ∀ (p : List Int) (t s u : Tr), atT t p = some u → withT (withT t p s) p u = t
  | [], t, s, u, h => by injection h with h; exact h.symm
  | i :: p, t, s, u, h => by
    unfold atT at h
    cases hg : getZ t.2 i with
    | none => rw [hg] at h; cases h
    | some v =>
      rw [hg] at h
      have e1 : withT t (i :: p) s = (t.1, t.2.set i.toNat (withT v p s)) := withT_some p s hg
      rw [e1, withT_some p u (getZ_set hg), Fr.set_set, with_back p v s u h, Fr.set_get _ _ _ (getZ_some hg).2]
theorem with_sz : ∀ (p : List Int) (t s u : Tr), atT t p = some u → szT (withT t p s) + szT u = szT t + szT s
  | [], t, s, u, h => by injection h with h; subst h; unfold withT; omega
  | i :: p, t, s, u, h => by
    unfold atT at h
    cases hg : getZ t.2 i with
    | none => rw [hg] at h; cases h
    | some v =>
      rw [hg] at h
      have e1 : withT t (i :: p) s = (t.1, t.2.set i.toNat (withT v p s)) := withT_some p s hg
      rw [e1]
      have ih := with_sz p v s u h
      have h2 := Fr.sz_set (t := withT v p s) (getZ_some hg).2
      unfold szT at h2 ih ⊢
      simp only at h2 ih ⊢
      omega
theorem at_sz : ∀ (p : List Int) (t u : Tr), atT t p = some u → szT u ≤ szT t
  | [], t, u, h => by injection h with h; subst h; exact Nat.le_refl _
  | i :: p, t, u, h => by
    unfold atT at h
    cases hg : getZ t.2 i with
    | none => rw [hg] at h; cases h
    | some v =>
      rw [hg] at h
      have h1 := at_sz p v u h
      have h2 := Fr.get_sz (getZ_some hg).2
      have h3 : szT t = 1 + t.2.sz := rfl
      omega
/-- The paths of any kind are as many as there are nodes. -/
theorem pathsF_all (f : Fr) : ∀ i, (pathsF (-1) f i).length = f.sz := by
  induction f with
  | nil => intro i; rfl
  | cons x k r ihk ihr =>
    intro i
    rw [pathsF_cons, List.length_append, List.length_map, ihr]
    unfold pathsT
    rw [if_pos (Or.inl (by decide)), List.length_append, ihk]
    simp only [List.length_singleton, Fr.sz]
theorem pathsT_all (t : Tr) : (pathsT (-1) t).length = szT t := by
  unfold pathsT szT
  rw [if_pos (Or.inl (by decide)), List.length_append, pathsF_all]
  rfl
theorem getZ_cons (x : Nod) (k r : Fr) (i : Int) (h : 0 ≤ i) : getZ (.cons x k r) (i + 1) = getZ r i := by
  unfold getZ
  rw [if_neg (by omega), if_neg (by omega)]
  have e : (i + 1).toNat = i.toNat + 1 := by omega
  rw [e]
  rfl
/-- At each of a row's paths stands a node, of the kind that was asked for. -/
theorem pathsF_at (kind : Int) (f : Fr) : ∀ (i : Int) (p : List Int), p ∈ pathsF kind f i → ∃ (j : Nat) (q : List Int) (t : Tr), p = (i + j) :: q ∧ f.get j = some t ∧ q ∈ pathsT kind t ∧ ∃ u, atT t q = some u ∧ (0 ≤ kind → u.1.k = kind) := by
  induction f with
  | nil => intro i p h; cases h
  | cons x k r ihk ihr =>
    intro i p h
    rw [pathsF_cons] at h
    rcases List.mem_append.1 h with h | h
    · obtain ⟨q, hq, rfl⟩ := List.mem_map.1 h
      refine ⟨0, q, (x, k), by simp, rfl, hq, ?_⟩
      unfold pathsT at hq
      rcases List.mem_append.1 hq with hq | hq
      · split at hq
        · rename_i hk
          rw [List.mem_singleton.1 hq]
          exact ⟨_, rfl, fun h0 => hk.resolve_left (by omega)⟩
        · cases hq
      · obtain ⟨j, q', t, rfl, hg, _, u, hu, hk⟩ := ihk 0 q hq
        refine ⟨u, ?_, hk⟩
        unfold atT getZ
        rw [if_neg (by omega)]
        have e : (0 + (j : Int)).toNat = j := by omega
        rw [e]
        simp only [hg]
        exact hu
    · obtain ⟨j, q, t, rfl, hg, hq, hu⟩ := ihr (i + 1) p h
      exact ⟨j + 1, q, t, by simp; omega, hg, hq, hu⟩
theorem pathsT_at {kind : Int} {t : Tr} {p : List Int} (h : p ∈ pathsT kind t) : ∃ u, atT t p = some u ∧ (0 ≤ kind → u.1.k = kind) := by
  unfold pathsT at h
  rcases List.mem_append.1 h with h | h
  · split at h
    · rename_i hk
      rw [List.mem_singleton.1 h]
      exact ⟨_, rfl, fun h0 => hk.resolve_left (by omega)⟩
    · cases h
  · obtain ⟨j, q, u, rfl, hg, _, v, hv, hk⟩ := pathsF_at kind t.2 0 p h
    refine ⟨v, ?_, hk⟩
    unfold atT getZ
    rw [if_neg (by omega)]
    have e : (0 + (j : Int)).toNat = j := by omega
    rw [e]
    simp only [hg]
    exact hv
/-- No path begins with one that stands behind it. -/
theorem pathsF_order (kind : Int) (f : Fr) : ∀ i : Int, (pathsF kind f i).Pairwise fun p q => ¬ q <+: p := by
  induction f with
  | nil => intro i; exact List.Pairwise.nil
  | cons x k r ihk ihr =>
    intro i
    rw [pathsF_cons, List.pairwise_append]
    refine ⟨?_, ihr (i + 1), ?_⟩
    · rw [List.pairwise_map]
      have : (pathsT kind (x, k)).Pairwise fun p q => ¬ q <+: p := by
        unfold pathsT
        rw [List.pairwise_append]
        refine ⟨?_, ihk 0, ?_⟩
        · split
          · exact List.pairwise_singleton _ _
          · exact List.Pairwise.nil
        · intro p hp q hq
          split at hp
          · rw [List.mem_singleton.1 hp]
            obtain ⟨j, q', t, rfl, _⟩ := pathsF_at kind k 0 q hq
            intro hpre
            have := hpre.length_le
            simp at this
          · cases hp
      exact this.imp fun h hpre => h (by
        obtain ⟨t, ht⟩ := hpre
        injection ht with _ ht
        exact ⟨t, ht⟩)
    · intro p hp q hq
      obtain ⟨p', _, rfl⟩ := List.mem_map.1 hp
      obtain ⟨j, q', t, rfl, _⟩ := pathsF_at kind r (i + 1) q hq
      rintro ⟨s, hs⟩
      injection hs with hs _
      omega
theorem pathsT_order (kind : Int) (t : Tr) : (pathsT kind t).Pairwise fun p q => ¬ q <+: p := by
  unfold pathsT
  rw [List.pairwise_append]
  refine ⟨?_, pathsF_order kind t.2 0, ?_⟩
  · split
    · exact List.pairwise_singleton _ _
    · exact List.Pairwise.nil
  · intro p hp q hq
    split at hp
    · rw [List.mem_singleton.1 hp]
      obtain ⟨j, q', t, rfl, _⟩ := pathsF_at kind t.2 0 q hq
      intro hpre
      have := hpre.length_le
      simp at this
    · cases hp
end Go.Proofs.Ytoejegndbcbkmaa
