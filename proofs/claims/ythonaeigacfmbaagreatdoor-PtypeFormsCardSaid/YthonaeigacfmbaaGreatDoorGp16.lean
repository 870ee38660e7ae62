/-
  Plain definitions, without the program: trees as forests; their size, depth, cells, paths; what stands at a path, and what is put there; what a list of cells is the tree of.
-/
import Derived.Below
namespace Go.Proofs.YthonaeigacfmbaaGreatDoor

structure Nod where
  k : Int
  n : Int
  a : ByteArray
  m : ByteArray
inductive Fr where
  | nil : Fr
  | cons (x : Nod) (ks : Fr) (rs : Fr) : Fr
abbrev Tr := Nod × Fr
def Fr.len : Fr → Nat
  | .nil => 0
  | .cons _ _ r => r.len + 1
def Fr.sz : Fr → Nat
  | .nil => 0
  | .cons _ k r => 1 + k.sz + r.sz
def Fr.dp : Fr → Nat
  | .nil => 0
  | .cons _ k r => max (1 + k.dp) r.dp
def szT (t : Tr) : Nat := 1 + t.2.sz
def dpT (t : Tr) : Nat := 1 + t.2.dp
def szO : Option Tr → Nat
  | none => 0
  | some t => szT t
def dpO : Option Tr → Nat
  | none => 0
  | some t => dpT t
def Fr.app : Fr → Fr → Fr
  | .nil, b => b
  | .cons x k r, b => .cons x k (r.app b)
def Fr.get : Fr → Nat → Option Tr
  | .nil, _ => none
  | .cons x k _, 0 => some (x, k)
  | .cons _ _ r, i + 1 => r.get i
theorem Fr.len_le (f : Fr) : f.len ≤ f.sz := by
  induction f with
  | nil => exact Nat.le_refl _
  | cons x k r _ ih => unfold Fr.len Fr.sz; omega
theorem Fr.dp_le (f : Fr) : f.dp ≤ f.sz := by
  induction f with
  | nil => exact Nat.le_refl _
  | cons x k r ihk ihr => unfold Fr.dp Fr.sz; omega
theorem Fr.len_app (a b : Fr) : (a.app b).len = a.len + b.len := by
  induction a with
  | nil => simp [Fr.app, Fr.len]
  | cons x k r _ ih => simp only [Fr.app, Fr.len, ih]; omega
theorem Fr.sz_app (a b : Fr) : (a.app b).sz = a.sz + b.sz := by
  induction a with
  | nil => simp [Fr.app, Fr.sz]
  | cons x k r _ ih => simp only [Fr.app, Fr.sz, ih]; omega
theorem Fr.dp_app (a b : Fr) : (a.app b).dp = max a.dp b.dp := by
  induction a with
  | nil => simp [Fr.app, Fr.dp]
  | cons x k r _ ih => simp only [Fr.app, Fr.dp, ih]; omega
theorem Fr.app_assoc (a b c : Fr) : (a.app b).app c = a.app (b.app c) := by
  induction a with
  | nil => rfl
  | cons x k r _ ih => simp only [Fr.app, ih]
theorem Fr.app_nil (a : Fr) : a.app .nil = a := by
  induction a with
  | nil => rfl
  | cons x k r _ ih => simp only [Fr.app, ih]
theorem Fr.get_lt {f : Fr} {i : Nat} {t : Tr} (h : f.get i = some t) : i < f.len := by
  induction f generalizing i with
  | nil => cases h
  | cons x k r _ ih =>
    cases i with
    | zero => exact Nat.succ_pos _
    | succ i => exact Nat.succ_lt_succ (ih h)
theorem Fr.get_some {f : Fr} {i : Nat} (h : i < f.len) : ∃ t, f.get i = some t := by
  induction f generalizing i with
  | nil => exact absurd h (Nat.not_lt_zero _)
  | cons x k r _ ih =>
    cases i with
    | zero => exact ⟨_, rfl⟩
    | succ i => exact ih (Nat.lt_of_succ_lt_succ h)
theorem Fr.get_sz {f : Fr} {i : Nat} {t : Tr} (h : f.get i = some t) : szT t ≤ f.sz := by
  induction f generalizing i with
  | nil => cases h
  | cons x k r _ ih =>
    cases i with
    | zero => injection h with h; subst h; show 1 + k.sz ≤ 1 + k.sz + r.sz; omega
    | succ i => have := ih h; simp only [Fr.sz]; omega
theorem Fr.ext {a b : Fr} (h : ∀ i, a.get i = b.get i) : a = b := by
  induction a generalizing b with
  | nil =>
    cases b with
    | nil => rfl
    | cons y l s => have := h 0; cases this
  | cons x k r _ ih =>
    cases b with
    | nil => have := h 0; cases this
    | cons y l s =>
      have h0 := h 0
      injection h0 with h0
      injection h0 with h1 h2
      subst h1 h2
      rw [ih fun i => h (i + 1)]

/-! ### cells -/
structure Cel where
  x : Nod
  ks : List Int
def celF : Fr → Nat → List Cel × List Int
  | .nil, _ => ([], [])
  | .cons x k r, f =>
    let p := celF k f
    let q := celF r (f + p.1.length + 1)
    (p.1 ++ ⟨x, p.2⟩ :: q.1, ((f + p.1.length : Nat) : Int) :: q.2)
def celT (t : Tr) (f : Nat) : List Cel := (celF t.2 f).1 ++ [⟨t.1, (celF t.2 f).2⟩]
theorem celF_len (t : Fr) : ∀ f, (celF t f).1.length = t.sz ∧ (celF t f).2.length = t.len := by
  induction t with
  | nil => intro f; exact ⟨rfl, rfl⟩
  | cons x k r ihk ihr =>
    intro f
    simp only [celF, List.length_append, List.length_cons, Fr.sz, Fr.len]
    have h1 := ihk f
    have h2 := ihr (f + (celF k f).1.length + 1)
    omega
theorem celT_len (t : Tr) (f : Nat) : (celT t f).length = szT t := by
  unfold celT szT
  rw [List.length_append, (celF_len t.2 f).1, List.length_singleton]
  omega
theorem celF_app (a b : Fr) (f : Nat) : celF (a.app b) f = ((celF a f).1 ++ (celF b (f + a.sz)).1, (celF a f).2 ++ (celF b (f + a.sz)).2) := by
  induction a generalizing f with
  | nil => simp [celF, Fr.app, Fr.sz]
  | cons x k r _ ih =>
    simp only [Fr.app, celF, ih, Fr.sz, (celF_len k f).1]
    have e : f + k.sz + 1 + r.sz = f + (1 + k.sz + r.sz) := by omega
    rw [e]
    simp

/-! ### paths -/
def getZ (f : Fr) (i : Int) : Option Tr := if i < 0 then none else f.get i.toNat
def atT : Tr → List Int → Option Tr
  | t, [] => some t
  | t, i :: p => match getZ t.2 i with
    | none => none
    | some u => atT u p
def Fr.set : Fr → Nat → Tr → Fr
  | .nil, _, _ => .nil
  | .cons _ _ r, 0, t => .cons t.1 t.2 r
  | .cons x k r, i + 1, t => .cons x k (r.set i t)
def withT : Tr → List Int → Tr → Tr
  | _, [], s => s
  | t, i :: p, s => match getZ t.2 i with
    | none => t
    | some u => (t.1, t.2.set i.toNat (withT u p s))
theorem withT_cons (t : Tr) (i : Int) (p : List Int) (s : Tr) : withT t (i :: p) s = match getZ t.2 i with
    | none => t
    | some u => (t.1, t.2.set i.toNat (withT u p s)) := rfl
theorem withT_some {t u : Tr} {i : Int} (p : List Int) (s : Tr) (h : getZ t.2 i = some u) : withT t (i :: p) s = (t.1, t.2.set i.toNat (withT u p s)) := by rw [withT_cons, h]
theorem Fr.len_set (f : Fr) (i : Nat) (t : Tr) : (f.set i t).len = f.len := by
  induction f generalizing i with
  | nil => rfl
  | cons x k r _ ih =>
    cases i with
    | zero => rfl
    | succ i => simp only [Fr.set, Fr.len, ih]
theorem getZ_some {f : Fr} {i : Int} {u : Tr} (h : getZ f i = some u) : 0 ≤ i ∧ f.get i.toNat = some u := by
  unfold getZ at h
  split at h
  · cases h
  · exact ⟨by omega, h⟩
end Go.Proofs.YthonaeigacfmbaaGreatDoor
namespace Go.Proofs.YthonaeigacfmbaaGreatDoor

def nod0 : Nod := ⟨0, 0, ⟨#[]⟩, ⟨#[]⟩⟩
def cel (cs : List Cel) (i : Nat) : Cel := cs.getD i ⟨nod0, []⟩
/-! ### sums -/
/-! ### a tree's cells are its -/
end Go.Proofs.YthonaeigacfmbaaGreatDoor
namespace Go.Proofs.YthonaeigacfmbaaGreatDoor

structure Rw where
  cat : Int
  kind : Int
  nm : List UInt8
  mr : List UInt8
  fr : Int
  to : Int
  ks : List UInt8
def RWS : List Rw := [
  ⟨1, 1, [], [], 0, 0, []⟩, ⟨1, 2, [], [], 0, 0, []⟩, ⟨1, 3, [], [], 0, 0, []⟩, ⟨1, 4, [108], [], 0, 0, []⟩,
  ⟨1, 5, [], [], 0, 0, [116, 116]⟩, ⟨1, 6, [], [], 0, 0, [116, 116]⟩, ⟨1, 7, [110], [], 0, 0, [67]⟩,
  ⟨2, 20, [], [], -1073741824, 1073741824, []⟩, ⟨2, 21, [], [], 0, 1, []⟩, ⟨2, 22, [], [], 0, 0, []⟩, ⟨2, 23, [108], [], 0, 0, []⟩,
  ⟨2, 24, [110], [], 0, 0, [116, 101]⟩, ⟨2, 25, [], [], 0, 0, [101, 101]⟩, ⟨2, 26, [], [], 0, 0, [101, 101]⟩, ⟨2, 27, [], [], 0, 0, [101]⟩,
  ⟨2, 28, [], [], 0, 0, [101]⟩, ⟨2, 29, [110], [], 0, 0, [101, 101]⟩, ⟨2, 30, [], [], 0, 0, [101, 101, 101]⟩, ⟨2, 31, [], [], 1, 5, [101, 101]⟩,
  ⟨2, 32, [], [], 0, 0, [101, 65]⟩, ⟨2, 33, [], [], 0, 0, [101, 116, 65]⟩,
  ⟨3, 40, [], [], 0, 0, [42, 105]⟩, ⟨3, 41, [108], [], 0, 0, []⟩, ⟨3, 42, [110], [], 0, 0, [109]⟩, ⟨3, 43, [], [], 0, 1, [109, 115]⟩,
  ⟨4, 50, [], [], 0, 0, [42, 112]⟩, ⟨4, 51, [110], [], 0, 0, []⟩, ⟨4, 52, [108], [], 0, 0, [115, 116]⟩,
  ⟨5, 60, [110], [], 0, 0, [116]⟩, ⟨5, 61, [110], [], 0, 0, [116]⟩, ⟨5, 61, [110], [], 0, 0, []⟩, ⟨5, 62, [110], [], 0, 0, [67]⟩,
  ⟨5, 63, [110], [], 0, 0, [115]⟩, ⟨5, 64, [], [], 0, 0, [115]⟩, ⟨5, 65, [108], [108], 0, 0, []⟩,
  ⟨6, 70, [110], [], 0, 0, [101]⟩, ⟨6, 70, [110], [], 0, 0, [116, 101]⟩, ⟨6, 71, [110], [], 0, 0, [116]⟩, ⟨6, 72, [110], [], 0, 0, [67]⟩,
  ⟨6, 73, [110], [], 0, 0, [109]⟩, ⟨6, 74, [110], [], 0, 0, [115]⟩, ⟨6, 75, [110], [110], 0, 0, [115, 109]⟩, ⟨6, 76, [108], [], 0, 0, []⟩, ⟨6, 77, [108], [], 0, 0, []⟩,
  ⟨7, 80, [], [], 0, 0, [42, 100]⟩,
  ⟨8, 8, [110], [], 0, 0, [116]⟩, ⟨9, 34, [110], [110], 0, 0, [101]⟩]
def isEmp (s : ByteArray) : Bool := decide (s.size = 0)
def wordR (nk lg : ByteArray → Bool) (s : ByteArray) (w : List UInt8) : Bool := if w = [110] then nk s else if w = [108] then lg s else isEmp s
def catOf (c : UInt8) : Int := if c = 116 then 1 else if c = 101 then 2 else if c = 109 then 3 else if c = 115 then 4 else if c = 112 then 5 else 6
structure Inf where
  k : Int
  a : ByteArray
  is : Int → Bool
def apartA : List Inf → Bool
  | [] => true
  | i :: l => l.all (fun j => decide (i.a ≠ j.a)) && apartA l
def seqOk : List Inf → List UInt8 → Bool
  | l, [] => l.isEmpty
  | l, c :: r =>
    if c = 42 then l.all fun i => i.is (catOf (r.headD 0)) && !(decide (r.headD 0 = 105) && (decide (i.k = 74) || decide (i.k = 75)))
    else if c = 67 then !l.isEmpty && (l.all fun i => i.is 8) && apartA l
    else if c = 65 then !l.isEmpty && l.all fun i => i.is 9
    else match l with
      | [] => false
      | i :: t => i.is (catOf c) && seqOk t r
def fitR (nk lg : ByteArray → Bool) (x : Nod) (l : List Inf) (c : Int) (r : Rw) : Bool :=
  decide (r.cat = c) && decide (r.kind = x.k) && wordR nk lg x.a r.nm && wordR nk lg x.m r.mr && decide (r.fr ≤ x.n) && decide (x.n ≤ r.to) && seqOk l r.ks
def isX (nk lg : ByteArray → Bool) (x : Nod) (l : List Inf) (c : Int) : Bool := RWS.any (fitR nk lg x l c)
def infF (nk lg : ByteArray → Bool) : Fr → List Inf
  | .nil => []
  | .cons x k r => ⟨x.k, x.a, isX nk lg x (infF nk lg k)⟩ :: infF nk lg r
def isT (nk lg : ByteArray → Bool) (t : Tr) (c : Int) : Bool := isX nk lg t.1 (infF nk lg t.2) c
def infT (nk lg : ByteArray → Bool) (t : Tr) : Inf := ⟨t.1.k, t.1.a, isT nk lg t⟩
def chk (nk lg : ByteArray → Bool) (o : Option Tr) (c : Int) : Int := match o with
  | none => 1
  | some t => if 8192 < szT t then 3 else if 60 < dpT t then 7 else if isT nk lg t c then 0 else 16

section
variable {nk lg : ByteArray → Bool}
theorem infF_len (f : Fr) : (infF nk lg f).length = f.len := by
  induction f with
  | nil => rfl
  | cons x k r _ ih => simp only [infF, List.length_cons, Fr.len, ih]
theorem infF_get (f : Fr) (i : Nat) : (infF nk lg f)[i]? = (f.get i).map (infT nk lg) := by
  induction f generalizing i with
  | nil => rfl
  | cons x k r _ ih =>
    cases i with
    | zero => rfl
    | succ i => exact ih i
theorem infF_app (a b : Fr) : infF nk lg (a.app b) = infF nk lg a ++ infF nk lg b := by
  induction a with
  | nil => rfl
  | cons x k r _ ih => simp only [Fr.app, infF, ih, List.cons_append]
theorem isX_row {x : Nod} {l : List Inf} {c : Int} : isX nk lg x l c = true ↔ ∃ r ∈ RWS, fitR nk lg x l c r = true := by
  unfold isX
  rw [List.any_eq_true]
theorem fitR_is {x : Nod} {l : List Inf} {c : Int} {r : Rw} : fitR nk lg x l c r = true ↔ r.cat = c ∧ r.kind = x.k ∧ wordR nk lg x.a r.nm = true ∧ wordR nk lg x.m r.mr = true ∧ r.fr ≤ x.n ∧ x.n ≤ r.to ∧ seqOk l r.ks = true := by
  unfold fitR
  simp only [Bool.and_eq_true, decide_eq_true_iff, and_assoc]
end
end Go.Proofs.YthonaeigacfmbaaGreatDoor
namespace Go.Proofs.YthonaeigacfmbaaGreatDoor

structure Tk where
  k : Int
  s : ByteArray
abbrev Rs (α : Type) := (α × Nat) ⊕ (Nat × Int)
def kInt : ByteArray := ⟨#[105, 110, 116]⟩
def kBool : ByteArray := ⟨#[98, 111, 111, 108]⟩
def kUnit : ByteArray := ⟨#[117, 110, 105, 116]⟩
def kOpen : ByteArray := ⟨#[40]⟩
def kShut : ByteArray := ⟨#[41]⟩
def kMu : ByteArray := ⟨#[109, 117]⟩
def kLeft : ByteArray := ⟨#[123]⟩
def kRight : ByteArray := ⟨#[125]⟩
def kOf : ByteArray := ⟨#[111, 102]⟩
def kBar : ByteArray := ⟨#[124]⟩
def kArrow : ByteArray := ⟨#[45, 62]⟩
def kStar : ByteArray := ⟨#[42]⟩
def nob : ByteArray := ⟨#[]⟩
def key (l : List Tk) (i : Nat) (x : ByteArray) : Bool := match l[i]? with
  | some t => decide (t.k = 3) && decide (t.s = x)
  | none => false
def nam (p : ByteArray → Bool) (l : List Tk) (i : Nat) : Option ByteArray := match l[i]? with
  | some t => if decide (t.k = 1) && p t.s then some t.s else none
  | none => none
def nd (k : Int) (a : ByteArray) (ks : Fr) : Tr := (⟨k, 0, a, nob⟩, ks)
def fr1 (a : Tr) : Fr := .cons a.1 a.2 .nil
def fr2 (a b : Tr) : Fr := .cons a.1 a.2 (fr1 b)
def hasN : Fr → ByteArray → Bool
  | .nil, _ => false
  | .cons x _ r, s => decide (x.a = s) || hasN r s

section
variable (nk lg : ByteArray → Bool)
mutual
def typF : Nat → List Tk → Nat → Rs Tr
  | 0, _, i => .inr (i, 6)
  | n + 1, l, i => match prodF n l i with
    | .inr e => .inr e
    | .inl (a, j) => if key l j kArrow then (match typF n l (j + 1) with
      | .inr e => .inr e
      | .inl (b, m) => .inl (nd 5 nob (fr2 a b), m)) else .inl (a, j)
def prodF : Nat → List Tk → Nat → Rs Tr
  | 0, _, i => .inr (i, 6)
  | n + 1, l, i => match atomF n l i with
    | .inr e => .inr e
    | .inl (a, j) => if key l j kStar then (match prodF n l (j + 1) with
      | .inr e => .inr e
      | .inl (b, m) => .inl (nd 6 nob (fr2 a b), m)) else .inl (a, j)
def atomF : Nat → List Tk → Nat → Rs Tr
  | 0, _, i => .inr (i, 6)
  | n + 1, l, i => match nam lg l i with
    | some s => .inl (nd 4 s .nil, i + 1)
    | none =>
      if key l i kInt then .inl (nd 1 nob .nil, i + 1)
      else if key l i kBool then .inl (nd 2 nob .nil, i + 1)
      else if key l i kUnit then .inl (nd 3 nob .nil, i + 1)
      else if key l i kOpen then (match typF n l (i + 1) with
        | .inr e => .inr e
        | .inl (t, j) => if key l j kShut then .inl (t, j + 1) else .inr (j, 6))
      else if key l i kMu then (match nam nk l (i + 1) with
        | none => .inr (i + 1, 6)
        | some s => if key l (i + 2) kLeft then (match consF n l (i + 3) .nil with
          | .inr e => .inr e
          | .inl (c, j) => if key l j kRight then .inl (nd 7 s c, j + 1) else .inr (j, 6)) else .inr (i + 2, 6))
      else .inr (i, 6)
def consF : Nat → List Tk → Nat → Fr → Rs Fr
  | 0, _, i, _ => .inr (i, 6)
  | n + 1, l, i, acc => match nam nk l i with
    | none => .inr (i, 6)
    | some s => if hasN acc s then .inr (i, 9) else if key l (i + 1) kOf then (match typF n l (i + 2) with
      | .inr e => .inr e
      | .inl (t, j) => if key l j kBar then consF n l (j + 1) (acc.app (fr1 (nd 8 s (fr1 t)))) else .inl (acc.app (fr1 (nd 8 s (fr1 t))), j)) else .inr (i + 1, 6)
end
end
section
variable {nk lg : ByteArray → Bool}
theorem key_lt {l : List Tk} {i : Nat} {x : ByteArray} (h : key l i x = true) : i < l.length := by
  unfold key at h
  split at h
  · rename_i t ht
    exact (List.getElem?_eq_some_iff.1 ht).1
  · cases h
theorem nam_lt {p : ByteArray → Bool} {l : List Tk} {i : Nat} {s : ByteArray} (h : nam p l i = some s) : i < l.length := by
  unfold nam at h
  split at h
  · rename_i t ht
    exact (List.getElem?_eq_some_iff.1 ht).1
  · cases h
/-! ### places -/
def Ahead {α : Type} (i : Nat) : Rs α → Prop
  | .inl (_, j) => i < j
  | .inr (p, _) => i ≤ p
theorem Ahead.of {α β : Type} {i : Nat} {p : Nat} {e : Int} (h : Ahead (α := α) i (.inr (p, e))) : Ahead (α := β) i (.inr (p, e)) := h
theorem ahead_all (l : List Tk) : ∀ (n : Nat), (∀ i, Ahead i (typF nk lg n l i)) ∧ (∀ i, Ahead i (prodF nk lg n l i)) ∧ (∀ i, Ahead i (atomF nk lg n l i)) ∧ (∀ i acc, Ahead i (consF nk lg n l i acc))
  | 0 => ⟨fun i => by unfold typF; exact Nat.le_refl _, fun i => by unfold prodF; exact Nat.le_refl _, fun i => by unfold atomF; exact Nat.le_refl _, fun i _ => by unfold consF; exact Nat.le_refl _⟩
  | n + 1 => by
    obtain ⟨hT, hP, hA, hC⟩ := ahead_all l n
    refine ⟨fun i => ?_, fun i => ?_, fun i => ?_, fun i acc => ?_⟩
    · have h1 := hP i
      unfold typF
      cases h : prodF nk lg n l i with
      | inr e => rw [h] at h1; exact h1
      | inl r =>
        obtain ⟨a, j⟩ := r
        rw [h] at h1
        have h1 : i < j := h1
        have h2 := hT (j + 1)
        simp only
        split
        · cases h' : typF nk lg n l (j + 1) with
          | inr e => rw [h'] at h2; have h2 : j + 1 ≤ e.1 := h2; show i ≤ e.1; omega
          | inl r => rw [h'] at h2; have h2 : j + 1 < r.2 := h2; show i < r.2; omega
        · exact h1
    · have h1 := hA i
      unfold prodF
      cases h : atomF nk lg n l i with
      | inr e => rw [h] at h1; exact h1
      | inl r =>
        obtain ⟨a, j⟩ := r
        rw [h] at h1
        have h1 : i < j := h1
        have h2 := hP (j + 1)
        simp only
        split
        · cases h' : prodF nk lg n l (j + 1) with
          | inr e => rw [h'] at h2; have h2 : j + 1 ≤ e.1 := h2; show i ≤ e.1; omega
          | inl r => rw [h'] at h2; have h2 : j + 1 < r.2 := h2; show i < r.2; omega
        · exact h1
    · have h1 := hT (i + 1)
      have h2 := hC (i + 3) .nil
      unfold atomF
      split
      · show i < i + 1; omega
      · split
        · show i < i + 1; omega
        · split
          · show i < i + 1; omega
          · split
            · show i < i + 1; omega
            · split
              · cases h : typF nk lg n l (i + 1) with
                | inr e => rw [h] at h1; have h1 : i + 1 ≤ e.1 := h1; show i ≤ e.1; omega
                | inl r =>
                  rw [h] at h1
                  have h1 : i + 1 < r.2 := h1
                  simp only
                  split
                  · show i < r.2 + 1; omega
                  · show i ≤ r.2; omega
              · split
                · split
                  · show i ≤ i + 1; omega
                  · split
                    · cases h : consF nk lg n l (i + 3) .nil with
                      | inr e => rw [h] at h2; have h2 : i + 3 ≤ e.1 := h2; show i ≤ e.1; omega
                      | inl r =>
                        rw [h] at h2
                        have h2 : i + 3 < r.2 := h2
                        simp only
                        split
                        · show i < r.2 + 1; omega
                        · show i ≤ r.2; omega
                    · show i ≤ i + 2; omega
                · exact Nat.le_refl _
    · have h1 := hT (i + 2)
      unfold consF
      split
      · exact Nat.le_refl _
      · split
        · exact Nat.le_refl _
        · split
          · cases h : typF nk lg n l (i + 2) with
            | inr e => rw [h] at h1; have h1 : i + 2 ≤ e.1 := h1; show i ≤ e.1; omega
            | inl r =>
              rw [h] at h1
              have h1 : i + 2 < r.2 := h1
              simp only
              split
              · have h2 := hC (r.2 + 1) (acc.app (fr1 (nd 8 ‹ByteArray› (fr1 r.1))))
                cases h' : consF nk lg n l (r.2 + 1) (acc.app (fr1 (nd 8 ‹ByteArray› (fr1 r.1)))) with
                | inr e => rw [h'] at h2; have h2 : r.2 + 1 ≤ e.1 := h2; show i ≤ e.1; omega
                | inl q => rw [h'] at h2; have h2 : r.2 + 1 < q.2 := h2; show i < q.2; omega
              · show i < r.2; omega
          · show i ≤ i + 1; omega
/-! ### enough fuel -/
def typS (m : ByteArray) (k : Int) (l : List Tk) (r : Rs Tr) (T : Nat → Rs Tr) : Rs Tr := match r with
  | .inr e => .inr e
  | .inl (a, j) => if key l j m then (match T (j + 1) with
    | .inr e => .inr e
    | .inl (b, q) => .inl (nd k nob (fr2 a b), q)) else .inl (a, j)
def atomS (nk lg : ByteArray → Bool) (l : List Tk) (i : Nat) (T : Nat → Rs Tr) (C : Nat → Fr → Rs Fr) : Rs Tr := match nam lg l i with
  | some s => .inl (nd 4 s .nil, i + 1)
  | none =>
    if key l i kInt then .inl (nd 1 nob .nil, i + 1)
    else if key l i kBool then .inl (nd 2 nob .nil, i + 1)
    else if key l i kUnit then .inl (nd 3 nob .nil, i + 1)
    else if key l i kOpen then (match T (i + 1) with
      | .inr e => .inr e
      | .inl (t, j) => if key l j kShut then .inl (t, j + 1) else .inr (j, 6))
    else if key l i kMu then (match nam nk l (i + 1) with
      | none => .inr (i + 1, 6)
      | some s => if key l (i + 2) kLeft then (match C (i + 3) .nil with
        | .inr e => .inr e
        | .inl (c, j) => if key l j kRight then .inl (nd 7 s c, j + 1) else .inr (j, 6)) else .inr (i + 2, 6))
    else .inr (i, 6)
def consS (nk : ByteArray → Bool) (l : List Tk) (i : Nat) (acc : Fr) (T : Nat → Rs Tr) (C : Nat → Fr → Rs Fr) : Rs Fr := match nam nk l i with
  | none => .inr (i, 6)
  | some s => if hasN acc s then .inr (i, 9) else if key l (i + 1) kOf then (match T (i + 2) with
    | .inr e => .inr e
    | .inl (t, j) => if key l j kBar then C (j + 1) (acc.app (fr1 (nd 8 s (fr1 t)))) else .inl (acc.app (fr1 (nd 8 s (fr1 t))), j)) else .inr (i + 1, 6)
theorem typF_s (n : Nat) (l : List Tk) (i : Nat) : typF nk lg (n + 1) l i = typS kArrow 5 l (prodF nk lg n l i) (typF nk lg n l) := by rw [typF]; rfl
theorem prodF_s (n : Nat) (l : List Tk) (i : Nat) : prodF nk lg (n + 1) l i = typS kStar 6 l (atomF nk lg n l i) (prodF nk lg n l) := by rw [prodF]; rfl
theorem atomF_s (n : Nat) (l : List Tk) (i : Nat) : atomF nk lg (n + 1) l i = atomS nk lg l i (typF nk lg n l) (consF nk lg n l) := by rw [atomF]; rfl
theorem consF_s (n : Nat) (l : List Tk) (i : Nat) (acc : Fr) : consF nk lg (n + 1) l i acc = consS nk l i acc (typF nk lg n l) (consF nk lg n l) := by rw [consF]; rfl
theorem typS_same {m : ByteArray} {k : Int} {l : List Tk} {r : Rs Tr} {T T' : Nat → Rs Tr} (h : ∀ a j, r = .inl (a, j) → key l j m = true → T (j + 1) = T' (j + 1)) : typS m k l r T = typS m k l r T' := by
  unfold typS
  cases r with
  | inr e => rfl
  | inl r =>
    obtain ⟨a, j⟩ := r
    simp only
    split
    · rw [h a j rfl ‹_›]
    · rfl
theorem atomS_same {l : List Tk} {i : Nat} {T T' : Nat → Rs Tr} {C C' : Nat → Fr → Rs Fr} (h1 : i < l.length → T (i + 1) = T' (i + 1)) (h2 : i + 2 < l.length → C (i + 3) .nil = C' (i + 3) .nil) : atomS nk lg l i T C = atomS nk lg l i T' C' := by
  unfold atomS
  split
  · rfl
  · split
    · rfl
    · split
      · rfl
      · split
        · rfl
        · split
          · rename_i hk
            rw [h1 (key_lt hk)]
          · split
            · split
              · rfl
              · split
                · rename_i hk
                  rw [h2 (key_lt hk)]
                · rfl
            · rfl
theorem consS_same {l : List Tk} {i : Nat} {acc : Fr} {T T' : Nat → Rs Tr} {C C' : Nat → Fr → Rs Fr} (h1 : i + 1 < l.length → T (i + 2) = T' (i + 2)) (h2 : ∀ t j a, T' (i + 2) = .inl (t, j) → j < l.length → C (j + 1) a = C' (j + 1) a) : consS nk l i acc T C = consS nk l i acc T' C' := by
  unfold consS
  split
  · rfl
  · split
    · rfl
    · split
      · rename_i hk
        rw [h1 (key_lt hk)]
        cases h : T' (i + 2) with
        | inr e => rfl
        | inl r =>
          obtain ⟨t, j⟩ := r
          simp only
          split
          · rename_i hk
            exact h2 t j _ h (key_lt hk)
          · rfl
      · rfl
theorem fuel_all (l : List Tk) : ∀ (n : Nat), (∀ i, 4 * (l.length - i) + 3 ≤ n → typF nk lg (n + 1) l i = typF nk lg n l i) ∧ (∀ i, 4 * (l.length - i) + 2 ≤ n → prodF nk lg (n + 1) l i = prodF nk lg n l i) ∧
    (∀ i, 4 * (l.length - i) + 1 ≤ n → atomF nk lg (n + 1) l i = atomF nk lg n l i) ∧ (∀ i acc, 4 * (l.length - i) + 4 ≤ n → consF nk lg (n + 1) l i acc = consF nk lg n l i acc)
  | 0 => ⟨fun i h => by omega, fun i h => by omega, fun i h => by omega, fun i _ h => by omega⟩
  | n + 1 => by
    obtain ⟨hT, hP, hA, hC⟩ := fuel_all l n
    obtain ⟨aT, aP, aA, aC⟩ := ahead_all (nk := nk) (lg := lg) l n
    refine ⟨fun i hi => ?_, fun i hi => ?_, fun i hi => ?_, fun i acc hi => ?_⟩
    · rw [typF_s (n + 1), typF_s n, hP i (by omega)]
      refine typS_same fun a j h hk => hT _ ?_
      have h1 := aP i
      rw [h] at h1
      have h1 : i < j := h1
      have := key_lt hk
      omega
    · rw [prodF_s (n + 1), prodF_s n, hA i (by omega)]
      refine typS_same fun a j h hk => hP _ ?_
      have h1 := aA i
      rw [h] at h1
      have h1 : i < j := h1
      have := key_lt hk
      omega
    · rw [atomF_s (n + 1), atomF_s n]
      exact atomS_same (fun h => hT _ (by omega)) (fun h => hC _ _ (by omega))
    · rw [consF_s (n + 1), consF_s n]
      refine consS_same (fun h => hT _ (by omega)) fun t j a h hj => hC _ _ ?_
      have h1 := aT (i + 2)
      rw [h] at h1
      have h1 : i + 2 < j := h1
      omega
theorem typF_more {l : List Tk} {i n : Nat} (h : 4 * (l.length - i) + 3 ≤ n) : ∀ d, typF nk lg (n + d) l i = typF nk lg n l i
  | 0 => rfl
  | d + 1 => by rw [← Nat.add_assoc, (fuel_all l (n + d)).1 i (by omega), typF_more h d]
theorem prodF_more {l : List Tk} {i n : Nat} (h : 4 * (l.length - i) + 2 ≤ n) : ∀ d, prodF nk lg (n + d) l i = prodF nk lg n l i
  | 0 => rfl
  | d + 1 => by rw [← Nat.add_assoc, (fuel_all l (n + d)).2.1 i (by omega), prodF_more h d]
theorem atomF_more {l : List Tk} {i n : Nat} (h : 4 * (l.length - i) + 1 ≤ n) : ∀ d, atomF nk lg (n + d) l i = atomF nk lg n l i
  | 0 => rfl
  | d + 1 => by rw [← Nat.add_assoc, (fuel_all l (n + d)).2.2.1 i (by omega), atomF_more h d]
theorem consF_more {l : List Tk} {i n : Nat} {acc : Fr} (h : 4 * (l.length - i) + 4 ≤ n) : ∀ d, consF nk lg (n + d) l i acc = consF nk lg n l i acc
  | 0 => rfl
  | d + 1 => by rw [← Nat.add_assoc, (fuel_all l (n + d)).2.2.2 i acc (by omega), consF_more h d]
end
section
variable (nk lg : ByteArray → Bool)
def typL (l : List Tk) (i : Nat) : Rs Tr := typF nk lg (4 * l.length + 8) l i
def prodL (l : List Tk) (i : Nat) : Rs Tr := prodF nk lg (4 * l.length + 8) l i
def atomL (l : List Tk) (i : Nat) : Rs Tr := atomF nk lg (4 * l.length + 8) l i
def consL (l : List Tk) (i : Nat) (acc : Fr) : Rs Fr := consF nk lg (4 * l.length + 8) l i acc
end
section
variable {nk lg : ByteArray → Bool}
theorem typL_eq (l : List Tk) (i : Nat) : typL nk lg l i = typS kArrow 5 l (prodL nk lg l i) (typL nk lg l) := by
  have h : typL nk lg l i = typF nk lg (4 * l.length + 8 + 1) l i := (typF_more (by omega) 1).symm
  rw [h, typF_s]
  rfl
theorem prodL_eq (l : List Tk) (i : Nat) : prodL nk lg l i = typS kStar 6 l (atomL nk lg l i) (prodL nk lg l) := by
  have h : prodL nk lg l i = prodF nk lg (4 * l.length + 8 + 1) l i := (prodF_more (by omega) 1).symm
  rw [h, prodF_s]
  rfl
theorem atomL_eq (l : List Tk) (i : Nat) : atomL nk lg l i = atomS nk lg l i (typL nk lg l) (consL nk lg l) := by
  have h : atomL nk lg l i = atomF nk lg (4 * l.length + 8 + 1) l i := (atomF_more (by omega) 1).symm
  rw [h, atomF_s]
  rfl
theorem consL_eq (l : List Tk) (i : Nat) (acc : Fr) : consL nk lg l i acc = consS nk l i acc (typL nk lg l) (consL nk lg l) := by
  have h : consL nk lg l i acc = consF nk lg (4 * l.length + 8 + 1) l i acc := (consF_more (by omega) 1).symm
  rw [h, consF_s]
  rfl
theorem typL_ahead (l : List Tk) (i : Nat) : Ahead i (typL nk lg l i) := (ahead_all l _).1 i
theorem prodL_ahead (l : List Tk) (i : Nat) : Ahead i (prodL nk lg l i) := (ahead_all l _).2.1 i
theorem atomL_ahead (l : List Tk) (i : Nat) : Ahead i (atomL nk lg l i) := (ahead_all l _).2.2.1 i
end
end Go.Proofs.YthonaeigacfmbaaGreatDoor
