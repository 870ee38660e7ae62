/-
  Plain definitions, without the program: trees as forests; their size, depth, cells, paths; what stands at a path, and what is put there; what a list of cells is the tree of.
-/
import Derived.Below
import Derived.BigQuiet
import Derived.Deep.AppendLies
import Derived.Deep.DeepMust
import Derived.Deep.QuietTactic
import Derived.Laws.Rows
import Derived.Lib.Hide
import Derived.Lib.OthersKept
import Derived.Lib.Strings
import Derived.Outline
import Derived.OwnWalk
import Derived.Test.YtmiicfdigkkbdaaDoorRows
import Derived.WalkKit
import Derived.WalkLawsBesides
import Derived.WalkSmall
import Derived.WalkSpells
namespace Go.Proofs.YtmiicfdigkkbdaaDoor

structure Nod where
  k : Int
  n : Int
  a : ByteArray
  m : ByteArray
inductive Fr where
  | nil : Fr
  | cons (x : Nod) (ks : Fr) (rs : Fr) : Fr
abbrev Tr := Nod × Fr
def Fr.len : Fr → Nat
  | .nil => 0
  | .cons _ _ r => r.len + 1
def Fr.sz : Fr → Nat
  | .nil => 0
  | .cons _ k r => 1 + k.sz + r.sz
def Fr.dp : Fr → Nat
  | .nil => 0
  | .cons _ k r => max (1 + k.dp) r.dp
def szT (t : Tr) : Nat := 1 + t.2.sz
def dpT (t : Tr) : Nat := 1 + t.2.dp
def szO : Option Tr → Nat
  | none => 0
  | some t => szT t
def dpO : Option Tr → Nat
  | none => 0
  | some t => dpT t
def Fr.app : Fr → Fr → Fr
  | .nil, b => b
  | .cons x k r, b => .cons x k (r.app b)
def Fr.get : Fr → Nat → Option Tr
  | .nil, _ => none
  | .cons x k _, 0 => some (x, k)
  | .cons _ _ r, i + 1 => r.get i
theorem Fr.len_le (f : Fr) : f.len ≤ f.sz := by
  induction f with
  | nil => exact Nat.le_refl _
  | cons x k r _ ih => unfold Fr.len Fr.sz; omega
theorem Fr.dp_le (f : Fr) : f.dp ≤ f.sz := by
  induction f with
  | nil => exact Nat.le_refl _
  | cons x k r ihk ihr => unfold Fr.dp Fr.sz; omega
theorem Fr.len_app (a b : Fr) : (a.app b).len = a.len + b.len := by
  induction a with
  | nil => simp [Fr.app, Fr.len]
  | cons x k r _ ih => simp only [Fr.app, Fr.len, ih]; omega
theorem Fr.sz_app (a b : Fr) : (a.app b).sz = a.sz + b.sz := by
  induction a with
  | nil => simp [Fr.app, Fr.sz]
  | cons x k r _ ih => simp only [Fr.app, Fr.sz, ih]; omega
theorem Fr.dp_app (a b : Fr) : (a.app b).dp = max a.dp b.dp := by
  induction a with
  | nil => simp [Fr.app, Fr.dp]
  | cons x k r _ ih => simp only [Fr.app, Fr.dp, ih]; omega
theorem Fr.app_assoc (a b c : Fr) : (a.app b).app c = a.app (b.app c) := by
  induction a with
  | nil => rfl
  | cons x k r _ ih => simp only [Fr.app, ih]
theorem Fr.app_nil (a : Fr) : a.app .nil = a := by
  induction a with
  | nil => rfl
  | cons x k r _ ih => simp only [Fr.app, ih]
theorem Fr.get_lt {f : Fr} {i : Nat} {t : Tr} (h : f.get i = some t) : i < f.len := by
  induction f generalizing i with
  | nil => cases h
  | cons x k r _ ih =>
    cases i with
    | zero => exact Nat.succ_pos _
    | succ i => exact Nat.succ_lt_succ (ih h)
theorem Fr.get_some {f : Fr} {i : Nat} (h : i < f.len) : ∃ t, f.get i = some t := by
  induction f generalizing i with
  | nil => exact absurd h (Nat.not_lt_zero _)
  | cons x k r _ ih =>
    cases i with
    | zero => exact ⟨_, rfl⟩
    | succ i => exact ih (Nat.lt_of_succ_lt_succ h)
theorem Fr.get_sz {f : Fr} {i : Nat} {t : Tr} (h : f.get i = some t) : szT t ≤ f.sz := by
  induction f generalizing i with
  | nil => cases h
  | cons x k r _ ih =>
    cases i with
    | zero => injection h with h; subst h; show 1 + k.sz ≤ 1 + k.sz + r.sz; omega
    | succ i => have := ih h; simp only [Fr.sz]; omega
theorem Fr.ext {a b : Fr} (h : ∀ i, a.get i = b.get i) : a = b := by
  induction a generalizing b with
  | nil =>
    cases b with
    | nil => rfl
    | cons y l s => have := h 0; cases this
  | cons x k r _ ih =>
    cases b with
    | nil => have := h 0; cases this
    | cons y l s =>
      have h0 := h 0
      injection h0 with h0
      injection h0 with h1 h2
      subst h1 h2
      rw [ih fun i => h (i + 1)]

/-! ### cells -/
structure Cel where
  x : Nod
  ks : List Int
/-! ### paths -/
def getZ (f : Fr) (i : Int) : Option Tr := if i < 0 then none else f.get i.toNat
def atT : Tr → List Int → Option Tr
  | t, [] => some t
  | t, i :: p => match getZ t.2 i with
    | none => none
    | some u => atT u p
def Fr.set : Fr → Nat → Tr → Fr
  | .nil, _, _ => .nil
  | .cons _ _ r, 0, t => .cons t.1 t.2 r
  | .cons x k r, i + 1, t => .cons x k (r.set i t)
def withT : Tr → List Int → Tr → Tr
  | _, [], s => s
  | t, i :: p, s => match getZ t.2 i with
    | none => t
    | some u => (t.1, t.2.set i.toNat (withT u p s))
theorem withT_cons (t : Tr) (i : Int) (p : List Int) (s : Tr) : withT t (i :: p) s = match getZ t.2 i with
    | none => t
    | some u => (t.1, t.2.set i.toNat (withT u p s)) := rfl
theorem withT_some {t u : Tr} {i : Int} (p : List Int) (s : Tr) (h : getZ t.2 i = some u) : withT t (i :: p) s = (t.1, t.2.set i.toNat (withT u p s)) := by rw [withT_cons, h]
theorem atT_some {t u : Tr} {i : Int} (p : List Int) (h : getZ t.2 i = some u) : atT t (i :: p) = atT u p := by
  show (match getZ t.2 i with | none => none | some u => atT u p) = _
  rw [h]
theorem Fr.len_set (f : Fr) (i : Nat) (t : Tr) : (f.set i t).len = f.len := by
  induction f generalizing i with
  | nil => rfl
  | cons x k r _ ih =>
    cases i with
    | zero => rfl
    | succ i => simp only [Fr.set, Fr.len, ih]
theorem Fr.sz_set {f : Fr} {i : Nat} {t u : Tr} (h : f.get i = some u) : (f.set i t).sz + szT u = f.sz + szT t := by
  induction f generalizing i with
  | nil => cases h
  | cons x k r _ ih =>
    cases i with
    | zero => injection h with h; subst h; simp only [Fr.set, Fr.sz, szT]; omega
    | succ i => have := ih h; simp only [Fr.set, Fr.sz]; omega
theorem getZ_some {f : Fr} {i : Int} {u : Tr} (h : getZ f i = some u) : 0 ≤ i ∧ f.get i.toNat = some u := by
  unfold getZ at h
  split at h
  · cases h
  · exact ⟨by omega, h⟩
theorem with_sz : ∀ (p : List Int) (t s u : Tr), atT t p = some u → szT (withT t p s) + szT u = szT t + szT s
  | [], t, s, u, h => by injection h with h; subst h; unfold withT; omega
  | i :: p, t, s, u, h => by
    unfold atT at h
    cases hg : getZ t.2 i with
    | none => rw [hg] at h; cases h
    | some v =>
      rw [hg] at h
      have e1 : withT t (i :: p) s = (t.1, t.2.set i.toNat (withT v p s)) := withT_some p s hg
      rw [e1]
      have ih := with_sz p v s u h
      have h2 := Fr.sz_set (t := withT v p s) (getZ_some hg).2
      unfold szT at h2 ih ⊢
      simp only at h2 ih ⊢
      omega
theorem at_sz : ∀ (p : List Int) (t u : Tr), atT t p = some u → szT u ≤ szT t
  | [], t, u, h => by injection h with h; subst h; exact Nat.le_refl _
  | i :: p, t, u, h => by
    unfold atT at h
    cases hg : getZ t.2 i with
    | none => rw [hg] at h; cases h
    | some v =>
      rw [hg] at h
      have h1 := at_sz p v u h
      have h2 := Fr.get_sz (getZ_some hg).2
      have h3 : szT t = 1 + t.2.sz := rfl
      omega
end Go.Proofs.YtmiicfdigkkbdaaDoor
namespace Go.Proofs.YtmiicfdigkkbdaaDoor

def rowOf : List Tr → Fr
  | [] => .nil
  | t :: r => .cons t.1 t.2 (rowOf r)
theorem rowOf_snoc (l : List Tr) (t : Tr) : rowOf (l ++ [t]) = (rowOf l).app (.cons t.1 t.2 .nil) := by
  induction l with
  | nil => rfl
  | cons u r ih => simp only [List.cons_append, rowOf, Fr.app, ih]
theorem rowOf_len (l : List Tr) : (rowOf l).len = l.length := by
  induction l with
  | nil => rfl
  | cons t r ih => simp only [rowOf, Fr.len, ih, List.length_cons]
def nod0 : Nod := ⟨0, 0, ⟨#[]⟩, ⟨#[]⟩⟩
def cel (cs : List Cel) (i : Nat) : Cel := cs.getD i ⟨nod0, []⟩
def gr (cs : List Cel) : Nat → Nat → Tr
  | 0, i => ((cel cs i).x, .nil)
  | f + 1, i => ((cel cs i).x, rowOf ((cel cs i).ks.map fun x => gr cs f x.toNat))
def okK (cs : List Cel) : Prop := ∀ (i : Nat) (c : Cel), cs[i]? = some c → ∀ x ∈ c.ks, 0 ≤ x ∧ x < (i : Int)
def kidsOf (cs : List Cel) : List Int := cs.flatMap (·.ks)
def okC (cs : List Cel) : Prop := ∀ i : Nat, i + 1 < cs.length → (kidsOf cs).count (i : Int) = 1
theorem cel_at {cs : List Cel} {i : Nat} {c : Cel} (h : cs[i]? = some c) : cel cs i = c := by unfold cel; rw [List.getD_eq_getElem?_getD, h]; rfl
theorem cel_lt {cs : List Cel} {i : Nat} (h : i < cs.length) : cs[i]? = some (cel cs i) := by
  rw [List.getElem?_eq_getElem h, cel_at (List.getElem?_eq_getElem h)]
theorem gr_fuel {cs : List Cel} (h : okK cs) : ∀ f g i, i < f → i < g → i < cs.length → gr cs f i = gr cs g i
  | 0, _, i, h1, _, _ => absurd h1 (Nat.not_lt_zero _)
  | _ + 1, 0, i, _, h2, _ => absurd h2 (Nat.not_lt_zero _)
  | f + 1, g + 1, i, h1, h2, hi => by
    unfold gr
    congr 2
    refine List.map_congr_left fun x hx => ?_
    have hx' := h i _ (cel_lt hi) x hx
    exact gr_fuel h f g x.toNat (by omega) (by omega) (by omega)

/-! ### sums -/
def sumTo (f : Nat → Int) : Nat → Int
  | 0 => 0
  | n + 1 => sumTo f n + f n
theorem sumTo_congr {f g : Nat → Int} : ∀ n, (∀ i, i < n → f i = g i) → sumTo f n = sumTo g n
  | 0, _ => rfl
  | n + 1, h => by unfold sumTo; rw [sumTo_congr n fun i hi => h i (by omega), h n (by omega)]
theorem sumTo_add (f g : Nat → Int) : ∀ n, sumTo (fun i => f i + g i) n = sumTo f n + sumTo g n
  | 0 => rfl
  | n + 1 => by unfold sumTo; rw [sumTo_add f g n]; omega
theorem sumTo_sub (f g : Nat → Int) : ∀ n, sumTo (fun i => f i - g i) n = sumTo f n - sumTo g n
  | 0 => rfl
  | n + 1 => by unfold sumTo; rw [sumTo_sub f g n]; omega
theorem sumTo_zero {f : Nat → Int} : ∀ n, (∀ i, i < n → f i = 0) → sumTo f n = 0
  | 0, _ => rfl
  | n + 1, h => by unfold sumTo; rw [sumTo_zero n fun i hi => h i (by omega), h n (by omega)]; rfl
theorem sumTo_one {s : Nat → Int} {x : Nat} : ∀ n, x < n → sumTo (fun i => if i = x then s i else 0) n = s x
  | 0, h => absurd h (Nat.not_lt_zero _)
  | n + 1, h => by
    unfold sumTo
    by_cases e : n = x
    · subst e
      rw [sumTo_zero n fun i hi => if_neg (by omega), if_pos rfl]
      omega
    · rw [sumTo_one n (by omega), if_neg e]
      omega
def sumL (s : Nat → Int) : List Int → Int
  | [] => 0
  | x :: r => s x.toNat + sumL s r
theorem sum_count (s : Nat → Int) (n : Nat) : ∀ l : List Int, (∀ x ∈ l, 0 ≤ x ∧ x < (n : Int)) → sumTo (fun i => s i * ((l.count (i : Int) : Nat) : Int)) n = sumL s l
  | [], _ => sumTo_zero n fun i _ => by simp
  | x :: r, h => by
    obtain ⟨h1, h2⟩ := h x (by simp)
    have ih := sum_count s n r fun y hy => h y (by simp [hy])
    have e1 := sumTo_one (s := s) (x := x.toNat) n (by omega)
    unfold sumL
    rw [← ih, ← e1, ← sumTo_add]
    refine sumTo_congr n fun i _ => ?_
    rw [List.count_cons]
    by_cases e : i = x.toNat
    · have e2 : (x == (i : Int)) = true := by rw [beq_iff_eq]; omega
      rw [if_pos e, e2, if_pos rfl, Int.natCast_add, Int.mul_add]
      simp
      omega
    · have e2 : (x == (i : Int)) = false := by rw [beq_eq_false_iff_ne]; omega
      rw [if_neg e, e2]
      simp
theorem rowOf_sz (cs : List Cel) (f : Nat) : ∀ l : List Int, ((rowOf (l.map fun x => gr cs f x.toNat)).sz : Int) = sumL (fun i => (szT (gr cs f i) : Int)) l
  | [] => rfl
  | x :: r => by
    have ih := rowOf_sz cs f r
    unfold sumL
    rw [← ih]
    simp only [List.map_cons, rowOf, Fr.sz, szT]
    omega
theorem sumL_congr {s t : Nat → Int} : ∀ l : List Int, (∀ x ∈ l, s x.toNat = t x.toNat) → sumL s l = sumL t l
  | [], _ => rfl
  | x :: r, h => by unfold sumL; rw [h x (by simp), sumL_congr r fun y hy => h y (by simp [hy])]
theorem kidsOf_take {cs : List Cel} {i : Nat} {c : Cel} (h : cs[i]? = some c) : kidsOf (cs.take (i + 1)) = kidsOf (cs.take i) ++ c.ks := by
  unfold kidsOf
  rw [List.take_add_one, h, List.flatMap_append]
  simp
theorem kids_lt {cs : List Cel} (h : okK cs) : ∀ i, i ≤ cs.length → ∀ x ∈ kidsOf (cs.take i), 0 ≤ x ∧ x < (i : Int)
  | 0, _, x, hx => by simp [kidsOf] at hx
  | i + 1, hi, x, hx => by
    rw [kidsOf_take (cel_lt (by omega))] at hx
    rcases List.mem_append.1 hx with hx | hx
    · have := kids_lt h i (by omega) x hx; omega
    · have := h i _ (cel_lt (by omega)) x hx; omega
theorem open_sum {cs : List Cel} (h : okK cs) : ∀ i, i ≤ cs.length → sumTo (fun r => (szT (gr cs cs.length r) : Int) * (1 - (((kidsOf (cs.take i)).count (r : Int) : Nat) : Int))) i = (i : Int)
  | 0, _ => rfl
  | i + 1, hi => by
    have ih := open_sum h i (by omega)
    have hc := cel_lt (cs := cs) (i := i) (by omega)
    have hk := h i _ hc
    have hlt := kids_lt h i (by omega)
    unfold sumTo
    have e0 : (kidsOf (cs.take (i + 1))).count (i : Int) = 0 := by
      rw [List.count_eq_zero]
      intro hm
      rw [kidsOf_take hc] at hm
      rcases List.mem_append.1 hm with hm | hm
      · have := hlt _ hm; omega
      · have := hk _ hm; omega
    have e1 : (szT (gr cs cs.length i) : Int) = 1 + sumL (fun j => (szT (gr cs cs.length j) : Int)) (cel cs i).ks := by
      obtain ⟨n, hn⟩ : ∃ n, cs.length = n + 1 := ⟨cs.length - 1, by omega⟩
      have e2 : gr cs cs.length i = ((cel cs i).x, rowOf ((cel cs i).ks.map fun x => gr cs n x.toNat)) := by rw [hn]; rfl
      rw [e2]
      have e3 := rowOf_sz cs n (cel cs i).ks
      have e4 : sumL (fun j => (szT (gr cs n j) : Int)) (cel cs i).ks = sumL (fun j => (szT (gr cs cs.length j) : Int)) (cel cs i).ks := by
        refine sumL_congr _ fun x hx => ?_
        have := hk x hx
        rw [gr_fuel h n cs.length x.toNat (by omega) (by omega) (by omega)]
      rw [← e4, ← e3]
      simp only [szT]
      omega
    have e5 : sumTo (fun r => (szT (gr cs cs.length r) : Int) * (1 - (((kidsOf (cs.take (i + 1))).count (r : Int) : Nat) : Int))) i = (i : Int) - sumL (fun j => (szT (gr cs cs.length j) : Int)) (cel cs i).ks := by
      rw [← ih, ← sum_count (fun j => (szT (gr cs cs.length j) : Int)) i (cel cs i).ks hk, ← sumTo_sub]
      refine sumTo_congr i fun r _ => ?_
      rw [kidsOf_take hc, List.count_append, ← Int.mul_sub]
      congr 1
      omega
    rw [e5, e0, e1]
    simp
    omega
theorem open_size {cs : List Cel} (h : okK cs) (hc : okC cs) (hn : 0 < cs.length) : szT (gr cs cs.length (cs.length - 1)) = cs.length := by
  obtain ⟨n, hl⟩ : ∃ n, cs.length = n + 1 := ⟨cs.length - 1, by omega⟩
  have hs := open_sum h cs.length (Nat.le_refl _)
  rw [List.take_length] at hs
  have e0 : (kidsOf cs).count (n : Int) = 0 := by
    rw [List.count_eq_zero]
    intro hm
    have h1 := kids_lt h cs.length (Nat.le_refl _)
    rw [List.take_length] at h1
    unfold kidsOf at hm
    obtain ⟨c, hc', hx⟩ := List.mem_flatMap.1 hm
    obtain ⟨i, hi, rfl⟩ := List.getElem_of_mem hc'
    have := h i _ (List.getElem?_eq_getElem hi) _ hx
    omega
  rw [hl] at hs ⊢
  unfold sumTo at hs
  rw [sumTo_zero n fun i hi => by rw [hc i (by omega)]; simp, e0] at hs
  simp only [Nat.add_sub_cancel]
  simp at hs
  omega

/-! ### a tree's cells are its -/
end Go.Proofs.YtmiicfdigkkbdaaDoor
namespace Go.Proofs.YtmiicfdigkkbdaaDoor
open Go.RowKit

/-! ### small words -/
theorem i64_eq {a b : Int} (h : a = b) : Value.int .i64 a = .int .i64 b := by rw [h]
theorem below_drewN' {B : Nat} {a w : World} (h : Below B a w) (n : Nat) : Below B a (w.drewN n) := h.trans ⟨rfl, rfl, rfl, Nat.le_refl _, fun _ _ => rfl⟩
theorem addBlock (a : Addr) (n : Nat) : (a.add n).block = a.block := by unfold Addr.add; split <;> rfl
theorem cell_lt {w : World} {a : Addr} {v : Value} (h : w.cell? a = some v) : a.block < w.heap.size := by
  rcases Nat.lt_or_ge a.block w.heap.size with h' | h'
  · exact h'
  · simp [World.cell?, Array.getElem?_eq_none h'] at h
theorem heap_lt {w : World} {g : Nat} {o : Obj} (h : w.heap[g]? = some o) : g < w.heap.size := by
  rcases Nat.lt_or_ge g w.heap.size with h' | h'
  · exact h'
  · rw [Array.getElem?_eq_none h'] at h; cases h
theorem heap_below {w w' : World} {g : Nat} {o : Obj} (h : w.heap[g]? = some o) (hb : Below w.heap.size w w') : w'.heap[g]? = some o := (hb.block g (heap_lt h)).trans h

def Pln (w : World) (b : Nat) : Prop := ∃ cs e, w.heap[b]? = some (.cells cs e (0, 0))
def Nd (w : World) (S : Nat → Prop) (v : Value) (x : Nod) (n : Nat) (K : Nat → Nat → Prop) : Prop :=
  ∃ q p A c, v = .pointer (some ⟨q, p, none⟩) ∧ S q ∧ Pln w q ∧ w.cell? ⟨q, p, none⟩ = some (.int .i64 x.k) ∧ w.cell? ⟨q, p + 1, none⟩ = some (.int .i64 x.n) ∧ w.cell? ⟨q, p + 2, none⟩ = some (.string x.a) ∧
    w.cell? ⟨q, p + 3, none⟩ = some (.string x.m) ∧ w.cell? ⟨q, p + 4, none⟩ = some (.slice A n c) ∧ n ≤ c ∧ (0 < n → ∃ kb ko, A = some ⟨kb, ko, none⟩ ∧ S kb ∧ K kb ko)
def InF (w : World) (S : Nat → Prop) : Fr → Nat → Nat → Prop
  | .nil, _, _ => True
  | .cons x ks rs, b, o => (∃ v, w.cell? ⟨b, o, none⟩ = some v ∧ Nd w S v x ks.len (InF w S ks)) ∧ InF w S rs b (o + 1)
def InT (w : World) (S : Nat → Prop) (v : Value) (t : Tr) : Prop := Nd w S v t.1 t.2.len (InF w S t.2)
def InO (w : World) (S : Nat → Prop) (v : Value) : Option Tr → Prop
  | none => v = .pointer none
  | some t => InT w S v t
theorem InF.keep {w w' : World} {S S' : Nat → Prop} {t : Fr} (hS : ∀ q, S q → S' q) (hk : ∀ b, S b → w'.heap[b]? = w.heap[b]?) : ∀ {b o : Nat}, S b → InF w S t b o → InF w' S' t b o := by
  induction t with
  | nil => intro b o _ _; trivial
  | cons x ks rs ihk ihr =>
    intro b o hb h
    have hk' := fun (p : Addr) (hp : S p.block) => World.cell?_of_block (w := w) (w' := w') (hk p.block hp)
    obtain ⟨⟨v, hv, q, p, A, c, e, hq, ⟨xs, te, hx⟩, h0, h1, h2, h3, h4, hc, hkids⟩, hr⟩ := h
    refine ⟨⟨v, (hk' ⟨b, o, none⟩ hb).trans hv, q, p, A, c, e, hS q hq, ⟨xs, te, (hk q hq).trans hx⟩, (hk' ⟨q, p, none⟩ hq).trans h0, (hk' ⟨q, p + 1, none⟩ hq).trans h1, (hk' ⟨q, p + 2, none⟩ hq).trans h2, (hk' ⟨q, p + 3, none⟩ hq).trans h3, (hk' ⟨q, p + 4, none⟩ hq).trans h4, hc, fun hn => ?_⟩, ihr hb hr⟩
    obtain ⟨kb, ko, hA, h5, h7⟩ := hkids hn
    exact ⟨kb, ko, hA, hS kb h5, ihk h5 h7⟩
theorem InT.keep {w w' : World} {S S' : Nat → Prop} {v : Value} {t : Tr} (h : InT w S v t) (hS : ∀ q, S q → S' q) (hk : ∀ b, S b → w'.heap[b]? = w.heap[b]?) : InT w' S' v t := by
  have hk' := fun (p : Addr) (hp : S p.block) => World.cell?_of_block (w := w) (w' := w') (hk p.block hp)
  obtain ⟨q, p, A, c, e, hq, ⟨xs, te, hx⟩, h0, h1, h2, h3, h4, hc, hkids⟩ := h
  refine ⟨q, p, A, c, e, hS q hq, ⟨xs, te, (hk q hq).trans hx⟩, (hk' ⟨q, p, none⟩ hq).trans h0, (hk' ⟨q, p + 1, none⟩ hq).trans h1, (hk' ⟨q, p + 2, none⟩ hq).trans h2, (hk' ⟨q, p + 3, none⟩ hq).trans h3, (hk' ⟨q, p + 4, none⟩ hq).trans h4, hc, fun hn => ?_⟩
  obtain ⟨kb, ko, hA, h5, h7⟩ := hkids hn
  exact ⟨kb, ko, hA, hS kb h5, InF.keep hS hk h5 h7⟩
def Bel (S : Nat → Prop) (B : Nat) : Prop := ∀ q, S q → q < B
theorem InT.below {w w' : World} {S : Nat → Prop} {B : Nat} {v : Value} {t : Tr} (h : InT w S v t) (hS : Bel S B) (hb : Below B w w') : InT w' S v t := h.keep (fun _ h => h) fun _ hp => hb.block _ (hS _ hp)
theorem InO.keep {w w' : World} {S S' : Nat → Prop} {v : Value} {t : Option Tr} (h : InO w S v t) (hS : ∀ q, S q → S' q) (hk : ∀ b, S b → w'.heap[b]? = w.heap[b]?) : InO w' S' v t := by
  cases t with
  | none => exact h
  | some t => exact InT.keep h hS hk
theorem InO.below {w w' : World} {S : Nat → Prop} {B : Nat} {v : Value} {t : Option Tr} (h : InO w S v t) (hS : Bel S B) (hb : Below B w w') : InO w' S v t := h.keep (fun _ h => h) fun _ hp => hb.block _ (hS _ hp)
def Kid (w : World) (S : Nat → Prop) (A : Option Addr) (rest : Fr) (i : Nat) : Prop := 0 < rest.len → ∃ kb ko, A = some ⟨kb, ko, none⟩ ∧ S kb ∧ InF w S rest kb (ko + i)
theorem Kid.next {w : World} {S : Nat → Prop} {A : Option Addr} {x : Nod} {k r : Fr} {i : Nat} (h : Kid w S A (.cons x k r) i) :
    ∃ kb ko v, A = some ⟨kb, ko, none⟩ ∧ S kb ∧ w.cell? ⟨kb, ko + i, none⟩ = some v ∧ InT w S v (x, k) ∧ Kid w S A r (i + 1) := by
  obtain ⟨kb, ko, hA, h1, ⟨v, hv, hn⟩, hr⟩ := h (Nat.succ_pos _)
  exact ⟨kb, ko, v, hA, h1, hv, hn, fun _ => ⟨kb, ko, hA, h1, hr⟩⟩
theorem Kid.keep {w w' : World} {S S' : Nat → Prop} {A : Option Addr} {r : Fr} {i : Nat} (h : Kid w S A r i) (hS : ∀ q, S q → S' q) (hk : ∀ b, S b → w'.heap[b]? = w.heap[b]?) : Kid w' S' A r i := by
  intro h0
  obtain ⟨kb, ko, hA, h1, h3⟩ := h h0
  exact ⟨kb, ko, hA, hS kb h1, InF.keep hS hk h1 h3⟩
theorem Fr.cut {f : Fr} (h : 0 < f.len) : ∃ x k r, f = .cons x k r := by
  cases f with
  | nil => exact absurd h (Nat.lt_irrefl _)
  | cons x k r => exact ⟨x, k, r, rfl⟩
theorem Fr.app_cons (a : Fr) (x : Nod) (k r : Fr) : a.app (.cons x k r) = (a.app (.cons x k .nil)).app r := by rw [Fr.app_assoc]; rfl
theorem InT.open {w : World} {S : Nat → Prop} {v : Value} {x : Nod} {ks : Fr} (h : InT w S v (x, ks)) :
    ∃ q p A c, v = .pointer (some ⟨q, p, none⟩) ∧ S q ∧ w.cell? ⟨q, p, none⟩ = some (.int .i64 x.k) ∧ w.cell? ⟨q, p + 1, none⟩ = some (.int .i64 x.n) ∧ w.cell? ⟨q, p + 2, none⟩ = some (.string x.a) ∧
    w.cell? ⟨q, p + 3, none⟩ = some (.string x.m) ∧ w.cell? ⟨q, p + 4, none⟩ = some (.slice A ks.len c) ∧ ks.len ≤ c ∧ Kid w S A ks 0 := by
  obtain ⟨q, p, A, c, hv, hq, _, h⟩ := h
  exact ⟨q, p, A, c, hv, hq, h⟩
theorem InT.pln {w : World} {S : Nat → Prop} {q p : Nat} {t : Tr} (h : InT w S (.pointer (some ⟨q, p, none⟩)) t) : Pln w q := by
  obtain ⟨q', p', A, c, hv, _, hp, _⟩ := h
  injection hv with hv
  injection hv with hv
  injection hv with hv
  rw [hv]
  exact hp
theorem InT.ptr {w : World} {S : Nat → Prop} {v : Value} {t : Tr} (h : InT w S v t) : ∃ q p, v = .pointer (some ⟨q, p, none⟩) := by
  obtain ⟨q, p, _, _, hv, _⟩ := h
  exact ⟨q, p, hv⟩
theorem InT.drew {w : World} {S : Nat → Prop} {v : Value} {t : Tr} (h : InT w S v t) (q : Nat) : InT (w.drewN q) S v t := h.keep (fun _ h => h) fun _ _ => rfl
theorem InO.drew {w : World} {S : Nat → Prop} {v : Value} {t : Option Tr} (h : InO w S v t) (q : Nat) : InO (w.drewN q) S v t := h.keep (fun _ h => h) fun _ _ => rfl
theorem Kid.drew {w : World} {S : Nat → Prop} {A : Option Addr} {r : Fr} {i : Nat} (h : Kid w S A r i) (q : Nat) : Kid (w.drewN q) S A r i := h.keep (fun _ h => h) fun _ _ => rfl
end Go.Proofs.YtmiicfdigkkbdaaDoor
namespace Go.Proofs.YtmiicfdigkkbdaaDoor
open Go.RowKit

theorem ba_eq {s t : ByteArray} (h : s.data.toList = t.data.toList) : s = t := by
  apply ByteArray.ext
  exact Array.ext' h
theorem txt_eq {x y : ByteArray} (h : x = y) : (x.toList == y.toList) = true ∧ (x.toList != y.toList) = false := by subst h; simp
theorem txt_ne {x y : ByteArray} (h : x ≠ y) : (x.toList == y.toList) = false ∧ (x.toList != y.toList) = true := by
  have : (x.toList == y.toList) = false := by
    rw [beq_eq_false_iff_ne]
    intro e
    rw [Lib.toList_data, Lib.toList_data] at e
    exact h (ba_eq e)
  exact ⟨this, by unfold bne; rw [this]; rfl⟩
theorem int_eq {x y : Int} (h : x = y) : (x == y) = true ∧ (x != y) = false := by subst h; simp
theorem int_ne {x y : Int} (h : x ≠ y) : (x == y) = false ∧ (x != y) = true := by simp [h]
def SmPost (b : Bool) (w : World) (e : Ending) (w' : World) : Prop := e = .returned (.bool b) ∧ ∃ q, w' = w.drewN q
theorem sm_ret {a b : Bool} {w w' : World} (h : b = a) (hw : ∃ q, w' = w.drewN q) : SmPost b w (.returned (.bool a)) w' := ⟨by rw [h], hw⟩
theorem quiet_off {P : Program} {f : FuncId} {args : Array Value} {w : World} {q x : Nat} {v : Value} (h : Calls P f args (w.drewN (q + x)) fun e w' => e = .returned v ∧ ∃ m, w' = (w.drewN (q + x)).drewN m) :
    Calls P f args (w.drewN (q + x)) fun e w'' => e = .returned v ∧ ∃ n, w'' = w.drewN (q + n) := h.mono fun _ _ ⟨he, m, hm⟩ => ⟨he, x + m, by rw [hm, World.drewN_drewN, Nat.add_assoc]⟩
theorem bool_no {b : Bool} {P : Prop} (h : b = true ↔ P) (hn : ¬ P) : b = false := by cases b; rfl; exact absurd (h.1 rfl) hn
theorem bool_yes {b : Bool} {P : Prop} (h : b = true ↔ P) (hp : P) : b = true := h.2 hp
theorem Fr.app_inj (a : Fr) {b c : Fr} (h : a.app b = a.app c) : b = c := by
  induction a with
  | nil => exact h
  | cons x k r _ ih => simp only [Fr.app, Fr.cons.injEq] at h; exact ih h.2.2
theorem nod_ext {x y : Nod} (h1 : x.k = y.k) (h2 : x.n = y.n) (h3 : x.a = y.a) (h4 : x.m = y.m) : x = y := by
  cases x; cases y; simp only at h1 h2 h3 h4; subst h1 h2 h3 h4; rfl

end Go.Proofs.YtmiicfdigkkbdaaDoor
namespace Go.Proofs.YtmiicfdigkkbdaaDoor
open Go.RowKit

/-! ### hole -/
/-! ### At -/
def Sp (w : World) (B : Nat) (v : Value) (l : List Int) : Prop :=
  ∃ A c, v = .slice A l.length c ∧ l.length ≤ c ∧ ∀ (j : Nat) (u : Int), l[j]? = some u → ∃ b o, A = some ⟨b, o, none⟩ ∧ b < B ∧ w.cell? ⟨b, o + j, none⟩ = some (.int .i64 u)
theorem Sp.keep {w w' : World} {B B' : Nat} {v : Value} {l : List Int} (h : Sp w B v l) (hB : B ≤ B') (hk : ∀ p : Addr, p.block < B → w'.cell? p = w.cell? p) : Sp w' B' v l := by
  obtain ⟨A, c, hv, hlc, hc⟩ := h
  refine ⟨A, c, hv, hlc, fun j u hu => ?_⟩
  obtain ⟨b, o, hA, hlt, hcell⟩ := hc j u hu
  exact ⟨b, o, hA, by omega, (hk _ hlt).trans hcell⟩
theorem InF.at {w : World} {Sq : Nat → Prop} : ∀ {f : Fr} {b o i : Nat} {t : Tr}, InF w Sq f b o → f.get i = some t → ∃ v, w.cell? ⟨b, o + i, none⟩ = some v ∧ InT w Sq v t
  | .nil, _, _, _, _, _, h => by cases h
  | .cons x k r, b, o, 0, t, ⟨⟨v, hv, hn⟩, _⟩, h => by injection h with h; subst h; exact ⟨v, hv, hn⟩
  | .cons x k r, b, o, i + 1, t, ⟨_, hr⟩, h => by
    obtain ⟨v, hv, hn⟩ := InF.at (f := r) hr h
    refine ⟨v, ?_, hn⟩
    rw [show o + (i + 1) = o + 1 + i by omega]
    exact hv
theorem Kid.at {w : World} {Sq : Nat → Prop} {A : Option Addr} {f : Fr} {i : Nat} {t : Tr} (h : Kid w Sq A f 0) (hi : f.get i = some t) : ∃ kb ko v, A = some ⟨kb, ko, none⟩ ∧ Sq kb ∧ w.cell? ⟨kb, ko + i, none⟩ = some v ∧ InT w Sq v t := by
  have hlt := Fr.get_lt hi
  obtain ⟨kb, ko, hA, h2, h3⟩ := h (by omega)
  obtain ⟨v, hv, hn⟩ := h3.at hi
  exact ⟨kb, ko, v, hA, h2, hv, hn⟩
theorem atT_none {t : Tr} {i : Int} (p : List Int) (h : getZ t.2 i = none) : atT t (i :: p) = none := by
  show (match getZ t.2 i with | none => none | some u => atT u p) = _
  rw [h]
end Go.Proofs.YtmiicfdigkkbdaaDoor
