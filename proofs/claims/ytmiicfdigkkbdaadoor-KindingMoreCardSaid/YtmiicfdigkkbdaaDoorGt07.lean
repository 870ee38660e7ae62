/-
  Plain, without the program: which trees are kinds and constructors of F-omega; what is moved, or put, is one still.
-/
import Derived.Test.YtmiicfdigkkbdaaDoorGt06
import Derived.Laws.Cover1
import Derived.Lib.CutLaws
namespace Go.Proofs.YtmiicfdigkkbdaaDoor

def emq (s : ByteArray) : Bool := s.toList.isEmpty
def plnB (x : Nod) (nm : Bool) : Bool := emq x.m && (x.n == 0 && (nm || emq x.a))
def kdF : Fr → Bool
  | .nil => true
  | .cons x k r => (plnB x false && (if x.k = 100 then k.len == 0 else x.k == 101 && (k.len == 2 && kdF k))) && kdF r
def kdT (t : Tr) : Bool := plnB t.1 false && (if t.1.k = 100 then t.2.len == 0 else t.1.k == 101 && (t.2.len == 2 && kdF t.2))
theorem kdF_cons (x : Nod) (k r : Fr) : kdF (.cons x k r) = (kdT (x, k) && kdF r) := rfl
def lbOk (rise : Bool) : List ByteArray → ByteArray → Bool
  | [], _ => true
  | p :: q, s => !(p.toList == s.toList || (rise && !(Op.bytesLess p.toList s.toList || p.toList == s.toList))) && lbOk rise q s
def lbF (rise : Bool) : List ByteArray → Fr → Bool
  | _, .nil => true
  | pre, .cons x _ r => lbOk rise pre x.a && lbF rise (pre ++ [x.a]) r
def labB (s : ByteArray) : Bool := decide (1 ≤ s.size) && decide (s.size ≤ 160)
def fdK (m : Nat) : Int := if m = 2 then 116 else 122
def coF : Nat → Fr → Bool
  | _, .nil => true
  | m, .cons x k r => (if m = 0 then
      (if x.k = 110 then emq x.m && (emq x.a && (decide (0 ≤ x.n) && (decide (x.n ≤ 65536) && k.len == 0)))
       else plnB x false && (if 111 ≤ x.k ∧ x.k ≤ 113 then k.len == 0
        else if x.k = 114 ∨ x.k = 120 then k.len == 2 && coF 0 k
        else if x.k = 115 then lbF true [] k && coF 2 k
        else if 117 ≤ x.k ∧ x.k ≤ 119 then k.len == 2 && coF 1 k
        else if x.k = 121 then k.len != 0 && (lbF false [] k && coF 3 k) else false))
      else if m = 1 then kdT (x, k)
      else x.k == fdK m && (plnB x true && (labB x.a && (k.len == 1 && coF 0 k)))) && coF (if m = 1 then 0 else m) r
def coT (t : Tr) : Bool :=
  if t.1.k = 110 then emq t.1.m && (emq t.1.a && (decide (0 ≤ t.1.n) && (decide (t.1.n ≤ 65536) && t.2.len == 0)))
  else plnB t.1 false && (if 111 ≤ t.1.k ∧ t.1.k ≤ 113 then t.2.len == 0
        else if t.1.k = 114 ∨ t.1.k = 120 then t.2.len == 2 && coF 0 t.2
        else if t.1.k = 115 then lbF true [] t.2 && coF 2 t.2
        else if 117 ≤ t.1.k ∧ t.1.k ≤ 119 then t.2.len == 2 && coF 1 t.2
        else if t.1.k = 121 then t.2.len != 0 && (lbF false [] t.2 && coF 3 t.2) else false)
def fdT (m : Nat) (t : Tr) : Bool := t.1.k == fdK m && (plnB t.1 true && (labB t.1.a && (t.2.len == 1 && coF 0 t.2)))
theorem coF_0 (x : Nod) (k r : Fr) : coF 0 (.cons x k r) = (coT (x, k) && coF 0 r) := rfl
theorem coF_1 (x : Nod) (k r : Fr) : coF 1 (.cons x k r) = (kdT (x, k) && coF 0 r) := rfl
theorem coF_2 (x : Nod) (k r : Fr) : coF 2 (.cons x k r) = (fdT 2 (x, k) && coF 2 r) := rfl
theorem coF_3 (x : Nod) (k r : Fr) : coF 3 (.cons x k r) = (fdT 3 (x, k) && coF 3 r) := rfl
theorem emq_eq {s : ByteArray} (h : emq s = true) : s = ⟨#[]⟩ := by
  unfold emq at h
  rw [Lib.toList_data] at h
  cases s with
  | mk d =>
    cases d with
    | mk l =>
      cases l with
      | nil => rfl
      | cons a t => cases h
theorem emq_nil : emq ⟨#[]⟩ = true := by unfold emq; rw [Lib.toList_data]; rfl
theorem plnB_ok {x : Nod} {b : Bool} (h : plnB x b = true) : x.m = ⟨#[]⟩ ∧ x.n = 0 ∧ (b = false → x.a = ⟨#[]⟩) := by
  unfold plnB at h
  simp only [Bool.and_eq_true, Bool.or_eq_true, beq_iff_eq] at h
  obtain ⟨h1, h2, h3⟩ := h
  exact ⟨emq_eq h1, h2, fun hb => by rcases h3 with h3 | h3; rw [h3] at hb; cases hb; exact emq_eq h3⟩
theorem Fr.len0 {f : Fr} (h : f.len = 0) : f = .nil := by
  cases f with
  | nil => rfl
  | cons x k r => exact absurd h (Nat.succ_ne_zero _)
theorem kd_vok {f : Fr} (h : kdF f = true) : f.vok := by
  induction f with
  | nil => trivial
  | cons x k r ihk ihr =>
    rw [kdF_cons, Bool.and_eq_true] at h
    obtain ⟨h1, h2⟩ := h
    unfold kdT at h1
    rw [Bool.and_eq_true] at h1
    obtain ⟨h3, h4⟩ := h1
    have hp := plnB_ok h3
    refine ⟨⟨hp.1, fun h => ?_⟩, ?_, ihr h2⟩
    · exfalso
      have h : x.k = 110 := h
      rw [show (x, k).1.k = 110 from h, if_neg (by decide)] at h4
      cases h4
    · split at h4
      · rw [show k = .nil from Fr.len0 (beq_iff_eq.1 h4)]; trivial
      · simp only [Bool.and_eq_true] at h4
        exact ihk h4.2.2
theorem co_vok {f : Fr} : ∀ {m : Nat}, coF m f = true → f.vok := by
  induction f with
  | nil => intro m _; trivial
  | cons x k r ihk ihr =>
    intro m h
    unfold coF at h
    rw [Bool.and_eq_true] at h
    obtain ⟨h1, h2⟩ := h
    refine ⟨?_, ?_, ihr h2⟩
    · split at h1
      · split at h1
        · simp only [Bool.and_eq_true, decide_eq_true_eq, beq_iff_eq] at h1
          exact ⟨emq_eq h1.1, fun _ => ⟨h1.2.2.1, h1.2.2.2.1, emq_eq h1.2.1, Fr.len0 h1.2.2.2.2⟩⟩
        · rename_i hk
          rw [Bool.and_eq_true] at h1
          exact ⟨(plnB_ok h1.1).1, fun h => absurd h hk⟩
      · split at h1
        · have := kd_vok (f := .cons x k .nil) (by rw [kdF_cons, h1]; rfl)
          exact this.1
        · simp only [Bool.and_eq_true, beq_iff_eq] at h1
          refine ⟨(plnB_ok h1.2.1).1, fun h => ?_⟩
          have e := h1.1
          unfold fdK at e
          split at e <;> omega
    · split at h1
      · split at h1
        · simp only [Bool.and_eq_true, decide_eq_true_eq, beq_iff_eq] at h1
          rw [Fr.len0 h1.2.2.2.2]; trivial
        · rw [Bool.and_eq_true] at h1
          replace h1 := h1.2
          repeat' split at h1
          · rw [Fr.len0 (beq_iff_eq.1 h1)]; trivial
          · rw [Bool.and_eq_true] at h1; exact ihk h1.2
          · rw [Bool.and_eq_true] at h1; exact ihk h1.2
          · rw [Bool.and_eq_true] at h1; exact ihk h1.2
          · simp only [Bool.and_eq_true] at h1; exact ihk h1.2.2
          · cases h1
      · split at h1
        · have := kd_vok (f := .cons x k .nil) (by rw [kdF_cons, h1]; rfl)
          exact this.2.1
        · simp only [Bool.and_eq_true] at h1
          exact ihk h1.2.2.2.2
theorem coT_F {t : Tr} : coF 0 (.cons t.1 t.2 .nil) = coT t := by rw [coF_0]; exact Bool.and_true _

/-! ### what is moved -/
theorem Fr.mv_len {b c : Int} {f g : Fr} {d : Nat} (h : Fr.mv b c d f = some g) : g.len = f.len ∧ g.sz = f.sz ∧ g.dp = f.dp := by
  induction f generalizing d g with
  | nil => injection h with h; rw [← h]; exact ⟨rfl, rfl, rfl⟩
  | cons x k r ihk ihr =>
    obtain ⟨y, k', r', h1, h2, h3, rfl⟩ := Fr.mv_cons h
    obtain ⟨a1, a2, a3⟩ := ihk h2
    obtain ⟨b1, b2, b3⟩ := ihr h3
    simp only [Fr.len, Fr.sz, Fr.dp, a2, a3, b1, b2, b3]
    exact ⟨trivial, trivial, trivial⟩
theorem mvN_a {b c : Int} {d : Nat} {x y : Nod} (h : mvN b c d x = some y) : y.a = x.a ∧ y.m = ⟨#[]⟩ := by
  unfold mvN at h
  split at h
  · split at h
    · cases h
    · injection h with h; rw [← h]; exact ⟨rfl, rfl⟩
  · injection h with h; rw [← h]; exact ⟨rfl, rfl⟩
theorem mvN_other {b c : Int} {d : Nat} {x y : Nod} (h : mvN b c d x = some y) (hk : ¬ x.k = 110) : y.n = x.n := by
  unfold mvN at h
  rw [if_neg (fun hf => hk hf.1)] at h
  injection h with h
  rw [← h]
  rfl
theorem mvN_var {b c : Int} {d : Nat} {x y : Nod} (h : mvN b c d x = some y) (h0 : 0 ≤ x.n) (h1 : x.n ≤ 65536) : 0 ≤ y.n ∧ y.n ≤ 65536 := by
  unfold mvN at h
  split at h
  · split at h
    · cases h
    · rename_i hn
      injection h with h
      rw [← h]
      show 0 ≤ x.n + b ∧ x.n + b ≤ 65536
      omega
  · injection h with h
    rw [← h]
    exact ⟨h0, h1⟩
theorem Fr.mv_lb {b c : Int} {rise : Bool} {f g : Fr} {d : Nat} {pre : List ByteArray} (h : Fr.mv b c d f = some g) : lbF rise pre g = lbF rise pre f := by
  induction f generalizing d g pre with
  | nil => injection h with h; rw [← h]
  | cons x k r _ ihr =>
    obtain ⟨y, k', r', h1, h2, h3, rfl⟩ := Fr.mv_cons h
    unfold lbF
    rw [(mvN_a h1).1, ihr h3]
theorem plnB_mv {b c : Int} {d : Nat} {x y : Nod} {nm : Bool} (h : mvN b c d x = some y) (hk : ¬ x.k = 110) (hp : plnB x nm = true) : plnB y nm = true := by
  unfold plnB at hp ⊢
  obtain ⟨h1, h2⟩ := mvN_a h
  rw [h1, h2, mvN_other h hk, emq_nil]
  rw [Bool.and_eq_true] at hp
  rw [hp.2]
  rfl
theorem Fr.mv_kd {b c : Int} {f g : Fr} {d : Nat} (h : Fr.mv b c d f = some g) (hf : kdF f = true) : kdF g = true := by
  induction f generalizing d g with
  | nil => injection h with h; rw [← h]; rfl
  | cons x k r ihk ihr =>
    obtain ⟨y, k', r', h1, h2, h3, rfl⟩ := Fr.mv_cons h
    unfold kdF at hf ⊢
    rw [Bool.and_eq_true, Bool.and_eq_true] at hf ⊢
    obtain ⟨⟨hf1, hf2⟩, hf3⟩ := hf
    have hk : ¬ x.k = 110 := fun hk => by
      rw [hk, if_neg (by decide)] at hf2
      cases hf2
    refine ⟨⟨plnB_mv h1 hk hf1, ?_⟩, ihr h3 hf3⟩
    rw [mvN_k h1, (Fr.mv_len h2).1]
    split
    · rename_i h0
      rw [if_pos h0] at hf2
      exact hf2
    · rename_i h0
      rw [if_neg h0] at hf2
      simp only [Bool.and_eq_true] at hf2 ⊢
      exact ⟨hf2.1, hf2.2.1, ihk h2 hf2.2.2⟩
theorem Fr.mv_co {b c : Int} {f g : Fr} : ∀ {d m : Nat}, Fr.mv b c d f = some g → coF m f = true → coF m g = true := by
  induction f generalizing g with
  | nil => intro d m h _; injection h with h; rw [← h]; rfl
  | cons x k r ihk ihr =>
    intro d m h hf
    obtain ⟨y, k', r', h1, h2, h3, rfl⟩ := Fr.mv_cons h
    have hl := (Fr.mv_len h2).1
    have hb := fun rise pre => Fr.mv_lb (rise := rise) (pre := pre) h2
    have hkk := mvN_k h1
    have ha := mvN_a h1
    unfold coF at hf ⊢
    rw [Bool.and_eq_true] at hf ⊢
    obtain ⟨hf1, hf2⟩ := hf
    refine ⟨?_, ihr h3 hf2⟩
    rw [hkk, hl, hb, hb, ha.1, ha.2, emq_nil]
    by_cases hm0 : m = 0
    · rw [if_pos hm0] at hf1 ⊢
      by_cases h110 : x.k = 110
      · rw [if_pos h110] at hf1 ⊢
        simp only [Bool.and_eq_true, decide_eq_true_eq, beq_iff_eq] at hf1 ⊢
        have hv := mvN_var h1 hf1.2.2.1 hf1.2.2.2.1
        exact ⟨trivial, hf1.2.1, hv.1, hv.2, hf1.2.2.2.2⟩
      · rw [if_neg h110, Bool.and_eq_true] at hf1 ⊢
        refine ⟨plnB_mv h1 h110 hf1.1, ?_⟩
        replace hf1 := hf1.2
        by_cases c1 : 111 ≤ x.k ∧ x.k ≤ 113
        · rw [if_pos c1] at hf1 ⊢; exact hf1
        rw [if_neg c1] at hf1 ⊢
        by_cases c2 : x.k = 114 ∨ x.k = 120
        · rw [if_pos c2, Bool.and_eq_true] at hf1 ⊢; exact ⟨hf1.1, ihk h2 hf1.2⟩
        rw [if_neg c2] at hf1 ⊢
        by_cases c3 : x.k = 115
        · rw [if_pos c3, Bool.and_eq_true] at hf1 ⊢; exact ⟨hf1.1, ihk h2 hf1.2⟩
        rw [if_neg c3] at hf1 ⊢
        by_cases c4 : 117 ≤ x.k ∧ x.k ≤ 119
        · rw [if_pos c4, Bool.and_eq_true] at hf1 ⊢; exact ⟨hf1.1, ihk h2 hf1.2⟩
        rw [if_neg c4] at hf1 ⊢
        by_cases c5 : x.k = 121
        · rw [if_pos c5] at hf1 ⊢
          simp only [Bool.and_eq_true] at hf1 ⊢
          exact ⟨hf1.1, hf1.2.1, ihk h2 hf1.2.2⟩
        rw [if_neg c5] at hf1
        cases hf1
    · rw [if_neg hm0] at hf1 ⊢
      by_cases hm1 : m = 1
      · rw [if_pos hm1] at hf1 ⊢
        have := Fr.mv_kd (f := .cons x k .nil) (Fr.mv_some h1 h2 rfl) (by rw [kdF_cons, hf1]; rfl)
        rw [kdF_cons, Bool.and_eq_true] at this
        exact this.1
      · rw [if_neg hm1] at hf1 ⊢
        simp only [Bool.and_eq_true] at hf1 ⊢
        have h110 : ¬ x.k = 110 := fun h => by
          have e := beq_iff_eq.1 hf1.1
          unfold fdK at e
          split at e <;> omega
        exact ⟨hf1.1, plnB_mv h1 h110 hf1.2.1, hf1.2.2.1, hf1.2.2.2.1, ihk h2 hf1.2.2.2.2⟩
theorem mvT_F {b c : Int} {d : Nat} {t t' : Tr} : mvT b c d t = some t' ↔ Fr.mv b c d (.cons t.1 t.2 .nil) = some (.cons t'.1 t'.2 .nil) := by
  constructor
  · intro h
    unfold mvT at h
    split at h
    · rename_i y k' h1 h2
      injection h with h
      rw [← h]
      exact Fr.mv_some h1 h2 rfl
    · cases h
  · intro h
    obtain ⟨y, k', r', h1, h2, h3, h4⟩ := Fr.mv_cons h
    injection h4 with h5 h6 _
    unfold mvT
    rw [h1, h2]
    show some (y, k') = _
    rw [← h5, ← h6]
theorem mvT_co {b c : Int} {d : Nat} {t t' : Tr} (h : mvT b c d t = some t') (hc : coT t = true) : coT t' = true := by
  rw [← coT_F] at hc ⊢
  exact Fr.mv_co (mvT_F.1 h) hc
theorem mvT_sz {b c : Int} {d : Nat} {t t' : Tr} (h : mvT b c d t = some t') : szT t' = szT t ∧ dpT t' = dpT t := by
  have h1 := Fr.mv_len (mvT_F.1 h)
  simp only [Fr.sz, Fr.dp] at h1
  unfold szT dpT
  omega
end Go.Proofs.YtmiicfdigkkbdaaDoor
namespace Go.Proofs.YtmiicfdigkkbdaaDoor
open Go.RowKit

def Up (W w : World) : Prop := Below W.heap.size W w
theorem Up.refl (W : World) : Up W W := Below.refl _ _
theorem Up.trans {W a b : World} (h : Up W a) (k : Up a b) : Up W b := Below.trans h (Below.mono k h.size)
theorem Up.of {W a b : World} (h : Up W a) (k : Below a.heap.size a b) : Up W b := h.trans k
theorem Up.drew {W a : World} (h : Up W a) : Up W a.drew := Below.drew h
theorem Up.drew1 (W : World) : Up W W.drew := (Up.refl W).drew
theorem Up.drewN {W a : World} (h : Up W a) (q : Nat) : Up W (a.drewN q) := below_drewN' h q
theorem Up.alloc {W a : World} (h : Up W a) (o : Obj) : Up W (a.alloc o) := Below.alloc h h.size o
theorem Up.cell {W a : World} (h : Up W a) {p : Addr} {v : Value} (k : W.cell? p = some v) : a.cell? p = some v := (Below.cell h (cell_lt k)).trans k
theorem Up.row {W a : World} (h : Up W a) {b : Nat} {o : Obj} (k : W.heap[b]? = some o) : a.heap[b]? = some o := (h.block b (heap_lt k)).trans k
def HasT (w : World) (v : Value) (o : Option Tr) : Prop := InO w (fun q => q < w.heap.size) v o
theorem HasT.of {w : World} {S : Nat → Prop} {v : Value} {o : Option Tr} (h : InO w S v o) (hb : Bel S w.heap.size) : HasT w v o := h.keep hb fun _ _ => rfl
theorem HasT.up {W w : World} {v : Value} {o : Option Tr} (h : HasT W v o) (u : Up W w) : HasT w v o := InO.keep h (fun _ hq => Nat.lt_of_lt_of_le hq u.size) fun b hb => u.block b hb
theorem HasT.bel {w : World} : Bel (fun q => q < w.heap.size) w.heap.size := fun _ h => h
structure Upw (W : World) where
  w : World
  h : Up W w
instance (W : World) : Nonempty (Upw W) := ⟨⟨W, Up.refl W⟩⟩
theorem Upw.cell {W : World} {p : Addr} {v : Value} (k : W.cell? p = some v) (u : Upw W) : u.w.cell? p = some v := u.h.cell k
def BoP (b : Bool) (W : World) (e : Ending) (w' : World) : Prop := e = .returned (.bool b) ∧ Up W w'
def NuP (n : Nat) (W : World) (e : Ending) (w' : World) : Prop := e = .returned (.int .i64 (n : Int)) ∧ Up W w'
end Go.Proofs.YtmiicfdigkkbdaaDoor
namespace Go.Proofs.YtmiicfdigkkbdaaDoor
open Go.RowKit

set_option maxHeartbeats 3200000 in
set_option maxRecDepth 100000 in
theorem refPln {w : World} {Sq : Nat → Prop} {v : Value} {x : Nod} {k : Fr} (nm : Bool) (hin : InT w Sq v (x, k)) :
    Calls Tryd.prog 69 #[v, .bool nm] w fun e w' => e = .returned (.bool (plnB x nm)) ∧ w' = w := by
  obtain ⟨q, p, A, c, rfl, hq1, c0, c1, c2, c3, c4, hc, hkid⟩ := hin.open
  obtain ⟨M, hM⟩ : ∃ M, x.m = M := ⟨_, rfl⟩
  obtain ⟨Z, hZ⟩ : ∃ M, x.n = M := ⟨_, rfl⟩
  obtain ⟨Y, hY⟩ : ∃ M, x.a = M := ⟨_, rfl⟩
  have HP : Hid (plnB x nm = (M.toList.isEmpty && ((Z == 0) && (nm || Y.toList.isEmpty)))) := Lib.hid (by rw [← hM, ← hZ, ← hY]; rfl)
  rw [HP.out]
  rw [hM] at c3
  rw [hZ] at c1
  rw [hY] at c2
  obtain ⟨b1, h1⟩ : ∃ b, M.toList.isEmpty = b := ⟨_, rfl⟩
  obtain ⟨b2, h2⟩ : ∃ b, (Z == 0) = b := ⟨_, rfl⟩
  obtain ⟨b3, h3⟩ : ∃ b, Y.toList.isEmpty = b := ⟨_, rfl⟩
  clear hin hkid HP hM hZ hY c0 c4 hc
  rw [h1, h2, h3]
  cases b1 <;> cases b2 <;> cases nm <;> cases b3
  all_goals
    go_enter Tryd.func69, Tryd.ntmps69
    go_wp2_with fail
    go_ret
    exact ⟨rfl, rfl⟩
theorem Fr.two {f : Fr} (h : f.len = 2) : ∃ x k y l, f = .cons x k (.cons y l .nil) := by
  cases f with
  | nil => cases h
  | cons x k r =>
    cases r with
    | nil => cases h
    | cons y l r =>
      cases r with
      | nil => exact ⟨x, k, y, l, rfl⟩
      | cons z m r => simp only [Fr.len] at h; omega
theorem Fr.one {f : Fr} (h : f.len = 1) : ∃ x k, f = .cons x k .nil := by
  cases f with
  | nil => cases h
  | cons x k r =>
    cases r with
    | nil => exact ⟨x, k, rfl⟩
    | cons y l r => simp only [Fr.len] at h; omega
def DrB (b : Bool) (w : World) (e : Ending) (w' : World) : Prop := e = .returned (.bool b) ∧ ∃ q, w' = w.drewN q
def SbB (b : Bool) (w : World) (e : Ending) (w' : World) : Prop := e = .returned (.bool b) ∧ w' = w
theorem sbb {b c : Bool} {w : World} (h : c = b) : SbB b w (.returned (.bool c)) w := ⟨by rw [h], rfl⟩
theorem drb {b c : Bool} {w : World} (q : Nat) (h : c = b) : DrB b w (.returned (.bool c)) (w.drewN q) := ⟨by rw [h], q, rfl⟩
theorem drb0 {b c : Bool} {w : World} (h : c = b) : DrB b w (.returned (.bool c)) w := ⟨by rw [h], 0, rfl⟩
set_option maxHeartbeats 3200000 in
set_option maxRecDepth 100000 in
theorem refKd : ∀ (n : Nat) (t : Tr), szT t ≤ n → ∀ (w : World) (Sq : Nat → Prop) (v : Value), InT w Sq v t → Calls Tryd.prog 71 #[v] w (SbB (kdT t) w)
  | 0, t, h, _, _, _, _ => absurd h (by unfold szT; omega)
  | n + 1, (x, ks), hn, w, Sq, v, hin => by
    have ih := refKd n
    have cP := refPln false hin
    obtain ⟨q, p, A, c, rfl, hq1, c0, c1, c2, c3, c4, hc, hkid⟩ := hin.open
    obtain ⟨N, hN⟩ : ∃ N, ks.len = N := ⟨_, rfl⟩
    have HV : Hid (kdT (x, ks) = (plnB x false && (if x.k = 100 then N == 0 else x.k == 101 && (N == 2 && kdF ks)))) := Lib.hid (by rw [← hN]; rfl)
    obtain ⟨R, hR⟩ : ∃ R, kdT (x, ks) = R := ⟨_, rfl⟩
    rw [hR] at HV ⊢
    obtain ⟨K, hK⟩ : ∃ K, x.k = K := ⟨_, rfl⟩
    rw [hK] at c0 HV
    rw [hN] at c4
    obtain ⟨b, hb⟩ : ∃ b, plnB x false = b := ⟨_, rfl⟩
    rw [hb] at cP HV
    have hsz : szT (x, ks) = 1 + ks.sz := rfl
    clear hR hb c1 c2 c3 hc hin
    cases b with
    | false =>
      clear hkid ih hsz hn
      go_enter Tryd.func71, Tryd.ntmps71
      go_wp2_with fail
      refine cP.mono ?_
      rintro e w' ⟨rfl, rfl⟩
      go_wp2_with fail
      go_ret
      exact sbb HV.out.symm
    | true =>
      by_cases h0 : K = 100
      · subst h0
        clear hkid ih hsz hn
        by_cases hN0 : N = 0
        · subst hN0
          go_enter Tryd.func71, Tryd.ntmps71
          go_wp2_with fail
          refine cP.mono ?_
          rintro e w' ⟨rfl, rfl⟩
          go_wp2_with fail
          go_ret
          exact sbb HV.out.symm
        · have HR : Hid (R = false) := Lib.hid (by rw [HV.out]; simpa using hN0)
          have hz : ((N : Int) == 0) = false := by rw [beq_eq_false_iff_ne]; omega
          go_enter Tryd.func71, Tryd.ntmps71
          go_wp2_with fail
          refine cP.mono ?_
          rintro e w' ⟨rfl, rfl⟩
          go_wp2_with fail
          go_ret
          exact sbb HR.out.symm
      · by_cases h1 : K = 101 ∧ N = 2
        · obtain ⟨rfl, rfl⟩ := h1
          obtain ⟨a, ka, d, kd, rfl⟩ := Fr.two hN
          obtain ⟨kb, ko, u1, rfl, hkb, hu1, ht1, hk1⟩ := hkid.next
          obtain ⟨kb', ko', u2, he, _, hu2, ht2, _⟩ := hk1.next
          injection he with he
          injection he with e1 e2
          subst e1 e2
          simp only [Fr.sz] at hsz
          have cA := ih (a, ka) (by unfold szT; simp only; omega) w Sq u1 ht1
          have cD := ih (d, kd) (by unfold szT; simp only; omega) w Sq u2 ht2
          have HW : Hid (R = (kdT (a, ka) && kdT (d, kd))) := Lib.hid (by rw [HV.out, kdF_cons, kdF_cons]; show (true && (if (101 : Int) = 100 then _ else _)) = _; rw [if_neg (by decide)]; show (kdT (a, ka) && (kdT (d, kd) && true)) = _; rw [Bool.and_true])
          obtain ⟨r1, hr1⟩ : ∃ r, kdT (a, ka) = r := ⟨_, rfl⟩
          obtain ⟨r2, hr2⟩ : ∃ r, kdT (d, kd) = r := ⟨_, rfl⟩
          rw [hr1] at cA HW
          rw [hr2] at cD HW
          rw [Nat.add_zero] at hu1
          clear hkid hk1 ih hsz hn ht1 ht2 hr1 hr2 hK hN HV
          cases r1 with
          | false =>
            go_enter Tryd.func71, Tryd.ntmps71
            go_wp2_with fail
            refine cP.mono ?_
            rintro e w' ⟨rfl, rfl⟩
            go_wp2_with fail
            refine cA.mono ?_
            rintro e w' ⟨rfl, rfl⟩
            go_wp2_with fail
            go_ret
            exact sbb HW.out.symm
          | true =>
            go_enter Tryd.func71, Tryd.ntmps71
            go_wp2_with fail
            refine cP.mono ?_
            rintro e w' ⟨rfl, rfl⟩
            go_wp2_with fail
            refine cA.mono ?_
            rintro e w' ⟨rfl, rfl⟩
            go_wp2_with fail
            refine cD.mono ?_
            rintro e w' ⟨rfl, rfl⟩
            go_wp2_with fail
            go_ret
            exact sbb HW.out.symm
        · have HR : Hid (R = false) := Lib.hid (by
            rw [HV.out, if_neg h0]
            cases h : ((K == 101) && (N == 2 && kdF ks)) with
            | false => rfl
            | true =>
              simp only [Bool.and_eq_true, beq_iff_eq] at h
              exact absurd ⟨h.1, h.2.1⟩ h1)
          clear hkid ih hsz hn HV
          by_cases h2 : K = 101
          · subst h2
            have h3 : ¬ N = 2 := fun h => h1 ⟨rfl, h⟩
            have hz : ((N : Int) == 2) = false := by rw [beq_eq_false_iff_ne]; omega
            clear h1 hK hN
            go_enter Tryd.func71, Tryd.ntmps71
            go_wp2_with fail
            refine cP.mono ?_
            rintro e w' ⟨rfl, rfl⟩
            go_wp2_with fail
            go_ret
            exact sbb HR.out.symm
          · clear h1 hN
            go_enter Tryd.func71, Tryd.ntmps71
            go_wp2_with fail
            refine cP.mono ?_
            rintro e w' ⟨rfl, rfl⟩
            go_wp2_with fail
            go_ret
            exact sbb HR.out.symm
end Go.Proofs.YtmiicfdigkkbdaaDoor
