/-
  Layer 11: the document's First: the path of the first redex.
-/
import Derived.Test.YtmiicfdigkkbdaaDoorGt20
namespace Go.Proofs.YtmiicfdigkkbdaaDoor
open Go.RowKit

def Fr.apk : Fr → Prop
  | .nil => True
  | .cons x k r => (x.k = 120 → 0 < k.len) ∧ k.apk ∧ r.apk
def apkT (t : Tr) : Prop := (t.1.k = 120 → 0 < t.2.len) ∧ t.2.apk
theorem Fr.apk_app {f g : Fr} : (f.app g).apk ↔ f.apk ∧ g.apk := by
  induction f with
  | nil => exact ⟨fun h => ⟨trivial, h⟩, fun h => h.2⟩
  | cons x k r _ ih =>
    show (_ ∧ _ ∧ (r.app g).apk) ↔ (_ ∧ _ ∧ _) ∧ _
    rw [ih]
    exact ⟨fun h => ⟨⟨h.1, h.2.1, h.2.2.1⟩, h.2.2.2⟩, fun h => ⟨h.1.1, h.1.2.1, h.1.2.2, h.2⟩⟩
theorem kd_apk {f : Fr} (h : kdF f = true) : f.apk := by
  induction f with
  | nil => trivial
  | cons x k r ihk ihr =>
    rw [kdF_cons, Bool.and_eq_true] at h
    have hk := kdT_k h.1
    refine ⟨fun h => by omega, ihk ?_, ihr h.2⟩
    have h1 := h.1
    unfold kdT at h1
    rw [Bool.and_eq_true] at h1
    have h3 := h1.2
    split at h3
    · rw [show k = .nil from Fr.len0 (beq_iff_eq.1 h3)]; rfl
    · simp only [Bool.and_eq_true] at h3
      exact h3.2.2
theorem co_apk {f : Fr} : ∀ {m : Nat}, coF m f = true → f.apk := by
  induction f with
  | nil => intro m _; trivial
  | cons x k r ihk ihr =>
    intro m h
    by_cases hm0 : m = 0
    · subst hm0
      rw [coF_0, Bool.and_eq_true] at h
      obtain ⟨m', hk⟩ := co_kids h.1
      refine ⟨fun h120 => ?_, ihk hk, ihr h.2⟩
      have h1 := h.1
      unfold coT at h1
      simp only at h1
      rw [if_neg (by omega), if_neg (by omega), if_pos (by omega)] at h1
      simp only [Bool.and_eq_true, beq_iff_eq] at h1
      have := h1.2.1
      omega
    · by_cases hm1 : m = 1
      · subst hm1
        rw [coF_1, Bool.and_eq_true] at h
        have hk := kdT_k h.1
        refine ⟨fun h => by omega, ?_, ihr h.2⟩
        have := kd_apk (f := .cons x k .nil) (by rw [kdF_cons, h.1]; rfl)
        exact this.2.1
      · rw [coF_f hm0 hm1, Bool.and_eq_true] at h
        have hk := fdT_k h.1
        exact ⟨fun h => by omega, ihk (fd_kids h.1), ihr h.2⟩
theorem co_apkT {t : Tr} (h : coT t = true) : apkT t := by
  have := co_apk (f := .cons t.1 t.2 .nil) (m := 0) (by rw [coT_F]; exact h)
  exact ⟨this.1, this.2.1⟩
theorem fiF_app (a b : Fr) : ∀ i : Int, fiF i (a.app b) = match fiF i a with
    | some p => some p
    | none => fiF (i + (a.len : Int)) b := by
  induction a with
  | nil => intro i; show fiF i b = fiF (i + ((0 : Nat) : Int)) b; rw [show i + ((0 : Nat) : Int) = i by omega]
  | cons x k r _ ih =>
    intro i
    show fiF i (.cons x k (r.app b)) = _
    rw [fiF_cons, fiF_cons]
    cases fiT (x, k) with
    | some p => rfl
    | none =>
      show fiF (i + 1) (r.app b) = match fiF (i + 1) r with
        | some p => some p
        | none => fiF (i + ((r.len + 1 : Nat) : Int)) b
      rw [ih (i + 1), show i + 1 + (r.len : Int) = i + ((r.len + 1 : Nat) : Int) by omega]
end Go.Proofs.YtmiicfdigkkbdaaDoor
namespace Go.Proofs.YtmiicfdigkkbdaaDoor
open Go.RowKit

def StP3 (R : Option Tr × Bool × Int) (W : World) (e : Ending) (w' : World) : Prop := ∃ v, e = .returned (.tuple #[v, .bool R.2.1, .int .i64 R.2.2]) ∧ HasT w' v R.1 ∧ Up W w'
theorem stp3_none {R : Option Tr × Bool × Int} {z : Int} {W w' : World} (h : R = (none, false, z)) (u : Up W w') : StP3 R W (.returned (.tuple #[.pointer none, .bool false, .int .i64 z])) w' := ⟨_, by rw [h], by rw [h]; rfl, u⟩
def TeP (R : Option Tr × Int) (W : World) (e : Ending) (w' : World) : Prop := ∃ v, e = .returned (.tuple #[v, .int .i64 R.2]) ∧ HasT w' v R.1 ∧ Up W w'
theorem tep_none {R : Option Tr × Int} {z : Int} {W w' : World} (h : R = (none, z)) (u : Up W w') : TeP R W (.returned (.tuple #[.pointer none, .int .i64 z])) w' := ⟨_, by rw [h], by rw [h]; rfl, u⟩
theorem st_sz {t m : Tr} (h : stR (some t) = (some m, true, 0)) : szT t ≤ 65536 ∧ szT m ≤ 131072 := by
  rcases st_cases t with ⟨_, h1⟩ | ⟨_, _, h1⟩ | ⟨h0, p, u, b, a, hf, ha, _, _, _, _, _, _, _, ⟨s, h5, h1⟩ | ⟨e, _, _, h1⟩⟩
  · rw [h1] at h; cases h
  · rw [h1] at h; cases h
  · rw [h1] at h
    injection h with h _
    injection h with h
    have h2 := with_sz p t s u ha
    have h3 := (sb_szm h5)
    obtain ⟨_, e, h4, _⟩ := ckE_ok h0
    injection e with e
    subst e
    rw [← h]
    omega
  · rw [h1] at h; cases h
theorem nf_sz {m : Tr} (h : stR (some m) = (none, false, 0)) : szT m ≤ 65536 := by
  obtain ⟨_, e, h4, _⟩ := ckE_ok (st_ck h)
  injection e with e
  subst e
  exact h4
end Go.Proofs.YtmiicfdigkkbdaaDoor
namespace Go.Proofs.YtmiicfdigkkbdaaDoor
open Go.RowKit

def ErU (R : Option Tr × Int) (W : World) (e : Ending) (w' : World) : Prop := ∃ v, e = .returned (.tuple #[v, .int .i64 R.2]) ∧ Up W w' ∧ HasT w' v R.1
theorem ErH.u {R : Option Tr × Int} {W w' : World} {e : Ending} (h : ErH R W e w') : ErU R W e w' := by
  obtain ⟨v, h1, h2, h3⟩ := h
  exact ⟨v, h1, h3, h2⟩
theorem hasT_nw {w : World} {v : Value} {t : Tr} : HasT w v (some t) ↔ NwT (default : World) w v t :=
  ⟨fun h => InT.keep (t := t) h (fun _ hq => ⟨Nat.zero_le _, hq⟩) fun _ _ => rfl, fun h => NwT.has h⟩
theorem two_has {w : World} {va vb : Value} {a b : Tr} (k : Int) (ha : HasT w va (some a)) (hb : HasT w vb (some b)) :
    HasT ((w.alloc (.cells #[va, vb] 25)).alloc (.cells #[.int .i64 k, .int .i64 0, .string ⟨#[]⟩, .string ⟨#[]⟩, .slice (some ⟨w.heap.size, 0, none⟩) 2 2] 40)) (.pointer (some ⟨w.heap.size + 1, 0, none⟩)) (some (⟨k, 0, ⟨#[]⟩, ⟨#[]⟩⟩, .cons a.1 a.2 (.cons b.1 b.2 .nil))) :=
  hasT_nw.2 (two_hasN (Nat.zero_le _) (hasT_nw.1 ha) (hasT_nw.1 hb))
theorem leaf_has {w : World} (k : Int) : HasT (w.alloc (.cells #[.int .i64 k, .int .i64 0, .string ⟨#[]⟩, .string ⟨#[]⟩, .slice none 0 0] 40)) (.pointer (some ⟨w.heap.size, 0, none⟩)) (some (⟨k, 0, ⟨#[]⟩, ⟨#[]⟩⟩, .nil)) :=
  hasT_nw.2 (leaf_hasN (W := default) (x := ⟨k, 0, ⟨#[]⟩, ⟨#[]⟩⟩) (Nat.zero_le _))
def lfT (k : Int) : Tr := (⟨k, 0, ⟨#[]⟩, ⟨#[]⟩⟩, .nil)
def twT (k : Int) (a b : Tr) : Tr := (⟨k, 0, ⟨#[]⟩, ⟨#[]⟩⟩, .cons a.1 a.2 (.cons b.1 b.2 .nil))
theorem HasT.next {w : World} {v : Value} {o : Option Tr} (h : HasT w v o) (b : Obj) : HasT (w.alloc b) v o := h.up ((Up.refl _).alloc _)
end Go.Proofs.YtmiicfdigkkbdaaDoor
namespace Go.Proofs.YtmiicfdigkkbdaaDoor
open Go.RowKit

theorem star_kd : kdT starT = true := by
  unfold kdT starT
  simp only
  rw [pln_lit]
  rfl
theorem kar_kd {a b : Tr} (ha : kdT a = true) (hb : kdT b = true) : kdT (karT a b) = true := by
  unfold kdT karT
  simp only
  rw [pln_lit, kdF_cons, kdF_cons, show ((a.1, a.2) : Tr) = a from rfl, show ((b.1, b.2) : Tr) = b from rfl, ha, hb]
  rfl
theorem okS_star {e : Nat} {k : Tr} (h : okS e = .ok k) : k = starT := by
  cases e with
  | zero => injection h with h; exact h.symm
  | succ e => cases h
theorem of_good {s : Bool} : ∀ (n : Nat) (t : Tr), szT t ≤ n → coT t = true → ∀ (c : List Tr) (M : Nat), (∀ k ∈ c, kdT k = true ∧ szT k ≤ M) → ∀ k, ofT s c t = .ok k → kdT k = true ∧ szT k ≤ 2 * szT t + M
  | 0, t, h, _, _, _, _, _, _ => absurd h (by unfold szT; omega)
  | n + 1, (x, ks), hn, hc, c, M, hM, k, hk => by
    have ih := of_good (s := s) n
    have hsz : szT (x, ks) = 1 + ks.sz := rfl
    have hst : kdT starT = true ∧ szT starT ≤ 2 * szT (x, ks) + M := ⟨star_kd, by show 1 + 0 ≤ _; omega⟩
    have hk : ofX s c x ks (fun c' => ofF s c' ks) = .ok k := hk
    unfold ofX at hk
    by_cases c1 : x.k = 110
    · rw [if_pos c1] at hk
      have := hM k (List.mem_of_getElem? (va_ok hk))
      exact ⟨this.1, by omega⟩
    rw [if_neg c1] at hk
    by_cases c2 : x.k = 114 ∨ x.k = 115
    · rw [if_pos c2] at hk; rw [okS_star hk]; exact hst
    rw [if_neg c2] at hk
    by_cases c3 : x.k = 117 ∨ x.k = 118
    · rw [if_pos c3] at hk; rw [okS_star hk]; exact hst
    rw [if_neg c3] at hk
    have hc' := hc
    unfold coT at hc'
    simp only at hc'
    rw [if_neg c1, Bool.and_eq_true] at hc'
    replace hc' := hc'.2
    by_cases c4 : x.k = 119
    · rw [if_pos c4] at hk
      rw [if_neg (by omega), if_neg (by omega), if_neg (by omega), if_pos (by omega), Bool.and_eq_true] at hc'
      obtain ⟨z, zk, b, bk, rfl⟩ := Fr.two (beq_iff_eq.1 hc'.1)
      have h2 := hc'.2
      rw [coF_1, coF_0, Bool.and_eq_true, Bool.and_eq_true] at h2
      have hk : laX (z, zk) (ofT s ((z, zk) :: c) (b, bk)) = .ok k := hk
      cases hB : ofT s ((z, zk) :: c) (b, bk) with
      | error e => rw [hB] at hk; cases hk
      | ok T =>
        rw [hB] at hk
        injection hk with hk
        have hz1 : szT (z, zk) = 1 + zk.sz := rfl
        have hz2 : szT (b, bk) = 1 + bk.sz := rfl
        have hz3 : (Fr.cons z zk (.cons b bk .nil)).sz = 1 + zk.sz + (1 + bk.sz + 0) := rfl
        obtain ⟨g1, g2⟩ := ih (b, bk) (by omega) h2.2.1 ((z, zk) :: c) (max M (szT (z, zk))) (fun q hq => by
          rcases List.mem_cons.1 hq with rfl | hq
          · exact ⟨h2.1, by omega⟩
          · have := hM q hq; exact ⟨this.1, by omega⟩) T hB
        rw [← hk]
        refine ⟨kar_kd h2.1 g1, ?_⟩
        show 1 + (1 + zk.sz + (1 + T.2.sz + 0)) ≤ _
        have hz4 : szT T = 1 + T.2.sz := rfl
        omega
    rw [if_neg c4] at hk
    by_cases c5 : x.k = 120
    · rw [if_pos c5] at hk
      rw [if_neg (by omega), if_pos (by omega), Bool.and_eq_true] at hc'
      obtain ⟨z, zk, b, bk, rfl⟩ := Fr.two (beq_iff_eq.1 hc'.1)
      have h2 := hc'.2
      rw [coF_0, coF_0, Bool.and_eq_true, Bool.and_eq_true] at h2
      have hk : apX (ofT s c (z, zk)) (ofT s c (b, bk)) = .ok k := hk
      cases hA : ofT s c (z, zk) with
      | error e => rw [hA] at hk; cases hk
      | ok f =>
        rw [hA] at hk
        cases hB : ofT s c (b, bk) with
        | error e => rw [hB] at hk; cases hk
        | ok T =>
          rw [hB] at hk
          have hz1 : szT (z, zk) = 1 + zk.sz := rfl
          have hz3 : (Fr.cons z zk (.cons b bk .nil)).sz = 1 + zk.sz + (1 + bk.sz + 0) := rfl
          obtain ⟨g1, g2⟩ := ih (z, zk) (by omega) h2.1 c M hM f hA
          unfold apX at hk
          simp only at hk
          by_cases c6 : f.1.k = 101
          · rw [if_pos c6] at hk
            have g3 := kd_kids (x := f.1) (k := f.2) g1
            have hfs : szT f = 1 + f.2.sz := rfl
            split at hk
            · rename_i a ka y l r hf2
              split at hk
              · injection hk with hk
                rw [hf2] at g3 hfs
                rw [kdF_cons, kdF_cons, Bool.and_eq_true, Bool.and_eq_true] at g3
                rw [← hk]
                refine ⟨g3.2.1, ?_⟩
                have hfz : (Fr.cons a ka (.cons y l r)).sz = 1 + ka.sz + (1 + l.sz + r.sz) := rfl
                show 1 + l.sz ≤ _
                omega
              · cases hk
            · cases hk
          · rw [if_neg c6] at hk; cases hk
    rw [if_neg c5] at hk
    by_cases c6 : x.k = 121
    · rw [if_pos c6] at hk
      split at hk
      · split at hk
        · cases hk
        · injection hk with hk; rw [← hk]; exact hst
      · rw [okS_star hk]; exact hst
    rw [if_neg c6] at hk
    by_cases c7 : x.k = 116 ∨ x.k = 122
    · exfalso
      rw [if_neg (by omega), if_neg (by omega), if_neg (by omega), if_neg (by omega), if_neg (by omega)] at hc'
      cases hc'
    rw [if_neg c7] at hk
    injection hk with hk
    rw [← hk]
    exact hst

/-! ### contexts -/
def Cx (w : World) (v : Value) (c : List Tr) : Prop := (c = [] ∧ v = .slice none 0 0) ∨ ∃ b o n, v = .slice (some ⟨b, o, none⟩) c.length n ∧ c.length ≤ n ∧ b < w.heap.size ∧ ∀ (j : Nat) (t : Tr), c[j]? = some t → ∃ u, w.cell? ⟨b, o + j, none⟩ = some u ∧ HasT w u (some t)
theorem Cx.up {W w : World} {v : Value} {c : List Tr} (h : Cx W v c) (u : Up W w) : Cx w v c := by
  rcases h with h | ⟨b, o, n, hv, hn, hb, hc⟩
  · exact .inl h
  · refine .inr ⟨b, o, n, hv, hn, Nat.lt_of_lt_of_le hb u.size, fun j t ht => ?_⟩
    obtain ⟨x, h1, h2⟩ := hc j t ht
    exact ⟨x, u.cell h1, h2.up u⟩
end Go.Proofs.YtmiicfdigkkbdaaDoor
namespace Go.Proofs.YtmiicfdigkkbdaaDoor
open Go.RowKit

theorem ofT_eq (s : Bool) (c : List Tr) (x : Nod) (ks : Fr) : ofT s c (x, ks) = ofX s c x ks (fun c' => ofF s c' ks) := rfl
def KxP (R : Kx) (W : World) (e : Ending) (w' : World) : Prop := ∃ oq, e = .returned (.tuple #[.pointer oq, .int .i64 ((kxE R : Nat) : Int)]) ∧ (∀ t, R = .ok t → HasT w' (.pointer oq) (some t)) ∧ Up W w'
theorem KxP.two {R : Kx} {f : FuncId} {args : Array Value} {w : World} (h : Calls Tryd.prog f args w (KxP R w)) : (∀ e, R = .error e → Calls Tryd.prog f args w fun en w' => ∃ oq, en = .returned (.tuple #[.pointer oq, .int .i64 ((e + 1 : Nat) : Int)]) ∧ Up w w') ∧ (∀ t, R = .ok t → Calls Tryd.prog f args w fun en w' => ∃ v, en = .returned (.tuple #[v, .int .i64 0]) ∧ HasT w' v (some t) ∧ Up w w') := by
  constructor
  · rintro e rfl
    exact h.mono fun _ _ ⟨v, h1, _, h3⟩ => ⟨v, h1, h3⟩
  · rintro t rfl
    exact h.mono fun _ _ ⟨v, h1, h2, h3⟩ => ⟨.pointer v, h1, h2 t rfl, h3⟩
def GoodC (c : List Tr) (M : Nat) : Prop := ∀ k ∈ c, kdT k = true ∧ szT k ≤ M
theorem Cx.form {w : World} {v : Value} {c : List Tr} (h : Cx w v c) : ∃ A n, v = .slice A c.length n := by
  rcases h with ⟨rfl, rfl⟩ | ⟨b, o, n, rfl, _⟩
  · exact ⟨_, _, rfl⟩
  · exact ⟨_, _, rfl⟩
theorem Cx.at {w : World} {A : Option Addr} {N n : Nat} {c : List Tr} {j : Nat} {t : Tr} (h : Cx w (.slice A N n) c) (hj : c[j]? = some t) : ∃ b o u, A = some ⟨b, o, none⟩ ∧ w.cell? ⟨b, o + j, none⟩ = some u ∧ HasT w u (some t) := by
  rcases h with ⟨rfl, _⟩ | ⟨b, o, n, hv, _, _, hc⟩
  · simp at hj
  · injection hv with hv _ _
    obtain ⟨u, h1, h2⟩ := hc j t hj
    exact ⟨b, o, u, hv, h1, h2⟩
theorem of_fd {s : Bool} {c : List Tr} {m : Nat} {y z : Nod} {l : Fr} (h : fdT m (y, .cons z l .nil) = true) : ofT s c (y, .cons z l .nil) = ofT s c (z, l) := by
  have hk := fdT_k h
  rw [ofT_eq]
  unfold ofX
  rw [if_neg (by omega), if_neg (by omega), if_neg (by omega), if_neg (by omega), if_neg (by omega), if_neg (by omega), if_pos (by omega)]
  rfl
theorem goodC_cons {c : List Tr} {M : Nat} {k : Tr} (hg : GoodC c M) (hk : kdT k = true) : GoodC (k :: c) (max M (szT k)) := fun q hq => by
  rcases List.mem_cons.1 hq with rfl | hq
  · exact ⟨hk, by omega⟩
  · have := hg q hq; exact ⟨this.1, by omega⟩
theorem star_sz : szT starT = 1 := rfl
theorem coT_kinds {x : Nod} {ks : Fr} (h : coT (x, ks) = true) : x.k = 110 ∨ (x.k = 111 ∨ x.k = 112 ∨ x.k = 113) ∨ x.k = 114 ∨ x.k = 120 ∨ x.k = 115 ∨ (x.k = 117 ∨ x.k = 118) ∨ x.k = 119 ∨ x.k = 121 := by
  unfold coT at h
  simp only at h
  by_cases c0 : x.k = 110
  · exact .inl c0
  rw [if_neg c0, Bool.and_eq_true] at h
  have h := h.2
  by_cases c1 : 111 ≤ x.k ∧ x.k ≤ 113
  · omega
  rw [if_neg c1] at h
  by_cases c2 : x.k = 114 ∨ x.k = 120
  · omega
  rw [if_neg c2] at h
  by_cases c3 : x.k = 115
  · omega
  rw [if_neg c3] at h
  by_cases c4 : 117 ≤ x.k ∧ x.k ≤ 119
  · omega
  rw [if_neg c4] at h
  by_cases c5 : x.k = 121
  · omega
  rw [if_neg c5] at h
  cases h
def Cxo (w : World) (v : Value) (c : List (Option Tr)) : Prop := (c = [] ∧ v = .slice none 0 0) ∨ ∃ b o n, v = .slice (some ⟨b, o, none⟩) c.length n ∧ c.length ≤ n ∧ b < w.heap.size ∧ ∀ (j : Nat) (t : Option Tr), c[j]? = some t → ∃ u, w.cell? ⟨b, o + j, none⟩ = some u ∧ HasT w u t
theorem Cxo.up {W w : World} {v : Value} {c : List (Option Tr)} (h : Cxo W v c) (u : Up W w) : Cxo w v c := by
  rcases h with h | ⟨b, o, n, hv, hn, hb, hc⟩
  · exact .inl h
  · refine .inr ⟨b, o, n, hv, hn, Nat.lt_of_lt_of_le hb u.size, fun j t ht => ?_⟩
    obtain ⟨x, h1, h2⟩ := hc j t ht
    exact ⟨x, u.cell h1, h2.up u⟩
theorem Cxo.form {w : World} {v : Value} {c : List (Option Tr)} (h : Cxo w v c) : ∃ A n, v = .slice A c.length n := by
  rcases h with ⟨rfl, rfl⟩ | ⟨b, o, n, rfl, _⟩
  · exact ⟨_, _, rfl⟩
  · exact ⟨_, _, rfl⟩
theorem Cxo.at {w : World} {A : Option Addr} {N n : Nat} {c : List (Option Tr)} {j : Nat} {t : Option Tr} (h : Cxo w (.slice A N n) c) (hj : c[j]? = some t) : ∃ b o u, A = some ⟨b, o, none⟩ ∧ w.cell? ⟨b, o + j, none⟩ = some u ∧ HasT w u t := by
  rcases h with ⟨rfl, _⟩ | ⟨b, o, n, hv, _, _, hc⟩
  · simp at hj
  · injection hv with hv _ _
    obtain ⟨u, h1, h2⟩ := hc j t hj
    exact ⟨b, o, u, hv, h1, h2⟩
theorem Cxo.all {w : World} {v : Value} {c : List Tr} (h : Cxo w v (c.map some)) : Cx w v c := by
  rcases h with ⟨h1, rfl⟩ | ⟨b, o, n, rfl, hn, hb, hc⟩
  · exact .inl ⟨List.map_eq_nil_iff.1 h1, rfl⟩
  · rw [List.length_map] at hn
    refine .inr ⟨b, o, n, by rw [List.length_map], hn, hb, fun j t ht => hc j (some t) (by rw [List.getElem?_map, ht]; rfl)⟩
def cxN (c : List (Option Tr)) : Bool := c.any Option.isNone
def cxB (c : List (Option Tr)) : Bool := c.any fun o => decide (kkE o ≠ 0)
def knR (c : List (Option Tr)) (o : Option Tr) : Option Tr × Int := if cxN c = true then (none, 1) else if ckE o = 0 then (if cxB c = true then (none, 2) else match o with
  | none => (none, 1)
  | some t => match ofT true (c.filterMap id) t with
    | .ok k => (some k, 0)
    | .error e => (none, ((e + 1 : Nat) : Int))) else (none, ckE o)
theorem kk_ok {t : Tr} (h : kkE (some t) = 0) : kdT t = true ∧ szT t ≤ 65536 := by
  unfold kkE at h
  simp only at h
  split at h
  · rename_i h1
    split at h
    · rename_i h2; exact ⟨h2, h1⟩
    · cases h
  · cases h
theorem kk_three (t : Tr) : kkE (some t) = 0 ∨ kkE (some t) = 3 ∨ kkE (some t) = 16 := by
  unfold kkE
  simp only
  split
  · split
    · exact .inl rfl
    · exact .inr (.inr rfl)
  · exact .inr (.inl rfl)
theorem cx_all {c : List (Option Tr)} (h1 : cxN c = false) (h2 : cxB c = false) : ∃ c' : List Tr, c = c'.map some ∧ c.filterMap id = c' ∧ GoodC c' 65536 := by
  induction c with
  | nil => exact ⟨[], rfl, rfl, fun k h => by cases h⟩
  | cons a l ih =>
    unfold cxN at h1
    unfold cxB at h2
    rw [List.any_cons, Bool.or_eq_false_iff] at h1 h2
    cases a with
    | none => cases h1.1
    | some t =>
      obtain ⟨c', e1, e2, e3⟩ := ih h1.2 h2.2
      have hk : kkE (some t) = 0 := by
        have := of_decide_eq_false h2.1
        omega
      refine ⟨t :: c', by rw [List.map_cons, e1], by rw [List.filterMap_cons]; show t :: l.filterMap id = _; rw [e2], fun k hq => ?_⟩
      rcases List.mem_cons.1 hq with rfl | hq
      · exact kk_ok hk
      · exact e3 k hq
theorem tep_any {R : Option Tr × Int} {z : Int} {W w' : World} (h : R = (none, z)) (u : Up W w') : TeP R W (.returned (.tuple #[.pointer none, .int .i64 z])) w' := tep_none h u
end Go.Proofs.YtmiicfdigkkbdaaDoor
namespace Go.Proofs.YtmiicfdigkkbdaaDoor
open Go.RowKit

theorem kn_form (c : List (Option Tr)) (o : Option Tr) : (∃ k, knR c o = (some k, 0)) ∨ (∃ e, e ≠ 0 ∧ knR c o = (none, e)) := by
  unfold knR
  by_cases h1 : cxN c = true
  · rw [if_pos h1]; exact .inr ⟨1, by decide, rfl⟩
  rw [if_neg h1]
  by_cases h2 : ckE o = 0
  · rw [if_pos h2]
    by_cases h3 : cxB c = true
    · rw [if_pos h3]; exact .inr ⟨2, by decide, rfl⟩
    rw [if_neg h3]
    obtain ⟨t, rfl, _⟩ := ckE_ok h2
    simp only
    cases ofT true (c.filterMap id) t with
    | ok k => exact .inl ⟨k, rfl⟩
    | error e => exact .inr ⟨((e + 1 : Nat) : Int), by omega, rfl⟩
  · rw [if_neg h2]; exact .inr ⟨_, h2, rfl⟩
def fiE (o : Option Tr) : Int := if ckE o = 0 then (match o with
  | some t => if t.1.k = 121 then ((fitE t.2 : Nat) : Int) else 16
  | none => 1) else ckE o
set_option maxHeartbeats 6400000 in
set_option maxRecDepth 100000 in
theorem refFits (o : Option Tr) {w : World} {v : Value} (hv : HasT w v o) (hz : szO o ≤ 131072) :
    Calls Tryd.prog 9 #[v] w (InP (fiE o) w) := by
  have cC := refCheck (w := w) (Sq := fun q => q < w.heap.size) (v := v) o hv (by omega)
  by_cases h0 : ckE o = 0
  · obtain ⟨t, rfl, hz1, hco⟩ := ckE_ok h0
    obtain ⟨x, ks⟩ := t
    obtain ⟨K, hK⟩ : ∃ K, x.k = K := ⟨_, rfl⟩
    have HR : Hid (fiE (some (x, ks)) = if K = 121 then ((fitE ks : Nat) : Int) else 16) := Lib.hid (by unfold fiE; rw [if_pos h0]; simp only; rw [hK])
    rw [h0] at cC
    have CF : Hid (x.k = 121 → ∀ W, Up w W → Calls Tryd.prog 22 #[v] W (DrI (fitE ks : Nat) W)) := Lib.hid fun h W hu => refFit x ks (by omega) hco h W _ v (HasT.up hv hu)
    obtain ⟨q, p, A, cc, rfl, hq, c0, _⟩ := InT.open (x := x) (ks := ks) hv
    rw [hK] at c0 CF
    obtain ⟨F, hF⟩ : ∃ F, fitE ks = F := ⟨_, rfl⟩
    rw [hF] at HR CF
    clear hv hz h0 hco hK hz1 hF
    by_cases h : K = 121
    · subst h
      have cF := CF.out rfl
      have CF2 := Lib.hid cF
      clear cF CF
      go_enter Tryd.func9, Tryd.ntmps9
      go_wp2_with fail
      refine cC.mono ?_
      rintro e w2 ⟨rfl, q2, rfl⟩
      go_wp2_with fail
      refine (CF2.out _ ((Up.refl w).drewN q2)).mono ?_
      rintro e w3 ⟨rfl, q3, rfl⟩
      go_wp2_with fail
      go_ret
      exact ⟨by rw [HR.out]; rfl, (Up.refl w).drewN _⟩
    · have h9 : (K != 121) = true := by rw [bne_iff_ne]; exact h
      clear CF
      go_enter Tryd.func9, Tryd.ntmps9
      go_wp2_with fail
      refine cC.mono ?_
      rintro e w2 ⟨rfl, q2, rfl⟩
      go_wp2_with fail
      go_ret
      exact ⟨by rw [HR.out, if_neg h]; rfl, (Up.refl w).drewN _⟩
  · have HR : Hid (fiE o = ckE o) := Lib.hid (by unfold fiE; rw [if_neg h0])
    obtain ⟨E, hE⟩ : ∃ E, ckE o = E := ⟨_, rfl⟩
    have h9 : (E != 0) = true := by rw [bne_iff_ne, ← hE]; exact h0
    rw [hE] at cC HR
    clear h0 hE hv hz
    go_enter Tryd.func9, Tryd.ntmps9
    go_wp2_with fail
    refine cC.mono ?_
    rintro e w2 ⟨rfl, q2, rfl⟩
    go_wp2_with fail
    go_ret
    exact ⟨by rw [HR.out]; rfl, (Up.refl w).drewN _⟩

/-! ### the law's context -/
def PtO (w : World) (S : Nat → Prop) (vs : List Value) (L : List (Option Tr)) : Prop := vs.length = L.length ∧ ∀ (j : Nat) (t : Option Tr), L[j]? = some t → ∃ u, vs[j]? = some u ∧ InO w S u t
theorem PtO.keep {w w' : World} {S S' : Nat → Prop} {vs : List Value} {L : List (Option Tr)} (h : PtO w S vs L) (hS : ∀ q, S q → S' q) (hk : ∀ b, S b → w'.heap[b]? = w.heap[b]?) : PtO w' S' vs L :=
  ⟨h.1, fun j t ht => by obtain ⟨u, h1, h2⟩ := h.2 j t ht; exact ⟨u, h1, h2.keep hS hk⟩⟩
theorem PtO.snoc {w : World} {S : Nat → Prop} {vs : List Value} {L : List (Option Tr)} {u : Value} {t : Option Tr} (h : PtO w S vs L) (hu : InO w S u t) : PtO w S (vs ++ [u]) (L ++ [t]) := by
  refine ⟨by rw [List.length_append, List.length_append, h.1]; rfl, fun j s hj => ?_⟩
  by_cases hlt : j < L.length
  · rw [List.getElem?_append_left hlt] at hj
    obtain ⟨y, h1, h2⟩ := h.2 j s hj
    exact ⟨y, by rw [List.getElem?_append_left (by rw [h.1]; exact hlt)]; exact h1, h2⟩
  · rw [List.getElem?_append_right (by omega)] at hj
    have hj0 : j - L.length = 0 := by
      have := (List.getElem?_eq_some_iff.1 hj).1
      simp only [List.length_singleton] at this
      omega
    rw [hj0] at hj
    injection hj with hj
    subst hj
    exact ⟨u, by rw [List.getElem?_append_right (by rw [h.1]; omega), h.1, hj0]; rfl, hu⟩
def OwnO (w : World) (H : Nat) (v : Value) (L : List (Option Tr)) : Prop := ∃ ps, w.ownsRow H 25 1 v L.length ps ∧ PtO w (So H w v) ps L
theorem OwnO.nil (w : World) (H : Nat) : OwnO w H (.slice none 0 0) [] := ⟨[], World.ownsRow_nil _ _ _ _, rfl, fun j t h => by simp at h⟩
theorem InO.one {w : World} {S : Nat → Prop} {u : Value} {t : Option Tr} (h : InO w S u t) : ∃ oq, u = .pointer oq := by
  cases t with
  | none => exact ⟨none, h⟩
  | some t => obtain ⟨q, p, rfl⟩ := InT.ptr (t := t) h; exact ⟨_, rfl⟩
theorem ptr_more {wa w4 : World} {H : Nat} {vo v' u : Value} {L : List (Option Tr)} {t : Option Tr} {ps : List Value} {ob : Obj} (hp : PtO wa (So H wa vo) ps L) (hu : InO wa (So H wa vo) u t)
    (ho : w4.ownsRow H 25 1 v' (L.length + 1) (ps ++ [u])) (hg : (wa.alloc ob).grownBy w4 vo.ownBlock) (hat : v'.ownBlock = vo.ownBlock ∨ v'.ownBlock = some (wa.heap.size + 1)) : OwnO w4 H v' (L ++ [t]) := by
  have hasz : (wa.alloc ob).heap.size = wa.heap.size + 1 := by simp
  have hs4 := hg.size
  have hk : ∀ q, So H wa vo q → w4.heap[q]? = wa.heap[q]? := by
    rintro q ⟨h1, h2, h3⟩
    exact (hg.block q (by omega) (fun e => h3 e.symm)).trans (((Below.refl wa.heap.size wa).alloc (Nat.le_refl _) ob).block q h2)
  have hS : ∀ q, So H wa vo q → So H w4 v' q := by
    rintro q ⟨h1, h2, h3⟩
    refine ⟨h1, by omega, ?_⟩
    rcases hat with h | h
    · rw [h]; exact h3
    · rw [h]; intro e; injection e with e; omega
  refine ⟨ps ++ [u], by rw [List.length_append]; exact ho, (hp.snoc hu).keep hS hk⟩
theorem OwnO.cxo {w : World} {H : Nat} {v : Value} {L : List (Option Tr)} (h : OwnO w H v L) : Cxo w v L := by
  obtain ⟨ps, h1, h2⟩ := h
  rcases h1.2 with ⟨hv, h0⟩ | ⟨g, cap, cur, hv, hg, hh, hc, _⟩
  · exact .inl ⟨List.length_eq_zero_iff.1 h0, hv⟩
  · refine .inr ⟨g, 0, cap, hv, hc, heap_lt hh, fun j t ht => ?_⟩
    obtain ⟨u, hu, hs⟩ := h2.2 j t ht
    have h3 := h1.cells (g := g) (by rw [hv]; rfl) j u hu
    have e1 : (⟨g, 0, none⟩ : Addr).add j = ⟨g, 0 + j, none⟩ := by unfold Addr.add; split <;> simp_all
    rw [e1] at h3
    exact ⟨u, h3, HasT.of hs fun q hq => hq.2.1⟩
def Cln (w : World) (B : Nat) (v : Value) (L : List (List Cel)) : Prop := ∃ A n, v = .slice A L.length n ∧ L.length ≤ n ∧ ∀ (j : Nat) (cs : List Cel), L[j]? = some cs → ∃ b o u, A = some ⟨b, o, none⟩ ∧ b < B ∧ w.cell? ⟨b, o + j, none⟩ = some u ∧ Cls w B u cs
theorem Cln.upp {W w : World} {v : Value} {L : List (List Cel)} (h : Cln W W.heap.size v L) (u : Up W w) : Cln w w.heap.size v L := by
  obtain ⟨A, n, hv, hn, hc⟩ := h
  refine ⟨A, n, hv, hn, fun j cs hj => ?_⟩
  obtain ⟨b, o, x, h1, h2, h3, h4⟩ := hc j cs hj
  exact ⟨b, o, x, h1, Nat.lt_of_lt_of_le h2 u.size, u.cell h3, h4.upp u⟩
noncomputable def ctxL (L : List (List Cel)) : List (Option Tr) := (L.take 5).map kept
set_option maxHeartbeats 6400000 in
set_option maxRecDepth 100000 in
theorem ctxAny (L : List (List Cel)) {w : World} {v : Value} (h : Cln w w.heap.size v L) (hf : ∀ cs ∈ L, ∀ c ∈ cs, fitD c) :
    Calls Tryd.prog 11 #[v] w fun e w' => ∃ v, e = .returned v ∧ Cxo w' v (ctxL L) ∧ Up w w' := by
  obtain ⟨A, n, rfl, hn, hc⟩ := h
  obtain ⟨N, hN⟩ : ∃ N, L.length = N := ⟨_, rfl⟩
  rw [hN] at hn ⊢
  have HC := Lib.hid hc
  have HF := Lib.hid hf
  have HN := Lib.hid hN
  obtain ⟨H, hH⟩ : ∃ H, w.heap.size = H := ⟨_, rfl⟩
  have HH := Lib.hid hH
  obtain ⟨i0, hi, hz0, hz1, hz2⟩ := info_parts infoPtr
  clear hc hf hN hH
  go_enter Tryd.func11, Tryd.ntmps11
  go_wp2_with fail
  go_loopw [3, 4] (fun vo j wr => ∃ (k : Nat), j = .int .i64 k ∧ k ≤ N ∧ k ≤ 5 ∧ OwnO wr H vo ((L.take k).map kept) ∧ Up w wr) (fun _ j _ => N - (intOf j).toNat)
  case atStart => exact ⟨0, rfl, Nat.zero_le _, Nat.zero_le _, OwnO.nil _ _, Up.refl _⟩
  case round =>
    obtain ⟨k, rfl, hk, hk5, hown, hup⟩ := hrel
    have HUP := Lib.hid hup
    have hus := hup.size
    rw [HH.out] at hus
    obtain ⟨ps, hro, hpp⟩ := hown
    have HRO := Lib.hid hro
    have HPP := Lib.hid hpp
    have hlen : ((L.take k).map kept).length = k := by rw [List.length_map, List.length_take, HN.out]; omega
    rw [hlen] at HRO
    have HLEN := Lib.hid hlen
    clear hup hro hpp hlen
    by_cases hlt : k < N
    · by_cases h5 : k < 5
      · obtain ⟨cs, hcs⟩ : ∃ cs, L[k]? = some cs := ⟨_, List.getElem?_eq_getElem (by rw [HN.out]; exact hlt)⟩
        obtain ⟨b, o, u, rfl, hb, hcell, hcl⟩ := HC.out k cs hcs
        have hcr := HUP.out.cell hcell
        have hkz : (k : Int) < (N : Int) := by omega
        have hk5z : (k : Int) < 5 := by omega
        have cF := few10 cs wr u (hcl.upp HUP.out) (HF.out cs (List.mem_of_getElem? hcs))
        have HT : Hid ((L.take (k + 1)).map kept = (L.take k).map kept ++ [kept cs]) := Lib.hid (by rw [List.take_add_one, hcs, List.map_append]; rfl)
        obtain ⟨CA, cn, hu2, -, -⟩ := id hcl
        subst hu2
        clear hcell hcl hcs
        go_wp2_with fail
        refine cF.mono ?_
        rintro e w2 ⟨v2, rfl, hv2, u2⟩
        have hv2 : InO w2 (Nw wr w2) v2 (kept cs) := hv2
        obtain ⟨oq, rfl⟩ := hv2.one
        have hs2 := u2.size
        have HU2 := Lib.hid u2
        have HRO2 := Lib.hid (own_below HRO.out u2)
        have HLT := Lib.hid (fun g (hg : u3.ownBlock = some g) => HRO.out.lt g hg)
        have HPP2 : Hid (PtO w2 (So H w2 u3) ps ((L.take k).map kept)) := Lib.hid (HPP.out.keep (fun q hq => ⟨hq.1, by have := hq.2.1; omega, hq.2.2⟩) fun q hq => u2.block q hq.2.1)
        have HV2 : Hid (InO w2 (So H w2 u3) (.pointer oq) (kept cs)) := Lib.hid (hv2.keep (fun q hq => ⟨by have := hq.1; omega, hq.2, fun e => by have := HLT.out q e; have := hq.1; omega⟩) fun _ _ => rfl)
        clear u2 hv2 cF
        go_wp2_with (at_builtin; (refine wpList_append_own_at _ rfl _ _ 33 rfl H 25 i0 (.pointer none) 1 8 Tryd.underlying33 hi hz0 hz1 hz2 rfl (by decide) u3 k ps rfl (HRO2.out.alloc _) ⟨w2.heap.size, 0, none⟩ 1 1 [.pointer oq] rfl rfl (cell_one_new _ _ _) (fun x hx => by simp at hx; subst hx; rfl) (by unfold maxLen; omega) (by omega) (by simp; omega) ?_); intro v6 w6 hown6 hgrow6 _ hat6; have HOWN6 := Lib.hid hown6; have HG6 := Lib.hid hgrow6; have HAT6 := Lib.hid hat6; clear hown6 hgrow6 hat6)
        go_roundw
        case rel =>
          refine ⟨k + 1, by go_num, by omega, by omega, ?_, ?_⟩
          · rw [HT.out]
            exact ptr_more HPP2.out HV2.out (by rw [HLEN.out]; exact HOWN6.out) HG6.out (by have := HAT6.out; simpa using this)
          · have h1 : Up w w2 := HUP.out.trans HU2.out
            have h2 : Below w.heap.size w w2 := h1
            exact (h2.alloc (by have := h1.size; omega) _).grown HG6.out (by have := h1.size; simp; omega) (fun g hg => by have := HLT.out g hg; rw [HH.out]; exact this.1)
        case measure => simp [intOf]; omega
      · have hkz : (k : Int) < (N : Int) := by omega
        have hk5z : ¬ (k : Int) < 5 := by omega
        go_wp2_with fail
        go_ret
        refine ⟨_, rfl, ?_, HUP.out⟩
        have e1 : ctxL L = (L.take k).map kept := by unfold ctxL; rw [show k = 5 by omega]
        rw [e1]
        exact OwnO.cxo ⟨ps, by rw [HLEN.out]; exact HRO.out, HPP.out⟩
    · have hkz : ¬ (k : Int) < (N : Int) := by omega
      go_wp2_with fail
      go_ret
      refine ⟨_, rfl, ?_, HUP.out⟩
      have e1 : ctxL L = (L.take k).map kept := by unfold ctxL; rw [List.take_of_length_le (by rw [HN.out]; omega), List.take_of_length_le (by rw [HN.out]; omega)]
      rw [e1]
      exact OwnO.cxo ⟨ps, by rw [HLEN.out]; exact HRO.out, HPP.out⟩
end Go.Proofs.YtmiicfdigkkbdaaDoor
