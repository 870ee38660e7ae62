/-
  Layer 12, the program's side: what the walk of strays finds and leaves; its steps, plain.
-/
import Derived.Test.YtmiicfdigkkbdaaDoorGt34
import Derived.Deep.CutBlock
namespace Go.Proofs.YtmiicfdigkkbdaaDoor
open Go.RowKit

def AtR (R : List Value) (i : Nat) (a : Value) : Prop := i < R.length ∧ R[R.length - 1 - i]? = some a
theorem AtR.zero {R : List Value} {v a : Value} (h : AtR (R ++ [v]) 0 a) : a = v := by
  obtain ⟨_, h2⟩ := h
  rw [List.length_append, List.length_singleton, show R.length + 1 - 1 - 0 = R.length by omega, List.getElem?_append_right (Nat.le_refl _), Nat.sub_self] at h2
  injection h2 with h2
  exact h2.symm
theorem AtR.head (R : List Value) (v : Value) : AtR (R ++ [v]) 0 v := by
  refine ⟨by rw [List.length_append, List.length_singleton]; omega, ?_⟩
  rw [List.length_append, List.length_singleton, show R.length + 1 - 1 - 0 = R.length by omega, List.getElem?_append_right (Nat.le_refl _), Nat.sub_self]
  rfl
theorem AtR.succ {R : List Value} {v a : Value} {i : Nat} : AtR (R ++ [v]) (i + 1) a ↔ AtR R i a := by
  unfold AtR
  rw [List.length_append, List.length_singleton]
  constructor
  · rintro ⟨h1, h2⟩
    rw [List.getElem?_append_left (by omega), show R.length + 1 - 1 - (i + 1) = R.length - 1 - i by omega] at h2
    exact ⟨by omega, h2⟩
  · rintro ⟨h1, h2⟩
    rw [List.getElem?_append_left (by omega), show R.length + 1 - 1 - (i + 1) = R.length - 1 - i by omega]
    exact ⟨by omega, h2⟩
structure Rdy (w : World) (Sq : Nat → Prop) (R : List Value) (m : Bool) (x : Nod) (ks : Fr) (v : Value) (es : Array MapEntry) (R2 : List Value) (m2 : Bool) (es2 : Array MapEntry) : Prop where
  more : ∀ u, InK es u → InK es2 u
  row : ∃ T : List Value, R2 = R ++ T ∧ T.length ≤ 1
  str : ∀ i a, AtR R2 i a → ocF i m2 ks = true → Str w Sq a
  fin : ∀ es' : Array MapEntry, (∀ u, InK es2 u → InK es' u) → (∀ i a, AtR R2 i a → ocF i m2 ks = true → InK es' a) → (∀ i a, AtR R i a → ocT i m (x, ks) = true → InK es' a) ∧ (innK x.k = 1 → ocF 0 true ks = true → InK es' v)
theorem rdyA {w : World} {Sq : Nat → Prop} {R : List Value} {m : Bool} {x : Nod} {ks : Fr} {v : Value} {es : Array MapEntry} (hin : InT w Sq v (x, ks)) (hk : innK x.k = 1) (hstr : ∀ i a, AtR R i a → ocT i m (x, ks) = true → Str w Sq a) : Rdy w Sq R m x ks v es (R ++ [v]) true es := by
  have h1 : ∀ i, ocT i m (x, ks) = ocF (i + 1) true ks := fun i => by
    unfold ocT
    simp only
    have e1 : ocN i m x = false := by
      unfold ocN
      rw [decide_eq_false]
      intro h
      have h2 := h.1
      unfold innK at hk
      rw [if_neg (by omega)] at hk
      cases hk
    rw [e1, hk, show mayK m x.k = true by unfold mayK; rw [if_pos hk], Bool.false_or]
  refine ⟨fun _ h => h, ⟨[v], rfl, Nat.le_refl _⟩, fun i a ha ho => ?_, fun es' h2 h3 => ⟨fun i a ha ho => ?_, fun _ ho => h3 0 v (AtR.head R v) ho⟩⟩
  · cases i with
    | zero => rw [ha.zero]; exact ⟨x, ks, hin, ho⟩
    | succ i => exact hstr i a (AtR.succ.1 ha) (by rw [h1]; exact ho)
  · rw [h1] at ho
    exact h3 (i + 1) a (AtR.succ.2 ha) ho
theorem rdyB {w : World} {Sq : Nat → Prop} {R : List Value} {m : Bool} {x : Nod} {ks : Fr} {v : Value} {es : Array MapEntry} (hk : innK x.k = 0) (h110 : x.k ≠ 110) (hstr : ∀ i a, AtR R i a → ocT i m (x, ks) = true → Str w Sq a) : Rdy w Sq R m x ks v es R (mayK m x.k) es := by
  have h1 : ∀ i, ocT i m (x, ks) = ocF i (mayK m x.k) ks := fun i => by
    unfold ocT
    simp only
    have e1 : ocN i m x = false := by
      unfold ocN
      rw [decide_eq_false]
      intro h
      exact h110 h.1
    rw [e1, hk, Bool.false_or]
    rfl
  refine ⟨fun _ h => h, ⟨[], (List.append_nil R).symm, Nat.zero_le _⟩, fun i a ha ho => hstr i a ha (by rw [h1]; exact ho), fun es' h2 h3 => ⟨fun i a ha ho => h3 i a ha (by rw [← h1]; exact ho), fun h => by rw [hk] at h; cases h⟩⟩
theorem rdyD {w : World} {Sq : Nat → Prop} {R : List Value} {m : Bool} {x : Nod} {v : Value} {es es2 : Array MapEntry} (h110 : x.k = 110) (hmore : ∀ u, InK es u → InK es2 u) (hat : ∀ i a, AtR R i a → ocN i m x = true → InK es2 a) : Rdy w Sq R m x .nil v es R m es2 := by
  refine ⟨hmore, ⟨[], (List.append_nil R).symm, Nat.zero_le _⟩, (fun i a _ ho => nomatch ho), fun es' h2 _ => ⟨fun i a ha ho => ?_, fun h => ?_⟩⟩
  · have : ocT i m (x, .nil) = ocN i m x := by unfold ocT; simp only; exact Bool.or_false _
    rw [this] at ho
    exact h2 _ (hat i a ha ho)
  · unfold innK at h
    rw [if_neg (by omega)] at h
    cases h
def Fb (mb fb ab wb B0 B : Nat) : Prop := (B0 ≤ mb ∧ B0 ≤ fb ∧ B0 ≤ ab ∧ B0 ≤ wb) ∧ (mb < B ∧ fb < B ∧ ab < B ∧ wb < B) ∧ mb ≠ fb ∧ mb ≠ ab ∧ mb ≠ wb ∧ fb ≠ ab ∧ wb ≠ ab
structure KsSt (w : World) (mb fb ab wb B : Nat) (va : Value) (R : List Value) (es : Array MapEntry) : Prop where
  hm : ∃ ck, w.heap[mb]? = some (.map es ck)
  hf : w.heap[fb]? = some (.cells #[.map (some mb)] 52 (0, 0))
  ha : w.heap[ab]? = some (.cells #[va] 33 (0, 0))
  hw : w.heap[wb]? = some (.cells #[.func (.func 39) #[] #[.pointer (some ⟨ab, 0, none⟩), .pointer (some ⟨fb, 0, none⟩), .pointer (some ⟨wb, 0, none⟩)]] 74 (0, 0))
  row : w.ownsRow B 25 1 va R.length R
theorem KsSt.put {w : World} {mb fb ab wb B0 B : Nat} {va : Value} {R : List Value} {es es' : Array MapEntry} {ck' : Nat} (h : KsSt w mb fb ab wb B va R es) (h4 : Fb mb fb ab wb B0 B) :
    KsSt { w with heap := w.heap.setIfInBounds mb (.map es' ck') } mb fb ab wb B va R es' ∧ Below B0 w { w with heap := w.heap.setIfInBounds mb (.map es' ck') } := by
  obtain ⟨⟨ck, hm⟩, hf, ha, hw, hr⟩ := h
  obtain ⟨⟨b1, b2, b3, b4⟩, ⟨c1, c2, c3, c4⟩, d1, d2, d3, d4, d5⟩ := h4
  have hlt := heap_lt hm
  have hst : ∀ b, b ≠ mb → (w.heap.setIfInBounds mb (.map es' ck'))[b]? = w.heap[b]? := fun b hb => by
    rw [Array.getElem?_setIfInBounds_ne (fun e => hb e.symm)]
  have hg : w.grownBy { w with heap := w.heap.setIfInBounds mb (.map es' ck') } (some mb) := ⟨rfl, rfl, rfl, by simp, fun b _ hne => hst b (fun e => hne (by rw [e]))⟩
  refine ⟨⟨⟨ck', ?_⟩, ?_, ?_, ?_, ?_⟩, ⟨rfl, rfl, rfl, by simp, fun b hb => hst b (by omega)⟩⟩
  · show (w.heap.setIfInBounds mb _)[mb]? = _
    rw [Array.getElem?_setIfInBounds_self_of_lt hlt]
  · show (w.heap.setIfInBounds mb _)[fb]? = _
    rw [hst fb (Ne.symm d1)]; exact hf
  · show (w.heap.setIfInBounds mb _)[ab]? = _
    rw [hst ab (Ne.symm d2)]; exact ha
  · show (w.heap.setIfInBounds mb _)[wb]? = _
    rw [hst wb (Ne.symm d3)]; exact hw
  · exact hr.kept hg (by
      cases hv : va.ownBlock with
      | none => exact .inl rfl
      | some g => exact .inr fun e => by injection e with e; have := (hr.lt g hv).1; omega)
theorem KsSt.push {w w4 : World} {mb fb ab wb B0 B : Nat} {va v4 u : Value} {R : List Value} {es : Array MapEntry} {ob : Obj} (h : KsSt w mb fb ab wb B va R es) (h4 : Fb mb fb ab wb B0 B) (hB : B ≤ w.heap.size)
    (ho4 : w4.ownsRow B 25 1 v4 (R.length + 1) (R ++ [u])) (hg4 : (w.alloc ob).grownBy w4 va.ownBlock) :
    KsSt (w4.setCell ⟨ab, 0, none⟩ v4) mb fb ab wb B v4 (R ++ [u]) es ∧ Below B0 w (w4.setCell ⟨ab, 0, none⟩ v4) := by
  obtain ⟨⟨ck, hm⟩, hf, ha, hw, hr⟩ := h
  obtain ⟨⟨b1, b2, b3, b4⟩, ⟨c1, c2, c3, c4⟩, d1, d2, d3, d4, d5⟩ := h4
  have hrl := hr.lt
  have h4l := ho4.lt
  have hst : ∀ b, b < w.heap.size → b ≠ ab → va.ownBlock ≠ some b → (w4.setCell ⟨ab, 0, none⟩ v4).heap[b]? = w.heap[b]? := by
    intro b h1 h2 h3
    rw [Below.heap_setCell _ _ _ _ h2, hg4.block b (by simp; omega) (fun e => h3 e.symm), Below.heap_alloc _ _ _ h1]
  have hvp : ∀ b, b < B → va.ownBlock ≠ some b := fun b hb e => by have := (hrl b e).1; omega
  have ha4 : w4.heap[ab]? = some (.cells #[va] 33 (0, 0)) := by
    rw [hg4.block ab (by have := heap_lt ha; simp; omega) (fun e => hvp ab c3 e.symm), Below.heap_alloc _ _ _ (heap_lt ha)]
    exact ha
  refine ⟨⟨⟨ck, ?_⟩, ?_, ?_, ?_, ?_⟩, ?_⟩
  · rw [hst mb (heap_lt hm) d2 (hvp mb c1)]; exact hm
  · rw [hst fb (heap_lt hf) d4 (hvp fb c2)]; exact hf
  · rw [block_set _ ha4]; rfl
  · rw [hst wb (heap_lt hw) d5 (hvp wb c4)]; exact hw
  · rw [List.length_append]
    exact own_setCell ho4 _ _ fun g hg => by have := (h4l g hg).1; simp only; omega
  · exact (((Below.refl B0 w).alloc (by omega) ob).grown hg4 (by simp; omega) (fun g hg => by have := (hrl g hg).1; omega)).setCell b3 _
theorem KsSt.pop {w : World} {mb fb ab wb B0 B n cap : Nat} {A : Option Addr} {R T : List Value} {es : Array MapEntry} (h : KsSt w mb fb ab wb B (.slice A n cap) (R ++ T) es) (h4 : Fb mb fb ab wb B0 B) :
    KsSt (w.setCell ⟨ab, 0, none⟩ (.slice A R.length cap)) mb fb ab wb B (.slice A R.length cap) R es ∧ Below B0 w (w.setCell ⟨ab, 0, none⟩ (.slice A R.length cap)) := by
  obtain ⟨⟨ck, hm⟩, hf, ha, hw, hr⟩ := h
  obtain ⟨⟨b1, b2, b3, b4⟩, ⟨c1, c2, c3, c4⟩, d1, d2, d3, d4, d5⟩ := h4
  have hrl := hr.lt
  have hr2 : w.ownsRow B 25 1 (.slice A R.length cap) R.length R := by
    refine ⟨by simp, ?_⟩
    rcases hr.2 with ⟨h1, h0⟩ | ⟨g', cap', cur, h1, hb, hh, hn, hm', hcs, ht⟩
    · injection h1 with h1 _ h2
      subst h1 h2
      rw [List.length_append] at h0
      exact .inl ⟨by rw [show R.length = 0 by omega], by omega⟩
    · injection h1 with h1 _ h2
      subst h1 h2
      refine .inr ⟨g', cap, cur, rfl, hb, hh, by rw [List.length_append] at hn; omega, hm', hcs, ?_⟩
      have h3 := congrArg (List.take (R.length * 1)) ht
      rw [List.take_take, show min (R.length * 1) ((R ++ T).length * 1) = R.length * 1 by rw [List.length_append]; omega] at h3
      rw [h3, Nat.mul_one, List.take_left]
  refine ⟨⟨⟨ck, ?_⟩, ?_, ?_, ?_, ?_⟩, ?_⟩
  · rw [Below.heap_setCell _ _ _ _ d2]; exact hm
  · rw [Below.heap_setCell _ _ _ _ d4]; exact hf
  · rw [block_set _ ha]; rfl
  · rw [Below.heap_setCell _ _ _ _ d5]; exact hw
  · exact own_setCell hr2 _ _ fun g hg => by have := (hr2.lt g hg).1; simp only; omega
  · exact (Below.refl B0 w).setCell b3 _
theorem KsSt.drew {w : World} {mb fb ab wb B : Nat} {va : Value} {R : List Value} {es : Array MapEntry} (h : KsSt w mb fb ab wb B va R es) : KsSt w.drew mb fb ab wb B va R es := by
  obtain ⟨a, b, c, d, e⟩ := h
  exact ⟨a, b, c, d, e⟩
theorem wrap_sub1 (a : Nat) (ha : a ≤ 1000000000) : wrap64 ((a : Int) - 1) = (a : Int) - 1 := by unfold wrap64; omega
theorem wrap_sub2 (a : Nat) (b : Int) (ha : a ≤ 1000000000) (h0 : 0 ≤ b) (h1 : b ≤ 1000000000) : wrap64 ((a : Int) - 1 - b) = (a : Int) - 1 - b := by unfold wrap64; omega
def WkP (mb fb ab wb B0 B : Nat) (Sq : Nat → Prop) (R : List Value) (es : Array MapEntry) (m : Bool) (v : Value) (t : Tr) (w : World) (e : Ending) (w' : World) : Prop :=
  e = .returned (.tuple #[]) ∧ ∃ va' es', KsSt w' mb fb ab wb B va' R es' ∧ Kys w' Sq es' ∧ (∀ u, InK es u → InK es' u) ∧ (∀ i a, AtR R i a → ocT i m t = true → InK es' a) ∧ CovT w' (InK es') v t ∧ Below B0 w w'
def WkAt (n : Nat) : Prop := ∀ (t : Tr), szT t ≤ n → tvok t → ∀ (w : World) (Sq : Nat → Prop) (v : Value) (mb fb ab wb B0 B : Nat) (va : Value) (R : List Value) (es : Array MapEntry) (m : Bool), Fb mb fb ab wb B0 B → B ≤ w.heap.size → Bel Sq B0 → InT w Sq v t →
    KsSt w mb fb ab wb B va R es → Kys w Sq es → (∀ i a, AtR R i a → ocT i m t = true → Str w Sq a) → R.length + szT t ≤ 1000000 →
    Calls Tryd.prog 39 #[v, .bool m, .pointer (some ⟨ab, 0, none⟩), .pointer (some ⟨fb, 0, none⟩), .pointer (some ⟨wb, 0, none⟩)] w (WkP mb fb ab wb B0 B Sq R es m v t w)
def WkIf (n : Nat) (P : Int → Prop) : Prop := ∀ (t : Tr), P t.1.k → szT t ≤ n → tvok t → ∀ (w : World) (Sq : Nat → Prop) (v : Value) (mb fb ab wb B0 B : Nat) (va : Value) (R : List Value) (es : Array MapEntry) (m : Bool), Fb mb fb ab wb B0 B → B ≤ w.heap.size → Bel Sq B0 → InT w Sq v t →
    KsSt w mb fb ab wb B va R es → Kys w Sq es → (∀ i a, AtR R i a → ocT i m t = true → Str w Sq a) → R.length + szT t ≤ 1000000 →
    Calls Tryd.prog 39 #[v, .bool m, .pointer (some ⟨ab, 0, none⟩), .pointer (some ⟨fb, 0, none⟩), .pointer (some ⟨wb, 0, none⟩)] w (WkP mb fb ab wb B0 B Sq R es m v t w)
end Go.Proofs.YtmiicfdigkkbdaaDoor
namespace Go.Proofs.YtmiicfdigkkbdaaDoor
open Go.RowKit

set_option maxHeartbeats 12800000 in
set_option maxRecDepth 100000 in
theorem wkB {n : Nat} (ih : WkAt n) : WkIf (n + 1) (fun k => k = 121 ∨ k = 117 ∨ k = 118 ∨ k = 119) := by
  rintro ⟨x, ks⟩ hkk hn hvok w Sq v mb fb ab wb B0 B va R es m h4 hB hS hin hst hky hstr hRn
  have hkk := hkk
  have hin0 := hin
  obtain ⟨q, p, A, c, rfl, hq1, c0, c1, c2, c3, c4, hc, hkid⟩ := hin.open
  have hqB := hS q hq1
  have hsz : szT (x, ks) = 1 + ks.sz := rfl
  have hll := Fr.len_le ks
  obtain ⟨N, hN⟩ : ∃ N, ks.len = N := ⟨_, rfl⟩
  rw [hN] at c4 hll
  have hN1 : N ≤ 1000000 := by omega
  obtain ⟨RN, hRN⟩ : ∃ RN, R.length = RN := ⟨_, rfl⟩
  have hst' := hst
  obtain ⟨⟨ck, gm⟩, gf, ga, gw, hr⟩ := hst'
  rw [hRN] at hr
  obtain ⟨RA, rc, rfl⟩ := own_slice hr
  have cf : w.cell? ⟨fb, 0, none⟩ = some (.map (some mb)) := cell_of_row w fb 0 _ _ _ gf
  have ca : w.cell? ⟨ab, 0, none⟩ = some (.slice RA RN rc) := cell_of_row w ab 0 _ _ _ ga
  have fa := frozen_of_row w ab 0 _ _ ga
  have haw := heap_lt ga
  have hqw : q < w.heap.size := by have := h4.1.1; have := h4.2.1.1; omega
  have hRNb : RN ≤ 1000000 := by omega
  obtain ⟨K, hK⟩ : ∃ K, x.k = K := ⟨_, rfl⟩
  obtain ⟨XN, hXN⟩ : ∃ XN, x.n = XN := ⟨_, rfl⟩
  rw [hK] at c0
  rw [hXN] at c1
  have k2 : K = 121 ∨ K = 117 ∨ K = 118 ∨ K = 119 := by rw [← hK]; exact hkk
  clear hkk
  have HST := Lib.hid hst
  have HKY := Lib.hid hky
  have HSTR := Lib.hid hstr
  have HIH := Lib.hid ih
  have HS := Lib.hid hS
  have HIN := Lib.hid hin0
  have HKID := Lib.hid hkid
  have HNN := Lib.hid hN
  have HRN := Lib.hid hRN
  have HSZ := Lib.hid hsz
  have HN0 := Lib.hid hn
  have H4 := Lib.hid h4
  have HR := Lib.hid hr
  have HV := Lib.hid hvok
  have HRB := Lib.hid hRn
  have HK := Lib.hid hK
  have HXN := Lib.hid hXN
  have HGM := Lib.hid gm
  obtain ⟨i0, hi, hz0, hz1, hz2⟩ := info_parts infoPtr
  clear hin hin0 hkid hst ih hS hky hstr hN hsz hn h4 hr hvok hRn hK hXN gm gf ga gw hc hRN
  go_enter Tryd.func39, Tryd.ntmps39
  go_upto_block 0 with (fail)
  go_cut [1] (fun mv wx => ∃ (m2 : Bool) (va2 : Value) (R2 : List Value) (es2 : Array MapEntry), mv = .bool m2 ∧ KsSt wx mb fb ab wb B va2 R2 es2 ∧ Kys wx Sq es2 ∧ Below B0 w wx ∧ Rdy w Sq R m x ks (.pointer (some ⟨q, p, none⟩)) es R2 m2 es2)
  case first =>
    have hin1 : Hid (innK x.k = 1) := Lib.hid (by rw [HK.out]; unfold innK; rw [if_pos (by omega)])
    have HRB2 : Hid (R.length + 1 ≤ 1000000) := Lib.hid (by have h1 := HRB.out; have h2 := HSZ.out; omega)
    have hlt := HR.out.lt
    have HLT := Lib.hid hlt
    clear hlt
    rcases k2 with rfl | rfl | rfl | rfl
    all_goals
      go_wp2_with (at_builtin; (refine wpList_append_own_at _ rfl _ _ 33 rfl B 25 i0 (.pointer none) 1 8 Tryd.underlying33 hi hz0 hz1 hz2 rfl (by decide) (.slice RA RN rc) RN R rfl (HR.out.alloc _) ⟨w.heap.size, 0, none⟩ 1 1 [.pointer (some ⟨q, p, none⟩)] rfl rfl (cell_one_new _ _ _) (fun x hx => by simp at hx; subst hx; rfl) (by unfold maxLen; omega) (by omega) (by simp; omega) ?_); intro v4 w4 hown4 hgrow4 _ hat4; obtain ⟨g4, cap4, hv4, _, _⟩ := hown4.form (by omega); subst hv4; have HOWN4 := Lib.hid hown4; have HG4 := Lib.hid hgrow4; have ka4 := (hgrow4.cell_far ⟨ab, 0, none⟩ (by simp; omega) (fun e => by have := (HLT.out ab e.symm).1; have := H4.out.2.1.2.2.1; omega)).trans ((((Below.refl w.heap.size w).alloc (Nat.le_refl _) _).cell (p := ⟨ab, 0, none⟩) haw).trans ca); have fa4 := (hgrow4.frozen_far ⟨ab, 0, none⟩ (by simp; omega) (fun e => by have := (HLT.out ab e.symm).1; have := H4.out.2.1.2.2.1; omega)).trans ((((Below.refl w.heap.size w).alloc (Nat.le_refl _) _).frozen (p := ⟨ab, 0, none⟩) haw).trans fa); clear hown4 hgrow4 hat4)
      go_meet
      obtain ⟨hst5, hb5⟩ := KsSt.push (u := .pointer (some ⟨q, p, none⟩)) HST.out H4.out hB (by rw [HRN.out]; exact HOWN4.out) HG4.out
      refine ⟨true, _, R ++ [.pointer (some ⟨q, p, none⟩)], es, rfl, hst5, HKY.out.keep fun b hb => hb5.block b (HS.out b hb), hb5, rdyA HIN.out hin1.out HSTR.out⟩
  case rest =>
    obtain ⟨m2, va2, R2, es2, rfl, hst2, hky2, hb2, hrd⟩ := hcut
    obtain ⟨T, hT, hTl⟩ := hrd.row
    have c4w := (hb2.cell (p := ⟨q, p + 4, none⟩) hqB).trans c4
    have hwc := hb2.size
    have hR2N : R2.length ≤ RN + 1 := by rw [hT, List.length_append, HRN.out]; omega
    have HRB3 : Hid (R2.length + ks.sz ≤ 1000000) := Lib.hid (by have h1 := HRB.out; have h2 := HSZ.out; rw [HRN.out] at h1; omega)
    have HT := Lib.hid hT
    have HRD := Lib.hid hrd
    have HST2 := Lib.hid hst2
    have HKY2 := Lib.hid hky2
    have HB2 := Lib.hid hb2
    have HWC := Lib.hid hwc
    have HINI : Hid (Kid wc Sq A ks 0) := Lib.hid (HKID.out.keep (fun _ h => h) fun b hb => HB2.out.block b (HS.out b hb))
    clear hst2 hky2 hb2 hrd hT hTl c0 c1 c2 c3 c4 cf ca fa haw hwc hR2N
    go_wp2_with fail
    go_loopw [10, 62] (fun _ i wr => ∃ (j : Nat) (done rest : Fr) (va3 : Value) (es3 : Array MapEntry), i = .int .i64 j ∧ j = done.len ∧ ks = done.app rest ∧ Kid wr Sq A rest j ∧ KsSt wr mb fb ab wb B va3 R2 es3 ∧ Kys wr Sq es3 ∧ (∀ u, InK es2 u → InK es3 u) ∧ (∀ i a, AtR R2 i a → ocF i m2 done = true → InK es3 a) ∧ (∀ kb ko, A = some ⟨kb, ko, none⟩ → CovF w (InK es3) done kb ko) ∧ Below B0 w wr) (fun _ i _ => N - (intOf i).toNat)
    case atStart => exact ⟨0, .nil, ks, va2, es2, rfl, rfl, rfl, HINI.out, HST2.out, HKY2.out, fun _ h => h, (fun _ _ _ h => nomatch h), fun _ _ _ => trivial, HB2.out⟩
    case round =>
      obtain ⟨j, done, rest, va3, es3, rfl, hj, hks, hkid, hst3, hky3, hmo3, hat3, hcv3, hbw⟩ := hrel
      have hl : N = done.len + rest.len := by rw [← HNN.out, hks, Fr.len_app]
      have hss : ks.sz = done.sz + rest.sz := by rw [hks, Fr.sz_app]
      have hrb := HRB3.out
      have hsz := HSZ.out
      have hn := HN0.out
      have hwr := hbw.size
      have HKS := Lib.hid hks
      have HST3 := Lib.hid hst3
      have HKY3 := Lib.hid hky3
      have HMO3 := Lib.hid hmo3
      have HAT3 := Lib.hid hat3
      have HCV3 := Lib.hid hcv3
      have HBW := Lib.hid hbw
      obtain ⟨-, -, ga, gw, hr3⟩ := hst3
      have cw3 : wr.cell? ⟨wb, 0, none⟩ = some (.func (.func 39) #[] #[.pointer (some ⟨ab, 0, none⟩), .pointer (some ⟨fb, 0, none⟩), .pointer (some ⟨wb, 0, none⟩)]) := cell_of_row wr wb 0 _ _ _ gw
      have hwbr := heap_lt gw
      by_cases hlt : 0 < rest.len
      · obtain ⟨y, l, r, rfl⟩ := Fr.cut hlt
        obtain ⟨kb2, ko, u, rfl, hkb, hcell, hu, hnext⟩ := hkid.next
        have hyl : szT (y, l) = 1 + l.sz := rfl
        have hsr : (Fr.cons y l r).sz = 1 + l.sz + r.sz := rfl
        have hlr2 : (Fr.cons y l r).len = r.len + 1 := rfl
        have hjN : j < N := by omega
        have hjz : (j : Int) < (N : Int) := by omega
        have hkbr : kb2 < wr.heap.size := by have := HS.out kb2 hkb; have := H4.out.1.1; have := H4.out.2.1.1; omega
        obtain ⟨q1, o1, rfl⟩ := hu.ptr
        have hBr : B ≤ wr.heap.size := by omega
        have hvk : tvok (y, l) := by
          have h1 := HV.out.2
          rw [HKS.out] at h1
          have h2 : ∀ (a : Fr), (a.app (.cons y l r)).vok → tvok (y, l) := by
            intro a
            induction a with
            | nil => exact fun h => ⟨h.1, h.2.1⟩
            | cons z zk s _ ih => exact fun h => ih h.2.2
          exact h2 _ h1
        have hback : ∀ b, Sq b → w.heap[b]? = wr.heap[b]? := fun b hb => (HBW.out.block b (HS.out b hb)).symm
        have hstr4 : ∀ i a, AtR R2 i a → ocT i m2 (y, l) = true → Str wr Sq a := fun i a ha ho => (HRD.out.str i a ha (by rw [HKS.out, ocF_app, ocF_c, ho]; simp)).keep fun b hb => (hback b hb).symm
        have cI := HIH.out (y, l) (by omega) hvk wr Sq (.pointer (some ⟨q1, o1, none⟩)) mb fb ab wb B0 B va3 R2 es3 m2 H4.out hBr HS.out hu HST3.out HKY3.out hstr4 (by omega)
        have hcw : w.cell? ⟨kb2, ko + j, none⟩ = some (.pointer (some ⟨q1, o1, none⟩)) := (World.cell?_of_block (w := wr) (w' := w) (a := ⟨kb2, ko + j, none⟩) (hback kb2 hkb)).trans hcell
        have HCW := Lib.hid hcw
        have HU := Lib.hid hu
        have HN := Lib.hid hnext
        have HLEN : Hid (j + 1 = (done.app (.cons y l .nil)).len) := Lib.hid (by rw [Fr.len_app]; simp only [Fr.len]; omega)
        have HJ := Lib.hid hj
        clear hkid hks hj hl hss hrb hsz hn hu hnext hsr hlr2 hyl ga gw hr3 hbw hky3 hmo3 hat3 hcv3 hvk hstr4 hcw hback
        go_wp2_with fail
        refine cI.mono ?_
        rintro e w6 ⟨rfl, va6, es6, hst6, hky6, hmo6, hat6, hcv6, hb6⟩
        have HST6 := Lib.hid hst6
        have HKY6 := Lib.hid hky6
        have HMO6 := Lib.hid hmo6
        have HAT6 := Lib.hid hat6
        have HB6 := Lib.hid hb6
        have HCV6 := Lib.hid hcv6
        clear cI hst6 hky6 hmo6 hat6 hb6 hcv6
        go_wp2_with fail
        go_roundw
        case rel =>
          have hball := HBW.out.trans HB6.out
          have hk6 : ∀ b, Sq b → w6.heap[b]? = wr.heap[b]? := fun b hb => HB6.out.block b (HS.out b hb)
          have hbk : ∀ b, Sq b → w.heap[b]? = w6.heap[b]? := fun b hb => (hball.block b (HS.out b hb)).symm
          refine ⟨j + 1, done.app (.cons y l .nil), r, va6, es6, by go_num, HLEN.out, by rw [HKS.out, Fr.app_cons], HN.out.keep (fun _ h => h) hk6, HST6.out, HKY6.out, fun v h => HMO6.out v (HMO3.out v h), fun i a ha ho => ?_, fun kb ko' hA => ?_, hball⟩
          · rw [ocF_app, ocF_c, Bool.or_eq_true, Bool.or_eq_true] at ho
            rcases ho with ho | ho | ho
            · exact HMO6.out a (HAT3.out i a ha ho)
            · exact HAT6.out i a ha ho
            · cases ho
          · injection hA with hA
            injection hA with e1 e2
            subst e1 e2
            have h1 := (HCV3.out kb2 ko rfl).more HMO6.out
            have h2 : CovT w (InK es6) (.pointer (some ⟨q1, o1, none⟩)) (y, l) := HCV6.out.keep (HU.out.keep (fun _ h => h) hk6) hbk
            refine CovF.app h1 ⟨⟨_, by rw [← HJ.out]; exact HCW.out, h2.1, h2.2⟩, trivial⟩
        case measure => simp [intOf]; omega
      · have h0 : rest = .nil := by
          cases rest with
          | nil => rfl
          | cons y l r => exact absurd (Nat.succ_pos _) hlt
        subst h0
        have hjz : ¬ (j : Int) < (N : Int) := by have : (Fr.nil).len = 0 := rfl; omega
        have hfin : ks = done := by rw [hks, Fr.app_nil]
        subst hfin
        have hT := HT.out
        have hst7 := HST3.out
        rw [hT] at hst7 hr3
        obtain ⟨L2, hL2⟩ : ∃ L2, (R ++ T).length = L2 := ⟨_, rfl⟩
        have hL2N : RN ≤ L2 := by rw [← hL2, List.length_append, HRN.out]; omega
        have hL2b : L2 ≤ 1000000 := by rw [← hL2, ← hT]; omega
        rw [hL2] at hr3
        obtain ⟨A3, cap3, rfl⟩ := own_slice hr3
        have hcap3 : L2 ≤ cap3 := by
          rcases hr3.2 with ⟨h1, h2⟩ | ⟨g', cap', cur, h1, _, _, h2, _⟩
          · injection h1 with _ h1 h3; omega
          · injection h1 with _ _ h1; rw [h1]; exact h2
        have hA3 : (A3 = none ∧ L2 = 0 ∧ cap3 = 0) ∨ ∃ g, A3 = some ⟨g, 0, none⟩ := by
          rcases hr3.2 with ⟨h1, h2⟩ | ⟨g', cap', cur, h1, _⟩
          · injection h1 with h0 h1 h3; exact .inl ⟨h0, h1, h3⟩
          · injection h1 with h1 _ _; exact .inr ⟨g', h1⟩
        have ca3 : wr.cell? ⟨ab, 0, none⟩ = some (.slice A3 L2 cap3) := cell_of_row wr ab 0 _ _ _ ga
        have fa3 := frozen_of_row wr ab 0 _ _ ga
        have hpop := KsSt.pop (T := T) hst7 H4.out
        rw [HRN.out] at hpop
        have HPOP := Lib.hid hpop
        clear hkid hks hj hl hss hrb hsz hn ga gw hbw hky3 hmo3 hat3 hcv3 hst7 hpop hr3 hT hL2
        have hend : ∀ (wz : World), wz = wr.setCell ⟨ab, 0, none⟩ (.slice A3 RN cap3) → WkP mb fb ab wb B0 B Sq R es m (.pointer (some ⟨q, p, none⟩)) (x, ks) w (.returned (.tuple #[])) wz := by
          rintro wz rfl
          obtain ⟨hst9, hb9⟩ := HPOP.out
          have hball := HBW.out.trans hb9
          have hf := HRD.out.fin es3 HMO3.out HAT3.out
          refine ⟨rfl, _, es3, hst9, HKY3.out.keep fun b hb => hb9.block b (HS.out b hb), fun v h => HMO3.out v (HRD.out.more v h), hf.1, ?_, hball⟩
          refine CovT.keep (w := w) ?_ HIN.out fun b hb => hball.block b (HS.out b hb)
          obtain ⟨q9, p9, A9, c9, h91, _, _, _, _, _, _, h94, _⟩ := HIN.out
          injection h91 with h91
          injection h91 with h91
          injection h91 with h92 h93
          subst h92 h93
          refine ⟨hf.2, q, p, A, c, rfl, ?_, fun kb ko hA => HCV3.out kb ko hA⟩
          have h5 := (World.cell?_of_block (w := w) (w' := wc) (a := ⟨q, p + 4, none⟩) (HB2.out.block q hqB)).symm.trans c4w
          rw [show ((x, ks) : Tr).2.len = N from HNN.out]
          exact h5
        have HEND := Lib.hid hend
        clear hend
        rcases hA3 with ⟨rfl, rfl, rfl⟩ | ⟨g3, rfl⟩
        · obtain rfl : RN = 0 := by omega
          go_wp2_with fail
          go_end0
          exact HEND.out _ rfl
        · go_wp2_with fail
          go_end0
          exact HEND.out _ rfl
end Go.Proofs.YtmiicfdigkkbdaaDoor
