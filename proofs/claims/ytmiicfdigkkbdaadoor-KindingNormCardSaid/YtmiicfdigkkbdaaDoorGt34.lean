/-
  Layer 12: what is asked of the program's ctor there is what stage 10 proves of it, said by its pieces.
-/
import Derived.Test.YtmiicfdigkkbdaaDoorGt24
import Derived.Test.YtmiicfdigkkbdaaDoorGt33
namespace Go.Proofs.YtmiicfdigkkbdaaDoor
open Go.RowKit

theorem ctT_of {W : World} (h : Pw W) : CtT W := ⟨fun w o v hu hin hz => pShow o w v hin hz (h.up hu)⟩
theorem ctK_of : CtK := ⟨fun w o v hin hz => pKind o w v hin hz, fun w o v hin hz => pFree o w v hin hz⟩
theorem ctB_of : CtB := ⟨fun w o p v u i h1 z1 h2 z2 => (pSubst o p w v u i h1 z1 h2 z2).mono fun _ _ k => k.u⟩
end Go.Proofs.YtmiicfdigkkbdaaDoor
namespace Go.Proofs.YtmiicfdigkkbdaaDoor
open Go.RowKit

def ocN (i : Nat) (m : Bool) (x : Nod) : Bool := decide (x.k = 110 ∧ x.n = (i : Int) ∧ ¬ (m = true ∧ i = 0))
def mayK (m : Bool) (k : Int) : Bool := if innK k = 1 then true else if k = 114 ∨ k = 120 then false else m
def ocF : Nat → Bool → Fr → Bool
  | _, _, .nil => false
  | i, m, .cons x k r => (ocN i m x || ocF (i + innK x.k) (mayK m x.k) k) || ocF i m r
def ocT (i : Nat) (m : Bool) (t : Tr) : Bool := ocN i m t.1 || ocF (i + innK t.1.k) (mayK m t.1.k) t.2
theorem ocF_c (i : Nat) (m : Bool) (x : Nod) (k r : Fr) : ocF i m (.cons x k r) = (ocT i m (x, k) || ocF i m r) := rfl
theorem ocF_app (i : Nat) (m : Bool) (a b : Fr) : ocF i m (a.app b) = (ocF i m a || ocF i m b) := by
  induction a with
  | nil => rfl
  | cons x k r _ ih =>
    show ocF i m (.cons x k (r.app b)) = _
    rw [ocF_c, ocF_c, ih, Bool.or_assoc]
theorem or_pos {a b : Nat} : decide (0 < a + b) = (decide (0 < a) || decide (0 < b)) := by
  by_cases h : 0 < a
  · rw [decide_eq_true h, decide_eq_true (by omega)]; rfl
  · have : a = 0 := by omega
    subst this
    rw [Nat.zero_add]; rfl
theorem oc_ct {f : Fr} : ∀ {i : Nat} {m : Bool}, (i ≠ 0 ∨ m = false) → ocF i m f = decide (0 < Fr.ct 0 i f) := by
  induction f with
  | nil => intro i m _; rfl
  | cons x k r ihk ihr =>
    intro i m h
    show ((ocN i m x || ocF (i + innK x.k) (mayK m x.k) k) || ocF i m r) = decide (0 < (if atV 0 i x then 1 else 0) + Fr.ct 0 (i + innK x.k) k + Fr.ct 0 i r)
    rw [or_pos, or_pos, ihr h, ihk (i := i + innK x.k) (m := mayK m x.k) (by
      unfold mayK
      by_cases h1 : innK x.k = 1
      · exact .inl (by omega)
      · rw [if_neg h1]
        split
        · exact .inr rfl
        · rcases h with h | h
          · exact .inl (by omega)
          · exact .inr h)]
    have h1 : ocN i m x = decide (0 < (if atV 0 i x then 1 else 0)) := by
      unfold ocN
      by_cases h2 : atV 0 i x
      · rw [if_pos h2]
        obtain ⟨a, b, c⟩ := h2
        rw [decide_eq_true (⟨a, by omega, fun hm => by
          rcases h with h | h
          · exact h hm.2
          · rw [h] at hm; cases hm.1⟩)]
        rfl
      · rw [if_neg h2, decide_eq_false (fun hm => h2 ⟨hm.1, by omega, by omega⟩)]
        rfl
    rw [h1]
theorem oc_lo {f : Fr} : (coF 0 f = true → ocF 0 true f = loF false f) ∧ (∀ m, m = 2 ∨ m = 3 → coF m f = true → ocF 0 true f = loF true f) := by
  induction f with
  | nil => exact ⟨fun _ => rfl, fun _ _ _ => rfl⟩
  | cons x k r ihk ihr =>
    constructor
    · intro h
      rw [coF_0, Bool.and_eq_true] at h
      rw [ocF_c, loF_c, ihr.1 h.2]
      congr 1
      have hc := h.1
      unfold ocT loT
      simp only
      by_cases h1 : x.k = 110
      · rw [if_pos h1]
        have hk : k = .nil := by
          unfold coT at hc
          simp only at hc
          rw [if_pos h1] at hc
          simp only [Bool.and_eq_true, beq_iff_eq] at hc
          exact Fr.len0 hc.2.2.2.2
        subst hk
        unfold ocN
        rw [decide_eq_false (fun hm => hm.2.2 ⟨rfl, rfl⟩)]
        rfl
      rw [if_neg h1]
      have h0 : ocN 0 true x = false := by unfold ocN; rw [decide_eq_false (fun hm => h1 hm.1)]
      rw [h0, Bool.false_or]
      by_cases h2 : x.k = 115
      · rw [if_pos h2]
        have e1 : innK x.k = 0 := by unfold innK; rw [if_neg (by omega)]
        have e2 : mayK true x.k = true := by unfold mayK; rw [e1, if_neg (by decide), if_neg (by omega)]
        rw [e1, e2]
        exact ihk.2 2 (.inl rfl) ((co_rows hc).1 h2)
      rw [if_neg h2]
      have h3 : ctT 0 0 (x, k) = Fr.ct 0 (0 + innK x.k) k := by
        show (if atV 0 0 x then 1 else 0) + _ = _
        rw [if_neg (fun hm => h1 hm.1), Nat.zero_add]
      rw [h3]
      by_cases h4 : innK x.k = 1
      · exact oc_ct (.inl (by omega))
      · by_cases h5 : x.k = 114 ∨ x.k = 120
        · exact oc_ct (.inr (by unfold mayK; rw [if_neg h4, if_pos h5]))
        · have hk : k = .nil := by
            unfold coT at hc
            simp only at hc
            rw [if_neg h1, Bool.and_eq_true] at hc
            have h6 := hc.2
            by_cases h9 : 111 ≤ x.k ∧ x.k ≤ 113
            · rw [if_pos h9] at h6
              exact Fr.len0 (beq_iff_eq.1 h6)
            · have h7 : ¬ (117 ≤ x.k ∧ x.k ≤ 119) := fun hh => h4 (by unfold innK; rw [if_pos (.inl hh)])
              have h8 : ¬ x.k = 121 := fun hh => h4 (by unfold innK; rw [if_pos (.inr hh)])
              rw [if_neg h9, if_neg h5, if_neg h2, if_neg h7, if_neg h8] at h6
              cases h6
          subst hk
          rfl
    · intro m hm h
      rw [coF_f (by omega) (by omega), Bool.and_eq_true] at h
      rw [ocF_c, loF_d, ihr.2 m hm h.2]
      congr 1
      have hf := h.1
      have hk := fdT_k hf
      unfold ocT
      simp only
      have e1 : innK x.k = 0 := by unfold innK; rw [if_neg (by omega)]
      have e2 : mayK true x.k = true := by unfold mayK; rw [e1, if_neg (by decide), if_neg (by omega)]
      have e3 : ocN 0 true x = false := by unfold ocN; rw [decide_eq_false (fun hm => by omega)]
      rw [e1, e2, e3, Bool.false_or]
      exact ihk.1 (fd_kids hf)
theorem oc_sum {x : Nod} {k : Fr} (hc : coT (x, k) = true) (h : x.k = 121) : ocF 0 true k = loF true k := oc_lo.2 3 (.inr rfl) ((co_rows hc).2 h)
end Go.Proofs.YtmiicfdigkkbdaaDoor
namespace Go.Proofs.YtmiicfdigkkbdaaDoor
open Go.RowKit

theorem eqN_same (w : World) (a : Addr) : (Op.equal 25 (.pointer (some a)) (.pointer (some a))).run Tryd.prog w = .ok true w := by
  obtain ⟨j, hj, hs⟩ := infoNode
  have h : ∀ d : Nat, (Op.equalIn (d + 1) 25 (.pointer (some a)) (.pointer (some a))).run Tryd.prog w = .ok true w := fun d => by
    simp [Op.equalIn, run_underlying Tryd.underlying25, sizeOf, typeInfo, hj, run_sameAddr_same]
  simp [Op.equal, Op.maxDepth, h 9999]
theorem eqN_other {w : World} {a b : Addr} (hne : a ≠ b) (ha : Pln w a.block) (hb : Pln w b.block) : (Op.equal 25 (.pointer (some a)) (.pointer (some b))).run Tryd.prog w = .ok false w := by
  obtain ⟨j, hj, hs⟩ := infoNode
  obtain ⟨ca, ta, ha⟩ := ha
  obtain ⟨cb, tb, hb⟩ := hb
  have h : ∀ d : Nat, (Op.equalIn (d + 1) 25 (.pointer (some a)) (.pointer (some b))).run Tryd.prog w = .ok false w := fun d => by
    simp [Op.equalIn, run_underlying Tryd.underlying25, sizeOf, typeInfo, hj, hs, run_sameAddr_other w hne ha hb]
  simp [Op.equal, Op.maxDepth, h 9999]
def KeyP (w : World) (l : List MapEntry) : Prop := ∀ e ∈ l, ∃ b : Addr, e.key = .pointer (some b) ∧ Pln w b.block
theorem ask_ptr {w : World} {a : Addr} (ha : Pln w a.block) : ∀ (l : List MapEntry) (n : Nat), KeyP w l →
    ((∀ e ∈ l, e.key ≠ .pointer (some a)) ∧ (Instr.findAsking 25 (.pointer (some a)) l n).run Tryd.prog w = .ok none w) ∨
    ∃ (i : Nat) (e : MapEntry), l[i]? = some e ∧ e.key = .pointer (some a) ∧ (Instr.findAsking 25 (.pointer (some a)) l n).run Tryd.prog w = .ok (some (n + i, e.val)) w
  | [], n, _ => .inl ⟨by simp, by simp [Instr.findAsking]⟩
  | e :: l, n, h => by
    obtain ⟨b, hb, hp⟩ := h e (by simp)
    by_cases hab : a = b
    · subst hab
      refine .inr ⟨0, e, rfl, hb, ?_⟩
      simp [Instr.findAsking, hb, eqN_same]
    · have hq := eqN_other hab ha hp
      rcases ask_ptr ha l (n + 1) (fun e he => h e (by simp [he])) with ⟨h1, h2⟩ | ⟨i, e', h1, h2, h3⟩
      · refine .inl ⟨fun e' he' => ?_, by simp [Instr.findAsking, hb, hq, h2]⟩
        rcases List.mem_cons.1 he' with rfl | he'
        · rw [hb]
          intro hf
          injection hf with hf
          injection hf with hf
          exact hab hf.symm
        · exact h1 e' he'
      · refine .inr ⟨i + 1, e', h1, h2, ?_⟩
        simp [Instr.findAsking, hb, hq, h3]
        omega
theorem findKey_ptr {w : World} {a : Addr} (ha : Pln w a.block) (l : List MapEntry) (h : KeyP w l) :
    ((∀ e ∈ l, e.key ≠ .pointer (some a)) ∧ (Instr.findKey 25 (.pointer (some a)) l).run Tryd.prog w = .ok none w) ∨
    ∃ (i : Nat) (e : MapEntry), l[i]? = some e ∧ e.key = .pointer (some a) ∧ (Instr.findKey 25 (.pointer (some a)) l).run Tryd.prog w = .ok (some (i, e.val)) w := by
  cases l with
  | nil => exact .inl ⟨by simp, by simp [Instr.findKey, run_underlying Tryd.underlying25, Instr.findNow]⟩
  | cons e l =>
    have hk : (Instr.findKey 25 (.pointer (some a)) (e :: l)).run Tryd.prog w = (Instr.findAsking 25 (.pointer (some a)) (e :: l) 0).run Tryd.prog w := by
      simp [Instr.findKey, run_underlying Tryd.underlying25, Instr.findNow, Instr.sameNow]
    rw [hk]
    rcases ask_ptr ha (e :: l) 0 h with h1 | ⟨i, e', h1, h2, h3⟩
    · exact .inl h1
    · exact .inr ⟨i, e', h1, h2, by rw [h3, Nat.zero_add]⟩
theorem check_ptrB (b : Bool) (n : Nat) (v : Value) (w : World) : (Instr.checkKey b (n + 1) 25 v).run Tryd.prog w = .ok () w := by
  rw [Instr.checkKey]
  simp [run_underlying Tryd.underlying25, Result.andThen]
theorem look_ptr {w : World} {mb : Nat} {es : Array MapEntry} {clock : Nat} {a : Addr} (hb : w.heap[mb]? = some (.map es clock)) (ha : Pln w a.block) (h : KeyP w es.toList) :
    ((∀ e ∈ es.toList, e.key ≠ .pointer (some a)) ∧ (Instr.lookup 129 (.map (some mb)) (.pointer (some a)) true).run Tryd.prog w = .ok (.tuple #[.agg #[.int .i64 0, .int .i64 0, .bool false], .bool false]) w) ∨
    ∃ (i : Nat) (e : MapEntry), es.toList[i]? = some e ∧ e.key = .pointer (some a) ∧ (Instr.lookup 129 (.map (some mb)) (.pointer (some a)) true).run Tryd.prog w = .ok (.tuple #[e.val, .bool true]) w := by
  have hz : (zeroValue 102).run Tryd.prog w = .ok (.agg #[.int .i64 0, .int .i64 0, .bool false]) w := by kernel_rfl
  have hc := fun b => check_ptrB b 9999 (.pointer (some a)) w
  simp only [Nat.reduceAdd] at hc
  rcases findKey_ptr ha es.toList h with ⟨h1, h2⟩ | ⟨i, e, h1, h2, h3⟩
  · refine .inl ⟨h1, ?_⟩
    simp [Instr.lookup, run_underlying Tryd.underlying129, MapKept.run_getObj_map hb, hc, h2, hz, Result.andThen]
  · refine .inr ⟨i, e, h1, h2, ?_⟩
    simp [Instr.lookup, run_underlying Tryd.underlying129, MapKept.run_getObj_map hb, hc, h3, Result.andThen]

/-! ### what is kept in mind -/
def msV (t : Tr) : Value := .agg #[.int .i64 (szT t : Int), .int .i64 (dpT t : Int), .bool false]
structure Ents (w : World) (Sq : Nat → Prop) (X : Value → Prop) (es : Array MapEntry) : Prop where
  ok : ∀ (i : Nat) (e : MapEntry), es[i]? = some e → ∃ t, InT w Sq e.key t ∧ (e.val = msV t ∨ X e.key)
  one : ∀ (i j : Nat) (e e' : MapEntry), es[i]? = some e → es[j]? = some e' → e.key = e'.key → i = j
theorem Ents.nil (w : World) (Sq X) : Ents w Sq X #[] := ⟨fun i e h => by simp at h, fun i j e e' h => by simp at h⟩
theorem Ents.keep {w w' : World} {Sq : Nat → Prop} {X : Value → Prop} {es : Array MapEntry} (h : Ents w Sq X es) (hk : ∀ b, Sq b → w'.heap[b]? = w.heap[b]?) : Ents w' Sq X es :=
  ⟨fun i e he => by obtain ⟨t, h1, h2⟩ := h.ok i e he; exact ⟨t, h1.keep (fun _ h => h) hk, h2⟩, h.one⟩
theorem Ents.more {w : World} {Sq : Nat → Prop} {X Y : Value → Prop} {es : Array MapEntry} (h : Ents w Sq X es) (hX : ∀ v, X v → Y v) : Ents w Sq Y es :=
  ⟨fun i e he => by obtain ⟨t, h1, h2⟩ := h.ok i e he; exact ⟨t, h1, h2.imp id (hX _)⟩, h.one⟩
theorem Ents.keys {w : World} {Sq : Nat → Prop} {X : Value → Prop} {es : Array MapEntry} (h : Ents w Sq X es) : KeyP w es.toList := by
  intro e he
  obtain ⟨i, hi⟩ := List.mem_iff_getElem?.1 he
  rw [Array.getElem?_toList] at hi
  obtain ⟨t, h1, _⟩ := h.ok i e hi
  obtain ⟨q, p, hv⟩ := h1.ptr
  refine ⟨_, hv, ?_⟩
  rw [hv] at h1
  exact h1.pln
def UpdE (es : Array MapEntry) (clock : Nat) (k v : Value) (es' : Array MapEntry) : Prop :=
  ((∀ e ∈ es.toList, e.key ≠ k) ∧ es' = es.push { key := k, val := v, born := clock }) ∨ ∃ (i : Nat) (e : MapEntry), es[i]? = some e ∧ e.key = k ∧ es' = es.modify i fun e => { e with key := k, val := v }
theorem Ents.upd {w : World} {Sq : Nat → Prop} {X Y : Value → Prop} {es es' : Array MapEntry} {clock : Nat} {k v : Value} {t : Tr} (h : Ents w Sq X es) (hu : UpdE es clock k v es') (hk : InT w Sq k t) (hv : v = msV t ∨ Y k) (hX : ∀ u, X u → u ≠ k → Y u) : Ents w Sq Y es' := by
  rcases hu with ⟨h1, rfl⟩ | ⟨i, e, h1, h2, rfl⟩
  · have hne : ∀ (i : Nat) (e : MapEntry), es[i]? = some e → e.key ≠ k := fun i e he => h1 e (List.mem_iff_getElem?.2 ⟨i, by rw [Array.getElem?_toList]; exact he⟩)
    refine ⟨fun i e he => ?_, fun i j e e' he he' hkk => ?_⟩
    · rw [Array.getElem?_push] at he
      split at he
      · injection he with he
        subst he
        exact ⟨t, hk, hv⟩
      · obtain ⟨t', h3, h4⟩ := h.ok i e he
        exact ⟨t', h3, h4.imp id fun hx => hX _ hx (hne i e he)⟩
    · rw [Array.getElem?_push] at he he'
      split at he
      · injection he with he
        subst he
        split at he'
        · omega
        · exact absurd hkk.symm (hne j e' he')
      · split at he'
        · injection he' with he'
          subst he'
          exact absurd hkk (hne i e he)
        · exact h.one i j e e' he he' hkk
  · have hat : ∀ (j : Nat) (e' : MapEntry), (es.modify i fun e => { e with key := k, val := v })[j]? = some e' → (j = i ∧ e'.key = k ∧ e'.val = v) ∨ (j ≠ i ∧ es[j]? = some e') := by
      intro j e' he'
      rw [Array.getElem?_modify] at he'
      split at he'
      · rename_i hij
        subst hij
        rw [h1] at he'
        injection he' with he'
        subst he'
        exact .inl ⟨rfl, rfl, rfl⟩
      · rename_i hij
        exact .inr ⟨fun e => hij e.symm, he'⟩
    refine ⟨fun j e' he' => ?_, fun j l e1 e2 he1 he2 hkk => ?_⟩
    · rcases hat j e' he' with ⟨_, h3, h4⟩ | ⟨h3, h4⟩
      · rw [h3, h4]
        exact ⟨t, hk, hv⟩
      · obtain ⟨t', h5, h6⟩ := h.ok j e' h4
        exact ⟨t', h5, h6.imp id fun hx => hX _ hx fun e => h3 (h.one j i e' _ h4 h1 (e.trans h2.symm))⟩
    · rcases hat j e1 he1 with ⟨a1, a2, _⟩ | ⟨a1, a2⟩
      · rcases hat l e2 he2 with ⟨b1, _⟩ | ⟨b1, b2⟩
        · rw [a1, b1]
        · exact absurd (h.one l i e2 _ b2 h1 (hkk.symm.trans (a2.trans h2.symm))) b1
      · rcases hat l e2 he2 with ⟨b1, b2, _⟩ | ⟨b1, b2⟩
        · exact absurd (h.one j i e1 _ a2 h1 (hkk.trans (b2.trans h2.symm))) a1
        · exact h.one j l e1 e2 a2 b2 hkk
theorem upd_ptr {w : World} {mb : Nat} {es : Array MapEntry} {clock : Nat} {a : Addr} (v : Value) (hb : w.heap[mb]? = some (.map es clock)) (ha : Pln w a.block) (h : KeyP w es.toList) :
    ∃ es' clock', (Instr.mapUpdate 129 (.map (some mb)) (.pointer (some a)) v).run Tryd.prog w = .ok () { w with heap := w.heap.setIfInBounds mb (.map es' clock') } ∧ UpdE es clock (.pointer (some a)) v es' := by
  have hc := fun b => check_ptrB b 9999 (.pointer (some a)) w
  simp only [Nat.reduceAdd] at hc
  rcases findKey_ptr ha es.toList h with ⟨h1, h2⟩ | ⟨i, e, h1, h2, h3⟩
  · refine ⟨es.push { key := .pointer (some a), val := v, born := clock }, clock + 1, ?_, .inl ⟨h1, rfl⟩⟩
    simp [Instr.mapUpdate, run_underlying Tryd.underlying129, MapKept.run_getObj_map hb, hc, h2, Result.andThen, MapKept.run_setObj_map _ hb]
  · rw [Array.getElem?_toList] at h1
    have hs : (Instr.keyThatStays (.pointer (some a)) (.pointer (some a))).run Tryd.prog w = .ok (.pointer (some a)) w := by
      simp [Instr.keyThatStays, Instr.sameBits]
    refine ⟨es.modify i fun e => { e with key := .pointer (some a), val := v }, clock, ?_, .inr ⟨i, e, h1, h2, rfl⟩⟩
    simp [Instr.mapUpdate, run_underlying Tryd.underlying129, MapKept.run_getObj_map hb, hc, h3, Result.andThen, MapKept.run_setObj_map _ hb, h1, h2, hs]
end Go.Proofs.YtmiicfdigkkbdaaDoor
namespace Go.Proofs.YtmiicfdigkkbdaaDoor
open Go.RowKit

def Str (w : World) (Sq : Nat → Prop) (v : Value) : Prop := ∃ x ks, InT w Sq v (x, ks) ∧ ocF 0 true ks = true
theorem Str.keep {w w' : World} {Sq : Nat → Prop} {v : Value} (h : Str w Sq v) (hk : ∀ b, Sq b → w'.heap[b]? = w.heap[b]?) : Str w' Sq v := by
  obtain ⟨x, ks, h1, h2⟩ := h
  exact ⟨x, ks, h1.keep (fun _ h => h) hk, h2⟩
def InK (es : Array MapEntry) (v : Value) : Prop := ∃ e ∈ es.toList, e.key = v
def Kys (w : World) (Sq : Nat → Prop) (es : Array MapEntry) : Prop := ∀ e ∈ es.toList, e.val = .agg #[] ∧ Str w Sq e.key
theorem Kys.keep {w w' : World} {Sq : Nat → Prop} {es : Array MapEntry} (h : Kys w Sq es) (hk : ∀ b, Sq b → w'.heap[b]? = w.heap[b]?) : Kys w' Sq es := fun e he => ⟨(h e he).1, (h e he).2.keep hk⟩
theorem Kys.keys {w : World} {Sq : Nat → Prop} {es : Array MapEntry} (h : Kys w Sq es) : KeyP w es.toList := by
  intro e he
  obtain ⟨x, ks, h1, _⟩ := (h e he).2
  obtain ⟨q, p, hv⟩ := h1.ptr
  refine ⟨_, hv, ?_⟩
  rw [hv] at h1
  exact h1.pln
theorem Kys.nil (w : World) (Sq : Nat → Prop) : Kys w Sq #[] := fun e he => by simp at he
theorem UpdE.mem {es es' : Array MapEntry} {clock : Nat} {k v : Value} (h : UpdE es clock k v es') : (∀ e ∈ es'.toList, (e.key = k ∧ e.val = v) ∨ e ∈ es.toList) ∧ (∀ u, InK es u → InK es' u) ∧ InK es' k := by
  rcases h with ⟨_, rfl⟩ | ⟨i, e0, h1, h2, rfl⟩
  · refine ⟨fun e he => ?_, fun u ⟨e, he, hu⟩ => ⟨e, by rw [Array.toList_push]; exact List.mem_append_left _ he, hu⟩, ⟨_, by rw [Array.toList_push]; exact List.mem_append_right _ (List.mem_singleton.2 rfl), rfl⟩⟩
    rw [Array.toList_push] at he
    rcases List.mem_append.1 he with he | he
    · exact .inr he
    · rw [List.mem_singleton.1 he]; exact .inl ⟨rfl, rfl⟩
  · have hat : ∀ (j : Nat), (es.modify i fun e => { e with key := k, val := v })[j]? = if i = j then es[j]?.map (fun e => { e with key := k, val := v }) else es[j]? := fun j => by
      rw [Array.getElem?_modify]
    have hi : (es.modify i fun e => { e with key := k, val := v })[i]? = some { e0 with key := k, val := v } := by
      rw [hat, if_pos rfl, h1]; rfl
    have hmem : ∀ {j : Nat} {e : MapEntry}, (es.modify i fun e => { e with key := k, val := v })[j]? = some e → e ∈ (es.modify i fun e => { e with key := k, val := v }).toList := fun {j} {e} h => List.mem_iff_getElem?.2 ⟨j, by rw [Array.getElem?_toList]; exact h⟩
    refine ⟨fun e he => ?_, fun u ⟨e, he, hu⟩ => ?_, ⟨_, hmem hi, rfl⟩⟩
    · obtain ⟨j, hj⟩ := List.mem_iff_getElem?.1 he
      rw [Array.getElem?_toList, hat] at hj
      split at hj
      · rename_i hij
        subst hij
        rw [h1] at hj
        injection hj with hj
        subst hj
        exact .inl ⟨rfl, rfl⟩
      · exact .inr (List.mem_iff_getElem?.2 ⟨j, by rw [Array.getElem?_toList]; exact hj⟩)
    · obtain ⟨j, hj⟩ := List.mem_iff_getElem?.1 he
      rw [Array.getElem?_toList] at hj
      by_cases hij : i = j
      · subst hij
        rw [h1] at hj
        injection hj with hj
        subst hj
        exact ⟨_, hmem hi, h2.symm.trans hu⟩
      · exact ⟨e, hmem (by rw [hat, if_neg hij]; exact hj), hu⟩
theorem look_st {w : World} {mb : Nat} {es : Array MapEntry} {clock : Nat} {a : Addr} {Sq : Nat → Prop} (hb : w.heap[mb]? = some (.map es clock)) (ha : Pln w a.block) (h : Kys w Sq es) :
    ∃ b : Bool, (b = true ↔ InK es (.pointer (some a))) ∧ (Instr.lookup 52 (.map (some mb)) (.pointer (some a)) true).run Tryd.prog w = .ok (.tuple #[.agg #[], .bool b]) w := by
  have hz : (zeroValue 50).run Tryd.prog w = .ok (.agg #[]) w := by kernel_rfl
  have hc := fun b => check_ptrB b 9999 (.pointer (some a)) w
  simp only [Nat.reduceAdd] at hc
  rcases findKey_ptr ha es.toList h.keys with ⟨h1, h2⟩ | ⟨i, e, h1, h2, h3⟩
  · refine ⟨false, ⟨(fun h => nomatch h), fun ⟨e, he, hk⟩ => absurd hk (h1 e he)⟩, ?_⟩
    simp [Instr.lookup, run_underlying Tryd.underlying52, MapKept.run_getObj_map hb, hc, h2, hz, Result.andThen]
  · have he := List.mem_iff_getElem?.2 ⟨i, h1⟩
    refine ⟨true, ⟨fun _ => ⟨e, he, h2⟩, fun _ => rfl⟩, ?_⟩
    rw [← (h e he).1]
    simp [Instr.lookup, run_underlying Tryd.underlying52, MapKept.run_getObj_map hb, hc, h3, Result.andThen]
theorem upd_st {w : World} {mb : Nat} {es : Array MapEntry} {clock : Nat} {a : Addr} (v : Value) (hb : w.heap[mb]? = some (.map es clock)) (ha : Pln w a.block) (h : KeyP w es.toList) :
    ∃ es' clock', (Instr.mapUpdate 52 (.map (some mb)) (.pointer (some a)) v).run Tryd.prog w = .ok () { w with heap := w.heap.setIfInBounds mb (.map es' clock') } ∧ UpdE es clock (.pointer (some a)) v es' := by
  have hc := fun b => check_ptrB b 9999 (.pointer (some a)) w
  simp only [Nat.reduceAdd] at hc
  rcases findKey_ptr ha es.toList h with ⟨h1, h2⟩ | ⟨i, e, h1, h2, h3⟩
  · refine ⟨es.push { key := .pointer (some a), val := v, born := clock }, clock + 1, ?_, .inl ⟨h1, rfl⟩⟩
    simp [Instr.mapUpdate, run_underlying Tryd.underlying52, MapKept.run_getObj_map hb, hc, h2, Result.andThen, MapKept.run_setObj_map _ hb]
  · rw [Array.getElem?_toList] at h1
    have hs : (Instr.keyThatStays (.pointer (some a)) (.pointer (some a))).run Tryd.prog w = .ok (.pointer (some a)) w := by
      simp [Instr.keyThatStays, Instr.sameBits]
    refine ⟨es.modify i fun e => { e with key := .pointer (some a), val := v }, clock, ?_, .inr ⟨i, e, h1, h2, rfl⟩⟩
    simp [Instr.mapUpdate, run_underlying Tryd.underlying52, MapKept.run_getObj_map hb, hc, h3, Result.andThen, MapKept.run_setObj_map _ hb, h1, h2, hs]

/-! ### all that is astray in a tree in memory is a member -/
def CovF (w : World) (K : Value → Prop) : Fr → Nat → Nat → Prop
  | .nil, _, _ => True
  | .cons x ks rs, b, o => (∃ v, w.cell? ⟨b, o, none⟩ = some v ∧ (innK x.k = 1 → ocF 0 true ks = true → K v) ∧ ∃ q p A c, v = .pointer (some ⟨q, p, none⟩) ∧ w.cell? ⟨q, p + 4, none⟩ = some (.slice A ks.len c) ∧ ∀ kb ko, A = some ⟨kb, ko, none⟩ → CovF w K ks kb ko) ∧ CovF w K rs b (o + 1)
def CovT (w : World) (K : Value → Prop) (v : Value) (t : Tr) : Prop := (innK t.1.k = 1 → ocF 0 true t.2 = true → K v) ∧ ∃ q p A c, v = .pointer (some ⟨q, p, none⟩) ∧ w.cell? ⟨q, p + 4, none⟩ = some (.slice A t.2.len c) ∧ ∀ kb ko, A = some ⟨kb, ko, none⟩ → CovF w K t.2 kb ko
theorem CovF.more {w : World} {K K' : Value → Prop} (hK : ∀ v, K v → K' v) {f : Fr} : ∀ {b o : Nat}, CovF w K f b o → CovF w K' f b o := by
  induction f with
  | nil => intro b o _; trivial
  | cons x ks rs ihk ihr =>
    rintro b o ⟨⟨v, h1, h2, q, p, A, c, h3, h4, h5⟩, h6⟩
    exact ⟨⟨v, h1, fun g g' => hK v (h2 g g'), q, p, A, c, h3, h4, fun kb ko hA => ihk (h5 kb ko hA)⟩, ihr h6⟩
theorem CovT.more {w : World} {K K' : Value → Prop} {v : Value} {t : Tr} (h : CovT w K v t) (hK : ∀ v, K v → K' v) : CovT w K' v t := by
  obtain ⟨h2, q, p, A, c, h3, h4, h5⟩ := h
  exact ⟨fun g g' => hK v (h2 g g'), q, p, A, c, h3, h4, fun kb ko hA => (h5 kb ko hA).more hK⟩
theorem CovF.app {w : World} {K : Value → Prop} {a b : Fr} : ∀ {q o : Nat}, CovF w K a q o → CovF w K b q (o + a.len) → CovF w K (a.app b) q o := by
  induction a with
  | nil => intro q o _ h; exact h
  | cons x ks rs _ ihr =>
    rintro q o ⟨h1, h2⟩ h3
    exact ⟨h1, ihr h2 (by rw [show o + 1 + rs.len = o + (Fr.cons x ks rs).len by simp only [Fr.len]; omega]; exact h3)⟩
theorem CovF.keep {w w' : World} {S : Nat → Prop} {K : Value → Prop} {f : Fr} (hk : ∀ b, S b → w'.heap[b]? = w.heap[b]?) : ∀ {b o : Nat}, S b → InF w S f b o → CovF w K f b o → CovF w' K f b o := by
  induction f with
  | nil => intro b o _ _ _; trivial
  | cons x ks rs ihk ihr =>
    rintro b o hb ⟨⟨v, hv, q, p, A, c, e, hq, _, _, _, _, _, h4, hc, hkids⟩, hr⟩ ⟨⟨v', g1, g2, q', p', A', c', g3, g4, g5⟩, g6⟩
    have hk' := fun (p : Addr) (hp : S p.block) => World.cell?_of_block (w := w) (w' := w') (hk p.block hp)
    have e1 : v = v' := by rw [hv] at g1; injection g1
    subst e1
    have e2 : q' = q ∧ p' = p := by
      rw [e] at g3
      injection g3 with g3
      injection g3 with g3
      injection g3 with g3 g3'
      exact ⟨g3.symm, g3'.symm⟩
    obtain ⟨rfl, rfl⟩ := e2
    have e3 : A' = A := by
      rw [h4] at g4
      injection g4 with g4
      injection g4 with g4
      exact g4.symm
    subst e3
    refine ⟨⟨v, (hk' ⟨b, o, none⟩ hb).trans hv, g2, q', p', A', c', g3, (hk' ⟨q', p' + 4, none⟩ hq).trans g4, fun kb ko hA => ?_⟩, ihr hb hr g6⟩
    by_cases hn : 0 < ks.len
    · obtain ⟨kb', ko', hA', h5, h7⟩ := hkids hn
      rw [hA] at hA'
      injection hA' with hA'
      injection hA' with e4 e5
      subst e4 e5
      exact ihk h5 h7 (g5 kb ko hA)
    · have : ks = .nil := by
        cases ks with
        | nil => rfl
        | cons _ _ _ => exact absurd (Nat.succ_pos _) hn
      subst this
      trivial
theorem CovT.keep {w w' : World} {S : Nat → Prop} {K : Value → Prop} {v : Value} {t : Tr} (h : CovT w K v t) (hin : InT w S v t) (hk : ∀ b, S b → w'.heap[b]? = w.heap[b]?) : CovT w' K v t := by
  obtain ⟨q, p, A, c, e, hq, _, _, _, _, _, h4, hc, hkids⟩ := hin
  obtain ⟨g2, q', p', A', c', g3, g4, g5⟩ := h
  have hk' := fun (p : Addr) (hp : S p.block) => World.cell?_of_block (w := w) (w' := w') (hk p.block hp)
  have e2 : q' = q ∧ p' = p := by
    rw [e] at g3
    injection g3 with g3
    injection g3 with g3
    injection g3 with g3 g3'
    exact ⟨g3.symm, g3'.symm⟩
  obtain ⟨rfl, rfl⟩ := e2
  have e3 : A' = A := by
    rw [h4] at g4
    injection g4 with g4
    injection g4 with g4
    exact g4.symm
  subst e3
  refine ⟨g2, q', p', A', c', g3, (hk' ⟨q', p' + 4, none⟩ hq).trans g4, fun kb ko hA => ?_⟩
  by_cases hn : 0 < t.2.len
  · obtain ⟨kb', ko', hA', h5, h7⟩ := hkids hn
    rw [hA] at hA'
    injection hA' with hA'
    injection hA' with e4 e5
    subst e4 e5
    exact CovF.keep hk h5 h7 (g5 kb ko hA)
  · have : t.2 = .nil := by
      cases h : t.2 with
      | nil => rfl
      | cons _ _ _ => rw [h] at hn; exact absurd (Nat.succ_pos _) hn
    rw [this]
    trivial
theorem CovT.kid {w : World} {K : Value → Prop} {q p : Nat} {x : Nod} {A : Option Addr} {n c : Nat} {done : Fr} {y : Nod} {l r : Fr} (h : CovT w K (.pointer (some ⟨q, p, none⟩)) (x, done.app (.cons y l r))) (h4 : w.cell? ⟨q, p + 4, none⟩ = some (.slice A n c)) {kb ko : Nat} (hA : A = some ⟨kb, ko, none⟩) {u : Value} (hu : w.cell? ⟨kb, ko + done.len, none⟩ = some u) : CovT w K u (y, l) := by
  obtain ⟨_, q', p', A', c', g3, g4, g5⟩ := h
  injection g3 with g3
  injection g3 with g3
  injection g3 with e1 e2
  subst e1 e2
  rw [h4] at g4
  injection g4 with g4
  injection g4 with e3
  subst e3
  have h1 : ∀ (a : Fr) (o : Nat), CovF w K (a.app (.cons y l r)) kb o → CovF w K (.cons y l r) kb (o + a.len) := by
    intro a
    induction a with
    | nil => intro o h; exact h
    | cons z zk s _ ih => intro o h; have := ih (o + 1) h.2; rw [show o + (Fr.cons z zk s).len = o + 1 + s.len by simp only [Fr.len]; omega]; exact this
  obtain ⟨⟨v, k1, k2, k3⟩, _⟩ := h1 done ko (g5 kb ko hA)
  rw [hu] at k1
  injection k1 with k1
  subst k1
  exact ⟨k2, k3⟩
end Go.Proofs.YtmiicfdigkkbdaaDoor
