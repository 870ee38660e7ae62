/-
  Layer 4 once more: a map whose keys are pointers to nodes.
-/
import Derived.Test.YtofgniceilbpaaaDoorGt08
import Derived.Test.YtofgniceilbpaaaDoorGt20
namespace Go.Proofs.YtofgniceilbpaaaDoor
open Go.RowKit

theorem eqN_same (w : World) (a : Addr) : (Op.equal 25 (.pointer (some a)) (.pointer (some a))).run Tryd.prog w = .ok true w := by
  obtain ⟨j, hj, hs⟩ := infoNode
  have h : ∀ d : Nat, (Op.equalIn (d + 1) 25 (.pointer (some a)) (.pointer (some a))).run Tryd.prog w = .ok true w := fun d => by
    simp [Op.equalIn, run_underlying Tryd.underlying25, sizeOf, typeInfo, hj, run_sameAddr_same]
  simp [Op.equal, Op.maxDepth, h 9999]
theorem eqN_other {w : World} {a b : Addr} (hne : a ≠ b) (ha : Pln w a.block) (hb : Pln w b.block) : (Op.equal 25 (.pointer (some a)) (.pointer (some b))).run Tryd.prog w = .ok false w := by
  obtain ⟨j, hj, hs⟩ := infoNode
  obtain ⟨ca, ta, ha⟩ := ha
  obtain ⟨cb, tb, hb⟩ := hb
  have h : ∀ d : Nat, (Op.equalIn (d + 1) 25 (.pointer (some a)) (.pointer (some b))).run Tryd.prog w = .ok false w := fun d => by
    simp [Op.equalIn, run_underlying Tryd.underlying25, sizeOf, typeInfo, hj, hs, run_sameAddr_other w hne ha hb]
  simp [Op.equal, Op.maxDepth, h 9999]
def KeyP (w : World) (l : List MapEntry) : Prop := ∀ e ∈ l, ∃ b : Addr, e.key = .pointer (some b) ∧ Pln w b.block
theorem ask_ptr {w : World} {a : Addr} (ha : Pln w a.block) : ∀ (l : List MapEntry) (n : Nat), KeyP w l →
    ((∀ e ∈ l, e.key ≠ .pointer (some a)) ∧ (Instr.findAsking 25 (.pointer (some a)) l n).run Tryd.prog w = .ok none w) ∨
    ∃ (i : Nat) (e : MapEntry), l[i]? = some e ∧ e.key = .pointer (some a) ∧ (Instr.findAsking 25 (.pointer (some a)) l n).run Tryd.prog w = .ok (some (n + i, e.val)) w
  | [], n, _ => .inl ⟨by simp, by simp [Instr.findAsking]⟩
  | e :: l, n, h => by
    obtain ⟨b, hb, hp⟩ := h e (by simp)
    by_cases hab : a = b
    · subst hab
      refine .inr ⟨0, e, rfl, hb, ?_⟩
      simp [Instr.findAsking, hb, eqN_same]
    · have hq := eqN_other hab ha hp
      rcases ask_ptr ha l (n + 1) (fun e he => h e (by simp [he])) with ⟨h1, h2⟩ | ⟨i, e', h1, h2, h3⟩
      · refine .inl ⟨fun e' he' => ?_, by simp [Instr.findAsking, hb, hq, h2]⟩
        rcases List.mem_cons.1 he' with rfl | he'
        · rw [hb]
          intro hf
          injection hf with hf
          injection hf with hf
          exact hab hf.symm
        · exact h1 e' he'
      · refine .inr ⟨i + 1, e', h1, h2, ?_⟩
        simp [Instr.findAsking, hb, hq, h3]
        omega
theorem findKey_ptr {w : World} {a : Addr} (ha : Pln w a.block) (l : List MapEntry) (h : KeyP w l) :
    ((∀ e ∈ l, e.key ≠ .pointer (some a)) ∧ (Instr.findKey 25 (.pointer (some a)) l).run Tryd.prog w = .ok none w) ∨
    ∃ (i : Nat) (e : MapEntry), l[i]? = some e ∧ e.key = .pointer (some a) ∧ (Instr.findKey 25 (.pointer (some a)) l).run Tryd.prog w = .ok (some (i, e.val)) w := by
  cases l with
  | nil => exact .inl ⟨by simp, by simp [Instr.findKey, run_underlying Tryd.underlying25, Instr.findNow]⟩
  | cons e l =>
    have hk : (Instr.findKey 25 (.pointer (some a)) (e :: l)).run Tryd.prog w = (Instr.findAsking 25 (.pointer (some a)) (e :: l) 0).run Tryd.prog w := by
      simp [Instr.findKey, run_underlying Tryd.underlying25, Instr.findNow, Instr.sameNow]
    rw [hk]
    rcases ask_ptr ha (e :: l) 0 h with h1 | ⟨i, e', h1, h2, h3⟩
    · exact .inl h1
    · exact .inr ⟨i, e', h1, h2, by rw [h3, Nat.zero_add]⟩
theorem check_ptrB (b : Bool) (n : Nat) (v : Value) (w : World) : (Instr.checkKey b (n + 1) 25 v).run Tryd.prog w = .ok () w := by
  rw [Instr.checkKey]
  simp [run_underlying Tryd.underlying25, Result.andThen]
theorem look_ptr {w : World} {mb : Nat} {es : Array MapEntry} {clock : Nat} {a : Addr} (hb : w.heap[mb]? = some (.map es clock)) (ha : Pln w a.block) (h : KeyP w es.toList) :
    ((∀ e ∈ es.toList, e.key ≠ .pointer (some a)) ∧ (Instr.lookup 117 (.map (some mb)) (.pointer (some a)) true).run Tryd.prog w = .ok (.tuple #[.agg #[.int .i64 0, .int .i64 0, .bool false], .bool false]) w) ∨
    ∃ (i : Nat) (e : MapEntry), es.toList[i]? = some e ∧ e.key = .pointer (some a) ∧ (Instr.lookup 117 (.map (some mb)) (.pointer (some a)) true).run Tryd.prog w = .ok (.tuple #[e.val, .bool true]) w := by
  have hz : (zeroValue 81).run Tryd.prog w = .ok (.agg #[.int .i64 0, .int .i64 0, .bool false]) w := by kernel_rfl
  have hc := fun b => check_ptrB b 9999 (.pointer (some a)) w
  simp only [Nat.reduceAdd] at hc
  rcases findKey_ptr ha es.toList h with ⟨h1, h2⟩ | ⟨i, e, h1, h2, h3⟩
  · refine .inl ⟨h1, ?_⟩
    simp [Instr.lookup, run_underlying Tryd.underlying117, MapKept.run_getObj_map hb, hc, h2, hz, Result.andThen]
  · refine .inr ⟨i, e, h1, h2, ?_⟩
    simp [Instr.lookup, run_underlying Tryd.underlying117, MapKept.run_getObj_map hb, hc, h3, Result.andThen]

/-! ### what is kept in mind -/
def msV (t : Tr) : Value := .agg #[.int .i64 (szT t : Int), .int .i64 (dpT t : Int), .bool false]
structure Ents (w : World) (Sq : Nat → Prop) (X : Value → Prop) (es : Array MapEntry) : Prop where
  ok : ∀ (i : Nat) (e : MapEntry), es[i]? = some e → ∃ t, InT w Sq e.key t ∧ (e.val = msV t ∨ X e.key)
  one : ∀ (i j : Nat) (e e' : MapEntry), es[i]? = some e → es[j]? = some e' → e.key = e'.key → i = j
theorem Ents.nil (w : World) (Sq X) : Ents w Sq X #[] := ⟨fun i e h => by simp at h, fun i j e e' h => by simp at h⟩
theorem Ents.keep {w w' : World} {Sq : Nat → Prop} {X : Value → Prop} {es : Array MapEntry} (h : Ents w Sq X es) (hk : ∀ b, Sq b → w'.heap[b]? = w.heap[b]?) : Ents w' Sq X es :=
  ⟨fun i e he => by obtain ⟨t, h1, h2⟩ := h.ok i e he; exact ⟨t, h1.keep (fun _ h => h) hk, h2⟩, h.one⟩
theorem Ents.more {w : World} {Sq : Nat → Prop} {X Y : Value → Prop} {es : Array MapEntry} (h : Ents w Sq X es) (hX : ∀ v, X v → Y v) : Ents w Sq Y es :=
  ⟨fun i e he => by obtain ⟨t, h1, h2⟩ := h.ok i e he; exact ⟨t, h1, h2.imp id (hX _)⟩, h.one⟩
theorem Ents.keys {w : World} {Sq : Nat → Prop} {X : Value → Prop} {es : Array MapEntry} (h : Ents w Sq X es) : KeyP w es.toList := by
  intro e he
  obtain ⟨i, hi⟩ := List.mem_iff_getElem?.1 he
  rw [Array.getElem?_toList] at hi
  obtain ⟨t, h1, _⟩ := h.ok i e hi
  obtain ⟨q, p, hv⟩ := h1.ptr
  refine ⟨_, hv, ?_⟩
  rw [hv] at h1
  exact h1.pln
def UpdE (es : Array MapEntry) (clock : Nat) (k v : Value) (es' : Array MapEntry) : Prop :=
  ((∀ e ∈ es.toList, e.key ≠ k) ∧ es' = es.push { key := k, val := v, born := clock }) ∨ ∃ (i : Nat) (e : MapEntry), es[i]? = some e ∧ e.key = k ∧ es' = es.modify i fun e => { e with key := k, val := v }
theorem Ents.upd {w : World} {Sq : Nat → Prop} {X Y : Value → Prop} {es es' : Array MapEntry} {clock : Nat} {k v : Value} {t : Tr} (h : Ents w Sq X es) (hu : UpdE es clock k v es') (hk : InT w Sq k t) (hv : v = msV t ∨ Y k) (hX : ∀ u, X u → u ≠ k → Y u) : Ents w Sq Y es' := by
  rcases hu with ⟨h1, rfl⟩ | ⟨i, e, h1, h2, rfl⟩
  · have hne : ∀ (i : Nat) (e : MapEntry), es[i]? = some e → e.key ≠ k := fun i e he => h1 e (List.mem_iff_getElem?.2 ⟨i, by rw [Array.getElem?_toList]; exact he⟩)
    refine ⟨fun i e he => ?_, fun i j e e' he he' hkk => ?_⟩
    · rw [Array.getElem?_push] at he
      split at he
      · injection he with he
        subst he
        exact ⟨t, hk, hv⟩
      · obtain ⟨t', h3, h4⟩ := h.ok i e he
        exact ⟨t', h3, h4.imp id fun hx => hX _ hx (hne i e he)⟩
    · rw [Array.getElem?_push] at he he'
      split at he
      · injection he with he
        subst he
        split at he'
        · omega
        · exact absurd hkk.symm (hne j e' he')
      · split at he'
        · injection he' with he'
          subst he'
          exact absurd hkk (hne i e he)
        · exact h.one i j e e' he he' hkk
  · have hat : ∀ (j : Nat) (e' : MapEntry), (es.modify i fun e => { e with key := k, val := v })[j]? = some e' → (j = i ∧ e'.key = k ∧ e'.val = v) ∨ (j ≠ i ∧ es[j]? = some e') := by
      intro j e' he'
      rw [Array.getElem?_modify] at he'
      split at he'
      · rename_i hij
        subst hij
        rw [h1] at he'
        injection he' with he'
        subst he'
        exact .inl ⟨rfl, rfl, rfl⟩
      · rename_i hij
        exact .inr ⟨fun e => hij e.symm, he'⟩
    refine ⟨fun j e' he' => ?_, fun j l e1 e2 he1 he2 hkk => ?_⟩
    · rcases hat j e' he' with ⟨_, h3, h4⟩ | ⟨h3, h4⟩
      · rw [h3, h4]
        exact ⟨t, hk, hv⟩
      · obtain ⟨t', h5, h6⟩ := h.ok j e' h4
        exact ⟨t', h5, h6.imp id fun hx => hX _ hx fun e => h3 (h.one j i e' _ h4 h1 (e.trans h2.symm))⟩
    · rcases hat j e1 he1 with ⟨a1, a2, _⟩ | ⟨a1, a2⟩
      · rcases hat l e2 he2 with ⟨b1, _⟩ | ⟨b1, b2⟩
        · rw [a1, b1]
        · exact absurd (h.one l i e2 _ b2 h1 (hkk.symm.trans (a2.trans h2.symm))) b1
      · rcases hat l e2 he2 with ⟨b1, b2, _⟩ | ⟨b1, b2⟩
        · exact absurd (h.one j i e1 _ a2 h1 (hkk.trans (b2.trans h2.symm))) a1
        · exact h.one j l e1 e2 a2 b2 hkk
theorem upd_ptr {w : World} {mb : Nat} {es : Array MapEntry} {clock : Nat} {a : Addr} (v : Value) (hb : w.heap[mb]? = some (.map es clock)) (ha : Pln w a.block) (h : KeyP w es.toList) :
    ∃ es' clock', (Instr.mapUpdate 117 (.map (some mb)) (.pointer (some a)) v).run Tryd.prog w = .ok () { w with heap := w.heap.setIfInBounds mb (.map es' clock') } ∧ UpdE es clock (.pointer (some a)) v es' := by
  have hc := fun b => check_ptrB b 9999 (.pointer (some a)) w
  simp only [Nat.reduceAdd] at hc
  rcases findKey_ptr ha es.toList h with ⟨h1, h2⟩ | ⟨i, e, h1, h2, h3⟩
  · refine ⟨es.push { key := .pointer (some a), val := v, born := clock }, clock + 1, ?_, .inl ⟨h1, rfl⟩⟩
    simp [Instr.mapUpdate, run_underlying Tryd.underlying117, MapKept.run_getObj_map hb, hc, h2, Result.andThen, MapKept.run_setObj_map _ hb]
  · rw [Array.getElem?_toList] at h1
    have hs : (Instr.keyThatStays (.pointer (some a)) (.pointer (some a))).run Tryd.prog w = .ok (.pointer (some a)) w := by
      simp [Instr.keyThatStays, Instr.sameBits]
    refine ⟨es.modify i fun e => { e with key := .pointer (some a), val := v }, clock, ?_, .inr ⟨i, e, h1, h2, rfl⟩⟩
    simp [Instr.mapUpdate, run_underlying Tryd.underlying117, MapKept.run_getObj_map hb, hc, h3, Result.andThen, MapKept.run_setObj_map _ hb, h1, h2, hs]
end Go.Proofs.YtofgniceilbpaaaDoor
namespace Go.Proofs.YtofgniceilbpaaaDoor
open Go.RowKit

def Gk (w : World) (gb mb k : Nat) (es : Array MapEntry) (ck : Nat) : Prop := w.heap[gb]? = some (.cells #[.int .i64 (k : Int), .map (some mb)] 119 (0, 0)) ∧ w.heap[mb]? = some (.map es ck)
theorem KeyP.below {w w' : World} {l : List MapEntry} (h : KeyP w l) (hb : Below w.heap.size w w') : KeyP w' l := fun e he => by
  obtain ⟨b, h1, cs, te, h2⟩ := h e he
  exact ⟨b, h1, cs, te, heap_below h2 hb⟩
def KgP (gb mb k : Nat) (es : Array MapEntry) (ck : Nat) (key val : Value) (w : World) (e : Ending) (w' : World) : Prop := e = .returned (.tuple #[]) ∧ ∃ es' ck', (k ≤ 65536 ∧ es' = es ∨ 65536 < k ∧ UpdE es ck key val es') ∧ Gk w' gb mb k es' ck' ∧ w.grownBy w' (some mb)
set_option maxHeartbeats 3200000 in
set_option maxRecDepth 100000 in
theorem keepG (gb mb k : Nat) (es : Array MapEntry) (ck : Nat) (ad : Addr) (x y z : Value) (w : World) (h : Gk w gb mb k es ck) (hne : mb ≠ gb) (ha : Pln w ad.block) (hky : KeyP w es.toList) (hk : k ≤ 1000000000) :
    Calls Tryd.prog 84 #[.pointer (some ⟨gb, 0, none⟩), .pointer (some ad), .agg #[x, y, z]] w (KgP gb mb k es ck (.pointer (some ad)) (.agg #[x, y, z]) w) := by
  have c0 := cell_of_row w gb 0 _ _ _ h.1
  have c1 := cell_of_row w gb 1 _ _ _ h.1
  have hgw := heap_lt h.1
  have HG := Lib.hid h
  by_cases hk1 : 65536 < k
  · have h1 : (65536 : Int) < (k : Int) := by omega
    have u0 : Up w (w.alloc (.cells #[x, y, z] 81)) := (Below.refl _ _).alloc (Nat.le_refl _) _
    have e0 : (w.alloc (.cells #[x, y, z] 81)).heap[w.heap.size]? = some (.cells #[x, y, z] 81 (0, 0)) := heap_alloc_new w _
    have d0 := cell3_0 e0
    have d1 := cell3_1 e0
    have d2 := cell3_2 e0
    have c1' := (Below.cell u0 hgw).trans c1
    have c0' := (Below.cell u0 hgw).trans c0
    have hm1 := heap_below h.2 u0
    have hg1 := heap_below h.1 u0
    have HA : Hid (Pln (w.alloc (.cells #[x, y, z] 81)) ad.block) := Lib.hid (by obtain ⟨cs, te, h2⟩ := ha; exact ⟨cs, te, heap_below h2 u0⟩)
    obtain ⟨W1, hW1⟩ : ∃ W1, w.alloc (.cells #[x, y, z] 81) = W1 := ⟨_, rfl⟩
    have HS1 : Hid (W1.heap.size = w.heap.size + 1) := Lib.hid (by rw [← hW1]; simp)
    rw [hW1] at HA u0 d0 d1 d2 c1' c0' hm1 hg1
    have HM1 := Lib.hid hm1
    have HG1 := Lib.hid hg1
    have HU := Lib.hid u0
    obtain ⟨es', ck', hup, hu⟩ := upd_ptr (w := W1.drew) (.agg #[x, y, z]) hm1 HA.out (hky.below (w' := W1.drew) u0.drew)
    have HUP := Lib.hid hu
    have HK1 := Lib.hid hk1
    clear h ha hky hk hk1 u0 hm1 hg1 e0 hu HA
    go_enter Tryd.func84, Tryd.ntmps84
    go_wp2_with fail
    go_region
    go_end0
    have h1 : W1.drew.heap.setIfInBounds mb (.map es' ck') = W1.heap.setIfInBounds mb (.map es' ck') := rfl
    have hlt := heap_lt HM1.out
    refine ⟨rfl, es', ck', .inr ⟨HK1.out, HUP.out⟩, ⟨?_, ?_⟩, ?_⟩
    · show (W1.heap.setIfInBounds mb _)[gb]? = _
      rw [Array.getElem?_setIfInBounds_ne hne]
      exact HG1.out
    · show (W1.heap.setIfInBounds mb _)[mb]? = _
      rw [Array.getElem?_setIfInBounds_self_of_lt hlt]
    · refine gb_trans (gb_below HU.out (Nat.le_refl _)) ⟨rfl, rfl, rfl, by simp, fun b hb' hne => ?_⟩
      show (W1.heap.setIfInBounds mb _)[b]? = _
      rw [Array.getElem?_setIfInBounds_ne (fun e => hne (by rw [e]))]
  · have h1 : ¬ (65536 : Int) < (k : Int) := by omega
    have HK1 := Lib.hid hk1
    clear h ha hky hk hk1
    go_enter Tryd.func84, Tryd.ntmps84
    go_wp2_with fail
    go_end0
    have u0 : Below w.heap.size w (w.alloc (.cells #[x, y, z] 81)) := (Below.refl _ _).alloc (Nat.le_refl _) _
    exact ⟨rfl, es, ck, .inl ⟨by have := HK1.out; omega, rfl⟩, ⟨heap_below HG.out.1 u0, heap_below HG.out.2 u0⟩, gb_below u0 (Nat.le_refl _)⟩
end Go.Proofs.YtofgniceilbpaaaDoor
