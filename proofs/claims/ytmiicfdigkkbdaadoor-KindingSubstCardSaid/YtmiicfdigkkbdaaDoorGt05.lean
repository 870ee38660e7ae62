/-
  The program's Clone over nodes, twin, Copy: what they tell.
-/
import Derived.Test.YtmiicfdigkkbdaaDoorGt04
import Derived.Deep.DeepCutAuto
import Derived.Deep.Onto
import Derived.Laws.AppendOwnNone
import Derived.Laws.OwnMore
namespace Go.Proofs.YtmiicfdigkkbdaaDoor
open Go.RowKit

theorem own_made {B : Nat} {w : World} (h : B ≤ w.heap.size) (e : TypeId) : (w.alloc (.cells #[] e)).ownsRow B e 1 (.slice (some ⟨w.heap.size, 0, none⟩) 0 0) 0 [] :=
  ⟨rfl, .inr ⟨w.heap.size, 0, #[], rfl, h, heap_alloc_new w _, Nat.le_refl _, Nat.zero_le _, rfl, rfl⟩⟩
theorem addAt (b o j : Nat) : (⟨b, o, none⟩ : Addr).add j = ⟨b, o + j, none⟩ := by unfold Addr.add; split <;> simp_all
def ClPost (n : Nat) (vs : List Value) (w : World) (e : Ending) (w' : World) : Prop := ∃ v, e = .returned v ∧ (∃ B, w.heap.size ≤ B ∧ w'.ownsRow B 25 1 v n vs) ∧ Below w.heap.size w w'
theorem sl_nil (w : World) (a : Addr) (n c : Nat) : (binOp .eql 33 (.slice (some a) n c) (.slice none 0 0)).run Tryd.prog w = .ok (.bool false) w := by
  have h : ∀ d : Nat, (Op.equalIn (d + 1) 33 (.slice (some a) n c) (.slice none 0 0)).run Tryd.prog w = .ok false w := fun d => by simp [Op.equalIn, run_underlying Tryd.underlying33]
  simp only [binOp]
  simp [Op.equal, Op.maxDepth, h 9999]
theorem sl_none (w : World) (n c : Nat) : (binOp .eql 33 (.slice none n c) (.slice none 0 0)).run Tryd.prog w = .ok (.bool true) w := by
  have h : ∀ d : Nat, (Op.equalIn (d + 1) 33 (.slice none n c) (.slice none 0 0)).run Tryd.prog w = .ok true w := fun d => by simp [Op.equalIn, run_underlying Tryd.underlying33]
  simp only [binOp]
  simp [Op.equal, Op.maxDepth, h 9999]
set_option maxHeartbeats 1600000 in
set_option maxRecDepth 100000 in
theorem clone_any (A : Option Addr) (n c : Nat) (vs : List Value) (w : World) (hvs : vs.length = n) (hn : n ≤ 1000000) (hA : 0 < n → ∃ b o, A = some ⟨b, o, none⟩ ∧ b < w.heap.size ∧ ∀ (j : Nat) u, vs[j]? = some u → w.cell? ⟨b, o + j, none⟩ = some u) (h1 : ∀ u ∈ vs, u.oneCell' = true) :
    Calls Tryd.prog 85 #[.slice A n c] w (ClPost n vs w) := by
  cases A with
  | none =>
    have h0 : n = 0 := by
      rcases Nat.eq_zero_or_pos n with h | h
      · exact h
      · obtain ⟨b, o, e, _⟩ := hA h
        cases e
    have hv0 : vs = [] := List.length_eq_zero_iff.1 (by rw [hvs]; exact h0)
    subst hv0
    have heq := sl_none w n c
    have H0 := Lib.hid h0
    clear hA h1 hvs hn h0
    go_enter Tryd.func85, Tryd.ntmps85
    go_wp2_with fail
    go_ret
    exact ⟨_, rfl, ⟨w.heap.size, Nat.le_refl _, by rw [H0.out]; exact World.ownsRow_nil _ _ _ _⟩, Below.refl _ _⟩
  | some a =>
    have heq := sl_nil w a n c
    have hcells : ∀ (j : Nat) u, vs[j]? = some u → (w.alloc (.cells #[] 25)).cell? (a.add j) = some u := by
      intro j u hu
      obtain ⟨b, o, e, hb, hc⟩ := hA (by have := (List.getElem?_eq_some_iff.1 hu).1; omega)
      injection e with e
      subst e
      rw [addAt]
      exact (((Below.refl w.heap.size w).alloc (Nat.le_refl _) _).cell hb).trans (hc j u hu)
    have HV := Lib.hid hvs
    have HC := Lib.hid hcells
    have H1 := Lib.hid h1
    have HM := Lib.hid (own_made (w := w) (Nat.le_refl _) 25)
    obtain ⟨i0, hi, hz0, hz1, hz2⟩ := info_parts infoPtr
    clear hA h1 hvs hcells
    go_enter Tryd.func85, Tryd.ntmps85
    go_wp2_with (at_builtin; (refine wpList_append_own_at _ rfl _ _ 33 rfl w.heap.size 25 i0 (.pointer none) 1 8 Tryd.underlying33 hi hz0 hz1 hz2 rfl (by decide) (.slice (some ⟨w.heap.size, 0, none⟩) 0 0) 0 [] rfl HM.out a n c vs rfl (by rw [HV.out, Nat.mul_one]) HC.out H1.out (by unfold maxLen; omega) (by omega) (by simp) ?_); intro v4 w4 hown4 hgrow4 _ _)
    go_ret
    have hb := ((Below.refl w.heap.size w).alloc (Nat.le_refl _) (.cells #[] 25)).grown hgrow4 (by simp) (fun k hk => by simp [Value.ownBlock] at hk; omega)
    exact ⟨_, rfl, ⟨w.heap.size, Nat.le_refl _, by simpa using hown4⟩, hb⟩

/-! ### twin -/
theorem ptr_nil2 (w : World) (a : Addr) : (binOp .eql 25 (.pointer (some a)) (.pointer none)).run Tryd.prog w = .ok (.bool false) w := by
  have h : ∀ d : Nat, (Op.equalIn (d + 1) 25 (.pointer (some a)) (.pointer none)).run Tryd.prog w = .ok false w := fun d => by simp [Op.equalIn, run_underlying Tryd.underlying25]
  simp only [binOp]
  simp [Op.equal, Op.maxDepth, h 9999]
theorem InF.vals {w : World} {S : Nat → Prop} : ∀ {f : Fr} {b o : Nat}, InF w S f b o → ∃ us, PtF w S us f ∧ ∀ (j : Nat) u, us[j]? = some u → w.cell? ⟨b, o + j, none⟩ = some u
  | .nil, b, o, _ => ⟨[], trivial, fun j u h => by simp at h⟩
  | .cons x k r, b, o, ⟨⟨v, hv, hn⟩, hr⟩ => by
    obtain ⟨us, h1, h2⟩ := InF.vals (f := r) hr
    refine ⟨v :: us, ⟨hn, h1⟩, fun j u hu => ?_⟩
    cases j with
    | zero => simp at hu; subst hu; exact hv
    | succ j =>
      have := h2 j u (by simpa using hu)
      rw [show o + (j + 1) = o + 1 + j by omega]
      exact this
theorem Kid.vals {w : World} {S : Nat → Prop} {A : Option Addr} {f : Fr} (h : Kid w S A f 0) (hS : Bel S w.heap.size) : ∃ us, PtF w S us f ∧ (0 < f.len → ∃ b o, A = some ⟨b, o, none⟩ ∧ b < w.heap.size ∧ ∀ (j : Nat) u, us[j]? = some u → w.cell? ⟨b, o + j, none⟩ = some u) := by
  rcases Nat.eq_zero_or_pos f.len with h0 | h0
  · have : f = .nil := by
      cases f with
      | nil => rfl
      | cons x k r => simp [Fr.len] at h0
    subst this
    exact ⟨[], trivial, fun h => by omega⟩
  · obtain ⟨kb, ko, hA, h1, h2⟩ := h h0
    obtain ⟨us, h3, h4⟩ := InF.vals h2
    exact ⟨us, h3, fun _ => ⟨kb, ko, hA, hS _ h1, h4⟩⟩
theorem own_slice {w : World} {base : Nat} {e : TypeId} {v : Value} {n : Nat} {xs : List Value} (h : w.ownsRow base e 1 v n xs) : ∃ A c, v = .slice A n c := by
  rcases h.2 with ⟨h1, h2⟩ | ⟨g, cap, cur, h1, _⟩
  · exact ⟨none, 0, by rw [h1, h2]⟩
  · exact ⟨_, _, h1⟩
end Go.Proofs.YtmiicfdigkkbdaaDoor
namespace Go.Proofs.YtmiicfdigkkbdaaDoor
open Go.RowKit

theorem own_slice5 {w : World} {base : Nat} {e : TypeId} {v : Value} {n : Nat} {xs : List Value} (h : w.ownsRow base e 5 v n xs) : ∃ A c, v = .slice A n c := by
  rcases h.2 with ⟨h1, h2⟩ | ⟨g, cap, cur, h1, _⟩
  · exact ⟨none, 0, by rw [h1, h2]⟩
  · exact ⟨_, _, h1⟩
theorem five_news {w : World} {B : Nat} {a b c d v : Value} {t : TypeId} {z : Nat × Nat} (hb : w.heap[B]? = some (.cells #[a, b, c, d, v] t z)) : ∀ j u, [a, b, c, d, v][j]? = some u → w.cell? ((⟨B, 0, none⟩ : Addr).add j) = some u := fun j u hu => by
  rw [addAt, Nat.zero_add, cell_of_row w B j _ t z hb]
  simpa using hu
theorem five_one {a b : Int} {s t : ByteArray} {v : Value} (h : v.oneCell' = true) : ∀ u ∈ [Value.int .i64 a, .int .i64 b, .string s, .string t, v], u.oneCell' = true := by
  intro u hu
  simp only [List.mem_cons, List.not_mem_nil, or_false] at hu
  rcases hu with rfl | rfl | rfl | rfl | rfl
  · rfl
  · rfl
  · rfl
  · rfl
  · exact h
end Go.Proofs.YtmiicfdigkkbdaaDoor
namespace Go.Proofs.YtmiicfdigkkbdaaDoor
open Go.RowKit

/-! ### SameCells -/
theorem CelAt.open {w : World} {B b o : Nat} {c : Cel} (h : CelAt w B b o c) : ∃ KA kc, w.cell? ⟨b, o, none⟩ = some (.int .i64 c.x.k) ∧ w.cell? ⟨b, o + 1, none⟩ = some (.int .i64 c.x.n) ∧ w.cell? ⟨b, o + 2, none⟩ = some (.string c.x.a) ∧ w.cell? ⟨b, o + 3, none⟩ = some (.string c.x.m) ∧ w.cell? ⟨b, o + 4, none⟩ = some (.slice KA c.ks.length kc) ∧ Sp w B (.slice KA c.ks.length kc) c.ks := by
  obtain ⟨h0, h1, h2, h3, kv, h4, KA, kc, rfl, h5⟩ := h
  exact ⟨KA, kc, h0, h1, h2, h3, h4, KA, kc, rfl, h5⟩
end Go.Proofs.YtmiicfdigkkbdaaDoor
namespace Go.Proofs.YtmiicfdigkkbdaaDoor
open Go.RowKit

theorem PtF.set {w : World} {S : Nat → Prop} {v : Value} {t : Tr} (hv : InT w S v t) : ∀ {vs : List Value} {f : Fr} {m : Nat}, PtF w S vs f → PtF w S (vs.set m v) (f.set m t)
  | [], .nil, _, _ => trivial
  | [], .cons _ _ _, _, h => h.elim
  | _ :: _, .nil, _, h => h.elim
  | _ :: _, .cons _ _ _, 0, h => ⟨hv, h.2⟩
  | _ :: _, .cons _ _ _, _ + 1, h => ⟨h.1, PtF.set hv h.2⟩
theorem PtF.at {w : World} {S : Nat → Prop} : ∀ {vs : List Value} {f : Fr} {m : Nat} {t : Tr}, PtF w S vs f → f.get m = some t → ∃ v, vs[m]? = some v ∧ InT w S v t
  | [], .nil, _, _, _, h => by cases h
  | [], .cons _ _ _, _, _, h, _ => h.elim
  | _ :: _, .nil, _, _, h, _ => h.elim
  | v :: _, .cons _ _ _, 0, _, h, hg => by injection hg with hg; subst hg; exact ⟨v, rfl, h.1⟩
  | _ :: vs, .cons _ _ rs, m + 1, _, h, hg => PtF.at (vs := vs) (f := rs) (m := m) h.2 hg
theorem cell_same {w : World} {a : Addr} {v u : Value} (h : w.cell? a = some v) : (w.setCell a u).cell? a = some u := by
  apply World.cell?_setCell_same
  exact h
end Go.Proofs.YtmiicfdigkkbdaaDoor
namespace Go.Proofs.YtmiicfdigkkbdaaDoor
open Go.RowKit

def trT (s : ByteArray) : ByteArray := s.extract 0 (min s.size 20)
theorem few_more {w wr w5 w6 : World} {H OB B : Nat} {vo v6 kv : Value} {c : Cel} {out : List Cel} {vs : List Value} {ob : Obj} (hHO : H ≤ OB) (hOB : OB < B) (hB : B ≤ wr.heap.size) (hbw : Below H w wr)
    (ho : wr.ownsRow B 47 5 vo out.length (flat out vs)) (hf : CsF wr (So B wr vo) vs out) (hb5 : Below wr.heap.size wr w5) (hx : wr.heap[OB]? = some (.cells #[vo] 24 (0, 0)))
    (hkv : SpS w5 (fun q => wr.heap.size ≤ q ∧ q < w5.heap.size) kv c.ks)
    (ho6 : w6.ownsRow B 47 5 v6 (out.length + 1) (flat out vs ++ [.int .i64 c.x.k, .int .i64 c.x.n, .string c.x.a, .string c.x.m, kv])) (hg6 : (w5.alloc ob).grownBy w6 vo.ownBlock) (hat6 : v6.ownBlock = vo.ownBlock ∨ v6.ownBlock = some (w5.heap.size + 1)) :
    (w6.setCell ⟨OB, 0, none⟩ v6).ownsRow B 47 5 v6 (out ++ [c]).length (flat (out ++ [c]) (vs ++ [kv])) ∧ CsF (w6.setCell ⟨OB, 0, none⟩ v6) (So B (w6.setCell ⟨OB, 0, none⟩ v6) v6) (vs ++ [kv]) (out ++ [c]) ∧
      (w6.setCell ⟨OB, 0, none⟩ v6).heap[OB]? = some (.cells #[v6] 24 (0, 0)) ∧ Below H w (w6.setCell ⟨OB, 0, none⟩ v6) ∧ (∀ b, b < wr.heap.size → b ≠ OB → vo.ownBlock ≠ some b → (w6.setCell ⟨OB, 0, none⟩ v6).heap[b]? = wr.heap[b]?) := by
  have hol := ho.lt
  have h6l := ho6.lt
  have hs5 := hb5.size
  have hsa : (w5.alloc ob).heap.size = w5.heap.size + 1 := by simp
  have hs6 := hg6.size
  have hsz : (w6.setCell ⟨OB, 0, none⟩ v6).heap.size = w6.heap.size := by simp [World.setCell]
  have hst5 : ∀ b, b < w5.heap.size → b ≠ OB → vo.ownBlock ≠ some b → (w6.setCell ⟨OB, 0, none⟩ v6).heap[b]? = w5.heap[b]? := by
    intro b h1 h2 h3
    rw [Below.heap_setCell _ _ _ _ h2, hg6.block b (by omega) (fun e => h3 e.symm), Below.heap_alloc _ _ _ h1]
  have hst : ∀ b, b < wr.heap.size → b ≠ OB → vo.ownBlock ≠ some b → (w6.setCell ⟨OB, 0, none⟩ v6).heap[b]? = wr.heap[b]? := fun b h1 h2 h3 => (hst5 b (by omega) h2 h3).trans (hb5.block b h1)
  have hvO : vo.ownBlock ≠ some OB := fun e => by have := (hol OB e).1; omega
  have hx6 : w6.heap[OB]? = some (.cells #[vo] 24 (0, 0)) := by
    rw [hg6.block OB (by have := heap_lt hx; omega) (fun e => hvO e.symm), Below.heap_alloc _ _ _ (by have := heap_lt hx; omega), hb5.block OB (heap_lt hx)]
    exact hx
  have hv6 : ∀ q, q < w5.heap.size → vo.ownBlock ≠ some q → v6.ownBlock ≠ some q := by
    intro q h1 h2
    rcases hat6 with h | h
    · rw [h]; exact h2
    · rw [h]; intro e; injection e with e; omega
  refine ⟨?_, ?_, ?_, ?_, hst⟩
  · rw [flat_app _ _ hf.len, List.length_append]
    exact own_setCell ho6 _ _ fun g hg => by have := (h6l g hg).1; simp only; omega
  · refine CsF.app (hf.keep (fun q hq => ⟨hq.1, by have := hq.2.1; omega, hv6 q (by have := hq.2.1; omega) hq.2.2⟩) fun b hb => hst b hb.2.1 (by have := hb.1; omega) hb.2.2) ⟨hkv.keep (fun q hq => ⟨by omega, by omega, hv6 q hq.2 (fun e => by have := (hol q e).2; omega)⟩) fun b hb => hst5 b hb.2 (by omega) (fun e => by have := (hol b e).2; omega), trivial⟩
  · rw [block_set _ hx6]; rfl
  · have hbs := hbw.size
    exact ((((hbw.trans (hb5.mono (by omega))).alloc (by omega) ob).grown hg6 (by omega) (fun g hg => by have := (hol g hg).1; omega))).setCell hHO _
theorem run_none (w : World) (base : Nat) (v : Value) (n : Nat) (xs : List Value) (hown : w.ownsRow base 3 1 v n xs) (c : Nat) :
    (Builtin.append_ #[45, 45] 45 #[v, .slice none 0 c]).run Tryd.prog w = .ok v w := by
  obtain ⟨i0, hi, hz0, hz1, hz2⟩ := info_parts infoI
  rcases hown.2 with ⟨rfl, rfl⟩ | ⟨g, cap, cur, rfl, _, _, hnc, _⟩
  · simp [Builtin.append_, run_underlying Tryd.underlying45, sizeOf, typeInfo, hi, Builtin.lenOf, Builtin.firstCells]
  · simp [Builtin.append_, run_underlying Tryd.underlying45, sizeOf, typeInfo, hi, Builtin.lenOf, Builtin.firstCells, hnc, storeCells]
theorem run_kids (w : World) (A : Option Addr) (M c : Nat) (l : List Int) (hM : l.length = M) (hs : ∀ (j : Nat) u, l[j]? = some u → ∃ b o, A = some ⟨b, o, none⟩ ∧ b < w.heap.size ∧ w.cell? ⟨b, o + j, none⟩ = some (.int .i64 u)) (hl : l.length ≤ 12) :
    ∃ v' w', (Builtin.append_ #[45, 45] 45 #[.slice (some ⟨w.heap.size, 0, none⟩) 0 0, .slice A M c]).run Tryd.prog (w.alloc (.cells #[] 3)) = .ok v' w' ∧
      SpS w' (fun q => w.heap.size ≤ q ∧ q < w'.heap.size) v' l ∧ Below w.heap.size w w' := by
  subst hM
  obtain ⟨i0, hi, hz0, hz1, hz2⟩ := info_parts infoI
  have hown := own_made (w := w) (Nat.le_refl _) 3
  have hba := (Below.refl w.heap.size w).alloc (Nat.le_refl _) (.cells #[] 3)
  rcases A with _ | ad
  · have hl : l = [] := by
      cases l with
      | nil => rfl
      | cons x t =>
        obtain ⟨b, o, h, _⟩ := hs 0 x rfl
        cases h
    subst hl
    exact ⟨_, _, run_none _ _ _ _ _ hown c, SpS.own (l := []) hown (fun g hg => by injection hg with hg; subst hg; simp), hba⟩
  · obtain ⟨v', w', h1, h2, h3, h4⟩ := run_append_own (P := Tryd.prog) (w.alloc (.cells #[] 3)) w.heap.size 45 45 3 i0 (.int .i64 0) 1 8 Tryd.underlying45 hi hz0 hz1 hz2 rfl (by decide) _ 0 [] hown ad l.length c (ints l)
      (by simp [ints]) (fun j u hu => by
        obtain ⟨r, hr, rfl⟩ : ∃ r, l[j]? = some r ∧ Value.int .i64 r = u := by
          unfold ints at hu
          rw [List.getElem?_map] at hu
          exact Option.map_eq_some_iff.1 hu
        obtain ⟨b, o, h, hb, hcell⟩ := hs j r hr
        have h := Option.some.inj h
        subst h
        rw [addAt]
        exact (hba.cell (p := ⟨b, o + j, none⟩) hb).trans hcell) (fun x hx => by obtain ⟨_, _, rfl⟩ := List.mem_map.1 hx; rfl) (by unfold maxLen; omega) (by omega) (by simp)
    refine ⟨v', w', h1, SpS.own (l := l) (by simpa using h2) (fun g hg => h2.lt g hg), hba.grown h3 (by simp) (fun k hk => by simp [Value.ownBlock] at hk; omega)⟩
theorem wpList_app {ops : Array Oper} {rest : List Oper} {o : Oper} {a : Act} {w w' : World} {v v1 v2 : Value} {Q : Exit → Act → World → Prop} (s x : Operand) (t : TypeId)
    (hw : Region.wanted o (yielded ops a.tmps) = true) (ho : o.op = .call { callee := .builtin .append, args := #[s, x], argTypes := #[t, t] }) (h1 : a.eval s = v1) (h2 : a.eval x = v2)
    (hr : (Builtin.append_ #[t, t] o.type #[v1, v2]).run Tryd.prog w = .ok v w') (h : wpList Tryd.prog ops Q rest (a.put o.dst v) w') : wpList Tryd.prog ops Q (o :: rest) a w := by
  refine wpList_step fun K hK => ?_
  rw [if_pos hw]
  unfold Oper.wp execOp
  simp only [ho, resolve, invoke, builtin, Sem.run_bind, Sem.run_pure, Result.andThen_ok, List.map_toArray, List.map_cons, List.map_nil, h1, h2, hr]
  exact hK _ _ h
theorem ob_grown {w7 w8 : World} {ob o : Obj} {OB B n : Nat} {vo : Value} {xs : List Value} (ho : w7.ownsRow B 47 5 vo n xs) (hOB : OB < B) (hlt : OB < w7.heap.size) (hg : (w7.alloc ob).grownBy w8 vo.ownBlock) (hx : w7.heap[OB]? = some o) : w8.heap[OB]? = some o :=
  ((hg.block OB (by simp; omega) (fun e => by have := (ho.lt OB e.symm).1; omega)).trans (Below.heap_alloc _ _ _ hlt)).trans hx
theorem wtk {P : Program} {ops : Array Oper} {Q : Exit → Act → World → Prop} {md : Region.Mode} {i : Nat} {oi : Oper} {v : Value} {fuel : Nat} {listed : Array Bool} {a : Act} {w : World} (hi : ops[i]? = some oi) (hc : (Region.noSelect ops && (Region.free md ops listed i && (Region.ready md ops listed).contains i)) = true)
    (hw : Region.wanted oi (yielded ops a.tmps) = true) (hy : ∀ w, (execOp a.eval oi).run P w = .ok (.value v) w) (h : wpAny P md ops Q fuel (listed.setIfInBounds i true) (a.put oi.dst v) w) (hQ : ∀ c a w, Q (.panic c) (a.put oi.dst v) w → Q (.panic c) a w := by exact fun _ _ _ h => h) : wpAny P md ops Q (fuel + 1) listed a w := by
  rw [Bool.and_eq_true, Bool.and_eq_true] at hc
  exact wpAny_take hi hc.1 hc.2.1 hc.2.2 hQ (Or.inl ⟨hw, hy⟩) h
end Go.Proofs.YtmiicfdigkkbdaaDoor
