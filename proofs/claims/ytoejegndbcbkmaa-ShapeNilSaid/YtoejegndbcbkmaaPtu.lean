/-
  Paths: what its loops need.
-/
import Derived.Test.YtoejegndbcbkmaaPth
import Derived.Maps.AppendAt
namespace Go.Proofs.Ytoejegndbcbkmaa
open Go.RowKit

theorem Fr.len_snoc (a : Fr) (x : Nod) (k : Fr) : (a.app (.cons x k .nil)).len = a.len + 1 := by rw [Fr.len_app]; rfl
theorem pathsF_snoc (kind : Int) (y : Nod) (l : Fr) : ∀ (a : Fr) (i : Int), pathsF kind (a.app (.cons y l .nil)) i = pathsF kind a i ++ (pathsT kind (y, l)).map (fun p => (i + (a.len : Int)) :: p)
  | .nil, i => by
    show pathsF kind (.cons y l .nil) i = _
    rw [pathsF_cons]
    simp [pathsF, Fr.len]
  | .cons x k r, i => by
    show pathsF kind (.cons x k (r.app (.cons y l .nil))) i = _
    rw [pathsF_cons, pathsF_cons, pathsF_snoc kind y l r (i + 1), List.append_assoc]
    congr 2
    refine List.map_congr_left fun p _ => ?_
    have : i + 1 + (r.len : Int) = i + ((Fr.cons x k r).len : Int) := by simp only [Fr.len]; omega
    rw [this]
theorem pathsF_num (kind : Int) : ∀ (f : Fr) (i : Int), (pathsF kind f i).length ≤ f.sz ∧ ∀ p ∈ pathsF kind f i, p.length ≤ f.sz
  | .nil, i => ⟨Nat.le_refl _, fun p h => by cases h⟩
  | .cons x k r, i => by
    obtain ⟨h1, h2⟩ := pathsF_num kind k 0
    obtain ⟨h3, h4⟩ := pathsF_num kind r (i + 1)
    simp only [pathsF, Fr.sz]
    refine ⟨?_, fun p hp => ?_⟩
    · simp only [List.length_append, List.length_map]
      split
      · simp only [List.length_singleton]; omega
      · simp only [List.length_nil]; omega
    · rcases List.mem_append.1 hp with hp | hp
      · obtain ⟨q, hq, rfl⟩ := List.mem_map.1 hp
        simp only [List.length_cons]
        rcases List.mem_append.1 hq with hq | hq
        · split at hq
          · simp only [List.mem_singleton] at hq; subst hq; simp only [List.length_nil]; omega
          · cases hq
        · have := h2 q hq; omega
      · have := h4 p hp; omega
theorem pathsT_num (kind : Int) (t : Tr) : (pathsT kind t).length ≤ szT t ∧ ∀ p ∈ pathsT kind t, p.length ≤ szT t := by
  obtain ⟨h1, h2⟩ := pathsF_num kind t.2 0
  unfold pathsT szT
  refine ⟨?_, fun p hp => ?_⟩
  · rw [List.length_append]
    split
    · simp only [List.length_singleton]; omega
    · simp only [List.length_nil]; omega
  · rcases List.mem_append.1 hp with hp | hp
    · split at hp
      · simp only [List.mem_singleton] at hp; subst hp; simp only [List.length_nil]; omega
      · cases hp
    · have := h2 p hp; omega
theorem tail_nil (w : World) (t ty e : TypeId) (i : TypeInfo) (ht : Try.prog.underlying t = some (.slice e)) (hi : Try.prog.info? e = some i) (b : Addr) :
    (Builtin.append_ #[t, t] ty #[.slice (some b) 1 1, .slice none 0 0]).run Try.prog w = .ok (.slice (some b) 1 1) w := by
  simp [Builtin.append_, run_underlying ht, sizeOf, typeInfo, hi, Builtin.lenOf, run_firstCells_none, storeCells]
def ints (l : List Int) : List Value := l.map fun u => .int .i64 u
theorem Sl1.made {w : World} {S : Nat → Prop} {B : Nat} {v : Value} {l : List Int} {e : TypeId} (h : w.ownsRow B e 1 v l.length (ints l)) (hl : 0 < l.length) (hS : ∀ g, v.ownBlock = some g → S g) : Sl1 w S v l := by
  obtain ⟨g, cap, hv, _, hc⟩ : ∃ g cap, v = .slice (some ⟨g, 0, none⟩) l.length cap ∧ True ∧ l.length ≤ cap := by
    rcases h.2 with ⟨hv, h0⟩ | ⟨g, cap, cur, hv, _, _, hc, _⟩
    · omega
    · exact ⟨g, cap, hv, trivial, hc⟩
  subst hv
  refine .inr ⟨g, cap, rfl, hc, hl, hS g rfl, fun j u hu => ?_⟩
  have h1 := h.cells (g := g) rfl j (.int .i64 u) (by unfold ints; rw [List.getElem?_map, hu]; rfl)
  have e1 : (⟨g, 0, none⟩ : Addr).add j = ⟨g, 0 + j, none⟩ := by unfold Addr.add; split <;> simp_all
  rwa [e1] at h1
/-- The number i, and a path behind it. -/
theorem wpList_tail {ops : Array Oper} {rest : List Oper} {o : Oper} {a : Act} {Q : Exit → Act → World → Prop} {w : World} (hgd : o.guard = none) (s x : Operand)
    (ho : o.op = .call { callee := .builtin .append, args := #[s, x], argTypes := #[44, 44] }) (H : Nat) (hH : H ≤ w.heap.size) (i : Int) (hs : a.eval s = .slice (some ⟨H, 0, none⟩) 1 1)
    (hown : w.ownsRow H 3 1 (.slice (some ⟨H, 0, none⟩) 1 1) 1 [.int .i64 i]) (S : Nat → Prop) (u : Value) (l : List Int) (hx : a.eval x = u) (hu : Sl1 w S u l) (hl : l.length ≤ 1000000000)
    (h : ∀ v' w', w'.ownsRow H 3 1 v' (i :: l).length (ints (i :: l)) → w.grownBy w' (some H) → (v'.ownBlock = some H ∨ v'.ownBlock = some w.heap.size) → wpList Try.prog ops Q rest (a.put o.dst v') w') :
    wpList Try.prog ops Q (o :: rest) a w := by
  obtain ⟨i0, hi, hz0, hz1, hz2⟩ := info_parts infoI
  rcases hu with ⟨rfl, rfl⟩ | ⟨b, c, rfl, hc, h0, hb, hcell⟩
  · refine wpList_plain hgd fun K hK => ?_
    have hr := tail_nil w 44 o.type 3 i0 Try.underlying44 hi ⟨H, 0, none⟩
    unfold Oper.wp execOp
    simp only [ho, resolve, invoke, builtin, Sem.run_bind, Sem.run_pure, Result.andThen_ok, List.map_toArray, List.map_cons, List.map_nil, hs, hx, hr]
    exact hK _ _ (h _ w hown ⟨rfl, rfl, rfl, Nat.le_refl _, fun _ _ _ => rfl⟩ (.inl rfl))
  · refine wpList_append_own_at _ hgd s x 44 ho H 3 i0 _ 1 8 Try.underlying44 hi hz0 hz1 hz2 rfl (by omega) _ 1 [.int .i64 i] hs hown ⟨b, 0, none⟩ l.length c (ints l) hx (by unfold ints; simp) ?_ ?_ (by unfold maxLen; omega) (by omega) hH ?_
    · intro j v hj
      unfold ints at hj
      rw [List.getElem?_map] at hj
      obtain ⟨z, hz, rfl⟩ := Option.map_eq_some_iff.1 hj
      have e1 : (⟨b, 0, none⟩ : Addr).add j = ⟨b, 0 + j, none⟩ := by unfold Addr.add; split <;> simp_all
      rw [e1]
      exact hcell j z hz
    · intro v hv
      unfold ints at hv
      obtain ⟨z, _, rfl⟩ := List.mem_map.1 hv
      rfl
    · intro v' w' h1 h2 _ h4
      refine h v' w' ?_ h2 h4
      have : (i :: l).length = 1 + l.length := by simp only [List.length_cons]; omega
      rw [this]
      exact h1
def optT (kind : Int) (x : Nod) : List (List Int) := if kind < 0 ∨ x.k = kind then [[]] else []
theorem OwnP.below {w w' : World} {H : Nat} {v : Value} {L : List (List Int)} (h : OwnP w H v L) (hb : Below w.heap.size w w') : OwnP w' H v L := by
  obtain ⟨ps, h1, h2⟩ := h
  have hs := hb.size
  exact ⟨ps, own_below h1 hb, h2.keep (by rintro q ⟨a, b, c⟩; exact ⟨a, by omega, c⟩) fun p hp => hb.cell hp.2.1⟩
theorem OwnP.open {w : World} {H : Nat} {v : Value} {L : List (List Int)} (h : OwnP w H v L) : ∃ A c, v = .slice A L.length c ∧ L.length ≤ c ∧ ∀ (j : Nat) (t : List Int), L[j]? = some t → ∃ g u, A = some ⟨g, 0, none⟩ ∧ H ≤ g ∧ g < w.heap.size ∧ w.cell? ⟨g, 0 + j, none⟩ = some u ∧ Sl1 w (So H w v) u t := by
  obtain ⟨ps, h1, h2⟩ := h
  rcases h1.2 with ⟨hv, h0⟩ | ⟨g, cap, cur, hv, hg, hh, hc, _⟩
  · rw [h0]
    refine ⟨none, 0, hv, Nat.le_refl _, fun j t ht => ?_⟩
    have := (List.getElem?_eq_some_iff.1 ht).1
    omega
  · refine ⟨_, cap, hv, hc, fun j t ht => ?_⟩
    obtain ⟨u, hu, hs⟩ := h2.at ht
    have h3 := h1.cells (g := g) (by rw [hv]; rfl) j u hu
    have e1 : (⟨g, 0, none⟩ : Addr).add j = ⟨g, 0 + j, none⟩ := by unfold Addr.add; split <;> simp_all
    rw [e1] at h3
    exact ⟨g, u, rfl, hg, heap_lt hh, h3, hs⟩
def PIn (w w2 : World) (H H2 H3 : Nat) (L : List (List Int)) (vo : Value) (wa : World) : Prop :=
  OwnP wa H vo L ∧ Below H w wa ∧ (∀ g, vo.ownBlock = some g → g < H2 ∨ H3 ≤ g) ∧ (∀ p : Addr, H2 ≤ p.block → p.block < H3 → wa.cell? p = w2.cell? p) ∧ H3 ≤ wa.heap.size
theorem PIn.step {w w2 wa w5 w6 : World} {H H2 H3 : Nat} {L : List (List Int)} {vo v' vo' : Value} {i : Int} {t : List Int} {ps : List Value} {ob1 ob2 : Obj} (hH : H ≤ H2) (h23 : H2 ≤ H3)
    (hb : Below H w wa) (hpp : PpF wa (So H wa vo) ps L) (hlt : ∀ g, vo.ownBlock = some g → g < wa.heap.size) (hvo : ∀ g, vo.ownBlock = some g → g < H2 ∨ H3 ≤ g) (hk : ∀ p : Addr, H2 ≤ p.block → p.block < H3 → wa.cell? p = w2.cell? p) (hs : H3 ≤ wa.heap.size)
    (ho5 : w5.ownsRow wa.heap.size 3 1 v' (i :: t).length (ints (i :: t))) (hg5 : (wa.alloc ob1).grownBy w5 (some wa.heap.size))
    (ho6 : w6.ownsRow H 44 1 vo' (L.length + 1) (ps ++ [v'])) (hg6 : (w5.alloc ob2).grownBy w6 vo.ownBlock) (hat6 : vo'.ownBlock = vo.ownBlock ∨ vo'.ownBlock = some (w5.heap.size + 1)) (hge : ∀ g, vo.ownBlock = some g → H ≤ g) :
    PIn w w2 H H2 H3 (L ++ [i :: t]) vo' w6 := by
  have hasz : (wa.alloc ob1).heap.size = wa.heap.size + 1 := by simp
  have h5sz : (w5.alloc ob2).heap.size = w5.heap.size + 1 := by simp
  have hs5 := hg5.size
  have hs6 := hg6.size
  have hb5 : Below wa.heap.size wa w5 := ((Below.refl wa.heap.size wa).alloc (Nat.le_refl _) ob1).grown hg5 (by omega) (fun k hk => by injection hk with hk; omega)
  have hpp5 : PpF w5 (So H w5 vo) ps L := hpp.keep (by rintro q ⟨a, b, c⟩; exact ⟨a, by omega, c⟩) fun p hp => hb5.cell hp.2.1
  have hu5 : Sl1 w5 (So H w5 vo) v' (i :: t) := Sl1.made ho5 (by simp) fun g hg => by
    have h1 := ho5.lt g hg
    refine ⟨by omega, h1.2, fun he => ?_⟩
    have := hlt g he
    omega
  refine ⟨path_more hpp5 hu5 ho6 hg6 hat6, ?_, ?_, ?_, by omega⟩
  · have h1 := hb.trans (hb5.mono (by omega))
    exact (h1.alloc (by have := h1.size; have := hb.size; omega) ob2).grown hg6 (by have := h1.size; have := hb.size; omega) hge
  · intro g hg
    rcases hat6 with h | h
    · exact hvo g (by rw [← h]; exact hg)
    · rw [h] at hg; injection hg with hg; omega
  · intro p h1 h2
    rw [hg6.cell_far p (by omega) (fun e => by have := hvo _ e.symm; omega), ((Below.refl w5.heap.size w5).alloc (Nat.le_refl _) ob2).cell (by omega), hb5.cell (by omega)]
    exact hk p h1 h2
end Go.Proofs.Ytoejegndbcbkmaa
