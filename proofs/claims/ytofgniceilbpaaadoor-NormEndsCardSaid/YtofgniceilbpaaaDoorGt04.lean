/-
  Paths: what its loops need.
-/
import Derived.Test.YtofgniceilbpaaaDoorGt03
import Derived.Deep.RegionLaw
namespace Go.Proofs.YtofgniceilbpaaaDoor
open Go.RowKit

theorem tail_nil (w : World) (t ty e : TypeId) (i : TypeInfo) (ht : Tryd.prog.underlying t = some (.slice e)) (hi : Tryd.prog.info? e = some i) (b : Addr) :
    (Builtin.append_ #[t, t] ty #[.slice (some b) 1 1, .slice none 0 0]).run Tryd.prog w = .ok (.slice (some b) 1 1) w := by
  simp [Builtin.append_, run_underlying ht, sizeOf, typeInfo, hi, Builtin.lenOf, run_firstCells_none, storeCells]
def ints (l : List Int) : List Value := l.map fun u => .int .i64 u
theorem Sl1.made {w : World} {S : Nat → Prop} {B : Nat} {v : Value} {l : List Int} {e : TypeId} (h : w.ownsRow B e 1 v l.length (ints l)) (hl : 0 < l.length) (hS : ∀ g, v.ownBlock = some g → S g) : Sl1 w S v l := by
  obtain ⟨g, cap, hv, _, hc⟩ : ∃ g cap, v = .slice (some ⟨g, 0, none⟩) l.length cap ∧ True ∧ l.length ≤ cap := by
    rcases h.2 with ⟨hv, h0⟩ | ⟨g, cap, cur, hv, _, _, hc, _⟩
    · omega
    · exact ⟨g, cap, hv, trivial, hc⟩
  subst hv
  refine .inr ⟨g, cap, rfl, hc, hl, hS g rfl, fun j u hu => ?_⟩
  have h1 := h.cells (g := g) rfl j (.int .i64 u) (by unfold ints; rw [List.getElem?_map, hu]; rfl)
  have e1 : (⟨g, 0, none⟩ : Addr).add j = ⟨g, 0 + j, none⟩ := by unfold Addr.add; split <;> simp_all
  rwa [e1] at h1
theorem wpList_tail {ops : Array Oper} {rest : List Oper} {o : Oper} {a : Act} {Q : Exit → Act → World → Prop} {w : World} (hgd : o.guard = none) (s x : Operand)
    (ho : o.op = .call { callee := .builtin .append, args := #[s, x], argTypes := #[49, 49] }) (H : Nat) (hH : H ≤ w.heap.size) (i : Int) (hs : a.eval s = .slice (some ⟨H, 0, none⟩) 1 1)
    (hown : w.ownsRow H 3 1 (.slice (some ⟨H, 0, none⟩) 1 1) 1 [.int .i64 i]) (S : Nat → Prop) (u : Value) (l : List Int) (hx : a.eval x = u) (hu : Sl1 w S u l) (hl : l.length ≤ 1000000000)
    (h : ∀ v' w', w'.ownsRow H 3 1 v' (i :: l).length (ints (i :: l)) → w.grownBy w' (some H) → (v'.ownBlock = some H ∨ v'.ownBlock = some w.heap.size) → wpList Tryd.prog ops Q rest (a.put o.dst v') w') :
    wpList Tryd.prog ops Q (o :: rest) a w := by
  obtain ⟨i0, hi, hz0, hz1, hz2⟩ := info_parts infoI
  rcases hu with ⟨rfl, rfl⟩ | ⟨b, c, rfl, hc, h0, hb, hcell⟩
  · refine wpList_plain hgd fun K hK => ?_
    have hr := tail_nil w 49 o.type 3 i0 Tryd.underlying49 hi ⟨H, 0, none⟩
    unfold Oper.wp execOp
    simp only [ho, resolve, invoke, builtin, Sem.run_bind, Sem.run_pure, Result.andThen_ok, List.map_toArray, List.map_cons, List.map_nil, hs, hx, hr]
    exact hK _ _ (h _ w hown ⟨rfl, rfl, rfl, Nat.le_refl _, fun _ _ _ => rfl⟩ (.inl rfl))
  · refine wpList_append_own_at _ hgd s x 49 ho H 3 i0 _ 1 8 Tryd.underlying49 hi hz0 hz1 hz2 rfl (by omega) _ 1 [.int .i64 i] hs hown ⟨b, 0, none⟩ l.length c (ints l) hx (by unfold ints; simp) ?_ ?_ (by unfold maxLen; omega) (by omega) hH ?_
    · intro j v hj
      unfold ints at hj
      rw [List.getElem?_map] at hj
      obtain ⟨z, hz, rfl⟩ := Option.map_eq_some_iff.1 hj
      have e1 : (⟨b, 0, none⟩ : Addr).add j = ⟨b, 0 + j, none⟩ := by unfold Addr.add; split <;> simp_all
      rw [e1]
      exact hcell j z hz
    · intro v hv
      unfold ints at hv
      obtain ⟨z, _, rfl⟩ := List.mem_map.1 hv
      rfl
    · intro v' w' h1 h2 _ h4
      refine h v' w' ?_ h2 h4
      have : (i :: l).length = 1 + l.length := by simp only [List.length_cons]; omega
      rw [this]
      exact h1
theorem OwnP.below {w w' : World} {H : Nat} {v : Value} {L : List (List Int)} (h : OwnP w H v L) (hb : Below w.heap.size w w') : OwnP w' H v L := by
  obtain ⟨ps, h1, h2⟩ := h
  have hs := hb.size
  exact ⟨ps, own_below h1 hb, h2.keep (by rintro q ⟨a, b, c⟩; exact ⟨a, by omega, c⟩) fun p hp => hb.cell hp.2.1⟩
theorem OwnP.open {w : World} {H : Nat} {v : Value} {L : List (List Int)} (h : OwnP w H v L) : ∃ A c, v = .slice A L.length c ∧ L.length ≤ c ∧ ∀ (j : Nat) (t : List Int), L[j]? = some t → ∃ g u, A = some ⟨g, 0, none⟩ ∧ H ≤ g ∧ g < w.heap.size ∧ w.cell? ⟨g, 0 + j, none⟩ = some u ∧ Sl1 w (So H w v) u t := by
  obtain ⟨ps, h1, h2⟩ := h
  rcases h1.2 with ⟨hv, h0⟩ | ⟨g, cap, cur, hv, hg, hh, hc, _⟩
  · rw [h0]
    refine ⟨none, 0, hv, Nat.le_refl _, fun j t ht => ?_⟩
    have := (List.getElem?_eq_some_iff.1 ht).1
    omega
  · refine ⟨_, cap, hv, hc, fun j t ht => ?_⟩
    obtain ⟨u, hu, hs⟩ := h2.at ht
    have h3 := h1.cells (g := g) (by rw [hv]; rfl) j u hu
    have e1 : (⟨g, 0, none⟩ : Addr).add j = ⟨g, 0 + j, none⟩ := by unfold Addr.add; split <;> simp_all
    rw [e1] at h3
    exact ⟨g, u, rfl, hg, heap_lt hh, h3, hs⟩
def PIn (w w2 : World) (H H2 H3 : Nat) (L : List (List Int)) (vo : Value) (wa : World) : Prop :=
  OwnP wa H vo L ∧ Below H w wa ∧ (∀ g, vo.ownBlock = some g → g < H2 ∨ H3 ≤ g) ∧ (∀ p : Addr, H2 ≤ p.block → p.block < H3 → wa.cell? p = w2.cell? p) ∧ H3 ≤ wa.heap.size
theorem PIn.step {w w2 wa w5 w6 : World} {H H2 H3 : Nat} {L : List (List Int)} {vo v' vo' : Value} {i : Int} {t : List Int} {ps : List Value} {ob1 ob2 : Obj} (hH : H ≤ H2) (h23 : H2 ≤ H3)
    (hb : Below H w wa) (hpp : PpF wa (So H wa vo) ps L) (hlt : ∀ g, vo.ownBlock = some g → g < wa.heap.size) (hvo : ∀ g, vo.ownBlock = some g → g < H2 ∨ H3 ≤ g) (hk : ∀ p : Addr, H2 ≤ p.block → p.block < H3 → wa.cell? p = w2.cell? p) (hs : H3 ≤ wa.heap.size)
    (ho5 : w5.ownsRow wa.heap.size 3 1 v' (i :: t).length (ints (i :: t))) (hg5 : (wa.alloc ob1).grownBy w5 (some wa.heap.size))
    (ho6 : w6.ownsRow H 49 1 vo' (L.length + 1) (ps ++ [v'])) (hg6 : (w5.alloc ob2).grownBy w6 vo.ownBlock) (hat6 : vo'.ownBlock = vo.ownBlock ∨ vo'.ownBlock = some (w5.heap.size + 1)) (hge : ∀ g, vo.ownBlock = some g → H ≤ g) :
    PIn w w2 H H2 H3 (L ++ [i :: t]) vo' w6 := by
  have hasz : (wa.alloc ob1).heap.size = wa.heap.size + 1 := by simp
  have h5sz : (w5.alloc ob2).heap.size = w5.heap.size + 1 := by simp
  have hs5 := hg5.size
  have hs6 := hg6.size
  have hb5 : Below wa.heap.size wa w5 := ((Below.refl wa.heap.size wa).alloc (Nat.le_refl _) ob1).grown hg5 (by omega) (fun k hk => by injection hk with hk; omega)
  have hpp5 : PpF w5 (So H w5 vo) ps L := hpp.keep (by rintro q ⟨a, b, c⟩; exact ⟨a, by omega, c⟩) fun p hp => hb5.cell hp.2.1
  have hu5 : Sl1 w5 (So H w5 vo) v' (i :: t) := Sl1.made ho5 (by simp) fun g hg => by
    have h1 := ho5.lt g hg
    refine ⟨by omega, h1.2, fun he => ?_⟩
    have := hlt g he
    omega
  refine ⟨path_more hpp5 hu5 ho6 hg6 hat6, ?_, ?_, ?_, by omega⟩
  · have h1 := hb.trans (hb5.mono (by omega))
    exact (h1.alloc (by have := h1.size; have := hb.size; omega) ob2).grown hg6 (by have := h1.size; have := hb.size; omega) hge
  · intro g hg
    rcases hat6 with h | h
    · exact hvo g (by rw [← h]; exact hg)
    · rw [h] at hg; injection hg with hg; omega
  · intro p h1 h2
    rw [hg6.cell_far p (by omega) (fun e => by have := hvo _ e.symm; omega), ((Below.refl w5.heap.size w5).alloc (Nat.le_refl _) ob2).cell (by omega), hb5.cell (by omega)]
    exact hk p h1 h2
end Go.Proofs.YtofgniceilbpaaaDoor
namespace Go.Proofs.YtofgniceilbpaaaDoor
open Go.RowKit

def SpS (w : World) (S : Nat → Prop) (v : Value) (l : List Int) : Prop :=
  ∃ A c, v = .slice A l.length c ∧ l.length ≤ c ∧ ∀ (j : Nat) (u : Int), l[j]? = some u → ∃ b o, A = some ⟨b, o, none⟩ ∧ S b ∧ w.cell? ⟨b, o + j, none⟩ = some (.int .i64 u)
theorem SpS.keep {w w' : World} {S S' : Nat → Prop} {v : Value} {l : List Int} (h : SpS w S v l) (hS : ∀ q, S q → S' q) (hk : ∀ b, S b → w'.heap[b]? = w.heap[b]?) : SpS w' S' v l := by
  obtain ⟨A, c, hv, hc, hl⟩ := h
  refine ⟨A, c, hv, hc, fun j u hu => ?_⟩
  obtain ⟨b, o, hA, hb, hcell⟩ := hl j u hu
  exact ⟨b, o, hA, hS b hb, (World.cell?_of_block (w := w) (hk b hb)).trans hcell⟩
theorem SpS.sp {w : World} {S : Nat → Prop} {B : Nat} {v : Value} {l : List Int} (h : SpS w S v l) (hB : Bel S B) : Sp w B v l := by
  obtain ⟨A, c, hv, hc, hl⟩ := h
  refine ⟨A, c, hv, hc, fun j u hu => ?_⟩
  obtain ⟨b, o, hA, hb, hcell⟩ := hl j u hu
  exact ⟨b, o, hA, hB b hb, hcell⟩
theorem SpS.one {w : World} {S : Nat → Prop} {v : Value} {l : List Int} (h : SpS w S v l) : v.oneCell' = true := by
  obtain ⟨A, c, rfl, _⟩ := h
  rfl
theorem ints_at {l : List Int} {j : Nat} {u : Int} (h : l[j]? = some u) : (ints l)[j]? = some (.int .i64 u) := by
  unfold ints
  rw [List.getElem?_map, h]
  rfl
theorem SpS.own {w : World} {S : Nat → Prop} {B : Nat} {v : Value} {l : List Int} {e : TypeId} (h : w.ownsRow B e 1 v l.length (ints l)) (hS : ∀ g, v.ownBlock = some g → S g) : SpS w S v l := by
  rcases h.2 with ⟨rfl, h0⟩ | ⟨g, cap, cur, rfl, _, _, hc, _⟩
  · have : l = [] := List.length_eq_zero_iff.1 h0
    subst this
    exact ⟨none, 0, rfl, Nat.le_refl _, fun j u hu => by simp at hu⟩
  · refine ⟨_, cap, rfl, hc, fun j u hu => ⟨g, 0, rfl, hS g rfl, ?_⟩⟩
    have h1 := h.cells (g := g) rfl j _ (ints_at hu)
    have e1 : (⟨g, 0, none⟩ : Addr).add j = ⟨g, 0 + j, none⟩ := by unfold Addr.add; split <;> simp_all
    rwa [e1] at h1
def flat : List Cel → List Value → List Value
  | [], _ => []
  | _ :: _, [] => []
  | c :: cs, kv :: vs => .int .i64 c.x.k :: .int .i64 c.x.n :: .string c.x.a :: .string c.x.m :: kv :: flat cs vs
def CsF (w : World) (S : Nat → Prop) : List Value → List Cel → Prop
  | [], [] => True
  | kv :: vs, c :: cs => SpS w S kv c.ks ∧ CsF w S vs cs
  | _, _ => False
theorem CsF.len {w : World} {S : Nat → Prop} : ∀ {vs : List Value} {cs : List Cel}, CsF w S vs cs → vs.length = cs.length
  | [], [], _ => rfl
  | [], _ :: _, h => h.elim
  | _ :: _, [], h => h.elim
  | _ :: vs, _ :: cs, h => by simp only [List.length_cons, CsF.len (vs := vs) (cs := cs) h.2]
theorem CsF.keep {w w' : World} {S S' : Nat → Prop} (hS : ∀ q, S q → S' q) (hk : ∀ b, S b → w'.heap[b]? = w.heap[b]?) : ∀ {vs : List Value} {cs : List Cel}, CsF w S vs cs → CsF w' S' vs cs
  | [], [], _ => trivial
  | [], _ :: _, h => h.elim
  | _ :: _, [], h => h.elim
  | _ :: vs, _ :: cs, h => ⟨h.1.keep hS hk, CsF.keep hS hk (vs := vs) (cs := cs) h.2⟩
theorem CsF.app {w : World} {S : Nat → Prop} : ∀ {vs us : List Value} {cs ds : List Cel}, CsF w S vs cs → CsF w S us ds → CsF w S (vs ++ us) (cs ++ ds)
  | [], _, [], _, _, h => h
  | [], _, _ :: _, _, h, _ => h.elim
  | _ :: _, _, [], _, h, _ => h.elim
  | _ :: vs, _, _ :: cs, _, h, h' => ⟨h.1, CsF.app (vs := vs) (cs := cs) h.2 h'⟩
theorem flat_app : ∀ {cs : List Cel} {vs : List Value} (ds : List Cel) (us : List Value), vs.length = cs.length → flat (cs ++ ds) (vs ++ us) = flat cs vs ++ flat ds us
  | [], [], _, _, _ => rfl
  | [], _ :: _, _, _, h => by simp at h
  | _ :: _, [], _, _, h => by simp at h
  | c :: cs, v :: vs, ds, us, h => by
    simp only [List.cons_append, flat, flat_app (cs := cs) (vs := vs) ds us (by simpa using h)]
theorem CsF.one {w : World} {S : Nat → Prop} : ∀ {vs : List Value} {cs : List Cel}, CsF w S vs cs → ∀ u ∈ flat cs vs, u.oneCell' = true
  | [], [], _, u, hu => by cases hu
  | [], _ :: _, h, _, _ => h.elim
  | _ :: _, [], h, _, _ => h.elim
  | v :: vs, c :: cs, h, u, hu => by
    unfold flat at hu
    simp only [List.mem_cons] at hu
    rcases hu with rfl | rfl | rfl | rfl | rfl | hu
    · rfl
    · rfl
    · rfl
    · rfl
    · exact h.1.one
    · exact CsF.one (vs := vs) (cs := cs) h.2 u hu
theorem CsF.at {w : World} {S : Nat → Prop} : ∀ {vs : List Value} {cs : List Cel} {j : Nat} {c : Cel}, CsF w S vs cs → cs[j]? = some c → ∃ kv, SpS w S kv c.ks ∧ (flat cs vs)[j * 5]? = some (.int .i64 c.x.k) ∧ (flat cs vs)[j * 5 + 1]? = some (.int .i64 c.x.n) ∧ (flat cs vs)[j * 5 + 2]? = some (.string c.x.a) ∧
    (flat cs vs)[j * 5 + 3]? = some (.string c.x.m) ∧ (flat cs vs)[j * 5 + 4]? = some kv
  | [], [], _, _, _, h => by simp at h
  | [], _ :: _, _, _, h, _ => h.elim
  | _ :: _, [], _, _, h, _ => h.elim
  | v :: vs, c' :: cs, 0, c, h, hc => by
    simp at hc
    subst hc
    exact ⟨v, h.1, rfl, rfl, rfl, rfl, rfl⟩
  | v :: vs, c' :: cs, j + 1, c, h, hc => by
    obtain ⟨kv, h0, h1, h2, h3, h4, h5⟩ := CsF.at (vs := vs) (cs := cs) (j := j) (c := c) h.2 (by simpa using hc)
    have e : ∀ i, (flat (c' :: cs) (v :: vs))[(j + 1) * 5 + i]? = (flat cs vs)[j * 5 + i]? := by
      intro i
      rw [show (j + 1) * 5 + i = (j * 5 + i) + 1 + 1 + 1 + 1 + 1 by omega]
      simp only [flat, List.getElem?_cons_succ]
    exact ⟨kv, h0, (e 0).trans h1, (e 1).trans h2, (e 2).trans h3, (e 3).trans h4, (e 4).trans h5⟩
def OwnC (w : World) (H : Nat) (v : Value) (cs : List Cel) : Prop := ∃ vs, w.ownsRow H 51 5 v cs.length (flat cs vs) ∧ CsF w (So H w v) vs cs
theorem OwnC.nil (w : World) (H : Nat) : OwnC w H (.slice none 0 0) [] := ⟨[], World.ownsRow_nil _ _ _ _, trivial⟩
theorem OwnC.cls {w : World} {H : Nat} {v : Value} {cs : List Cel} (h : OwnC w H v cs) : Cls w w.heap.size v cs := by
  obtain ⟨vs, ho, hf⟩ := h
  rcases ho.2 with ⟨rfl, h0⟩ | ⟨g, cap, cur, rfl, _, hh, hc, _⟩
  · have : cs = [] := List.length_eq_zero_iff.1 h0
    subst this
    exact ⟨none, 0, rfl, Nat.le_refl _, fun j u hu => by simp at hu⟩
  · refine ⟨_, cap, rfl, hc, fun j u hu => ⟨g, 0, rfl, heap_lt hh, ?_⟩⟩
    obtain ⟨kv, h0, h1, h2, h3, h4, h5⟩ := hf.at hu
    have hcell : ∀ i u, (flat cs vs)[i]? = some u → w.cell? ⟨g, i, none⟩ = some u := fun i u hu => by
      have h1 := ho.cells (g := g) rfl i u hu
      have e1 : (⟨g, 0, none⟩ : Addr).add i = ⟨g, i, none⟩ := by unfold Addr.add; split <;> simp_all
      rwa [e1] at h1
    rw [Nat.zero_add]
    exact ⟨hcell _ _ h1, hcell _ _ h2, hcell _ _ h3, hcell _ _ h4, kv, hcell _ _ h5, h0.sp fun q hq => hq.2.1⟩
theorem OwnC.below {w w' : World} {H : Nat} {v : Value} {cs : List Cel} (h : OwnC w H v cs) (hb : Below w.heap.size w w') : OwnC w' H v cs := by
  obtain ⟨vs, ho, hf⟩ := h
  have hs := hb.size
  exact ⟨vs, own_below ho hb, hf.keep (by rintro q ⟨a, b, c⟩; exact ⟨a, by omega, c⟩) fun b hb' => hb.block b hb'.2.1⟩
theorem infoCel : (Tryd.prog.info? 51).map (fun i => (i.zero, i.size, i.bytes)) = some (some (.agg #[.int .i64 0, .int .i64 0, .string ⟨#[]⟩, .string ⟨#[]⟩, .slice none 0 0]), 5, 72) := by kernel_rfl
end Go.Proofs.YtofgniceilbpaaaDoor
namespace Go.Proofs.YtofgniceilbpaaaDoor
open Go.RowKit

theorem gr_eq {cs : List Cel} (h : okK cs) {i : Nat} (hi : i < cs.length) : gr cs cs.length i = ((cel cs i).x, rowOf ((cel cs i).ks.map fun x => gr cs cs.length x.toNat)) := by
  obtain ⟨n, hn⟩ : ∃ n, cs.length = n + 1 := ⟨cs.length - 1, by omega⟩
  have e : gr cs cs.length i = ((cel cs i).x, rowOf ((cel cs i).ks.map fun x => gr cs n x.toNat)) := by rw [hn]; rfl
  rw [e]
  congr 2
  refine List.map_congr_left fun x hx => ?_
  have hx' := h i _ (cel_lt hi) x hx
  exact gr_fuel h n cs.length x.toNat (by omega) (by omega) (by omega)
theorem three_blocks (w : World) (o1 o2 o3 : Obj) {H : Nat} (hH : w.heap.size = H) : (((w.alloc o1).alloc o2).alloc o3).heap[H]? = some o1 ∧ (((w.alloc o1).alloc o2).alloc o3).heap[H + 1]? = some o2 ∧ (((w.alloc o1).alloc o2).alloc o3).heap[H + 2]? = some o3 ∧
    Below H w (((w.alloc o1).alloc o2).alloc o3) ∧ (((w.alloc o1).alloc o2).alloc o3).heap.size = H + 3 := by
  have s1 : (w.alloc o1).heap.size = H + 1 := by simp; omega
  have s2 : ((w.alloc o1).alloc o2).heap.size = H + 2 := by simp; omega
  have a1 : (w.alloc o1).heap[H]? = some o1 := by rw [← hH]; exact heap_alloc_new w o1
  have a2 : ((w.alloc o1).alloc o2).heap[H + 1]? = some o2 := by rw [← s1]; exact heap_alloc_new _ o2
  have a3 : (((w.alloc o1).alloc o2).alloc o3).heap[H + 2]? = some o3 := by rw [← s2]; exact heap_alloc_new _ o3
  refine ⟨?_, ?_, a3, ((((Below.refl H w).alloc (by omega) o1).alloc (by omega) o2).alloc (by omega) o3), by simp; omega⟩
  · rw [Below.heap_alloc _ _ _ (by omega), Below.heap_alloc _ _ _ (by omega)]; exact a1
  · rw [Below.heap_alloc _ _ _ (by omega)]; exact a2
def No : Nat → Prop := fun _ => False
theorem grow_more {W1 wr w2 w4 : World} {H g4 cap4 k : Nat} {e : TypeId} {vk u : Value} {new : Fr} {x : Nod} {T : Tr} {ps : List Value} {ob : Obj} (hbw : Below (H + 2) W1 wr) (hb2 : Below wr.heap.size wr w2) (hHr : H + 2 < wr.heap.size)
    (hown : wr.ownsRow (H + 3) e 1 vk k ps) (hpt : PtF wr (Sk No (H + 2) wr vk) ps new) (hlen : new.len = k) (hnb2 : Nb w2 (H + 2) x vk) (hvH : vk.ownBlock ≠ some (H + 2)) (hvl : ∀ g, vk.ownBlock = some g → H + 3 ≤ g) (hv2 : InT w2 (Sin No wr w2) u T)
    (ho4 : w4.ownsRow (H + 3) e 1 (.slice (some ⟨g4, 0, none⟩) (k + 1) cap4) (k + 1) (ps ++ [u])) (hg4 : (w2.alloc ob).grownBy w4 vk.ownBlock) (hat4 : vk.ownBlock = some g4 ∨ g4 = w2.heap.size + 1) :
    ∃ ps', (w4.setCell ⟨H + 2, 4, none⟩ (.slice (some ⟨g4, 0, none⟩) (k + 1) cap4)).ownsRow (H + 3) e 1 (.slice (some ⟨g4, 0, none⟩) (k + 1) cap4) (k + 1) ps' ∧
      PtF (w4.setCell ⟨H + 2, 4, none⟩ (.slice (some ⟨g4, 0, none⟩) (k + 1) cap4)) (Sk No (H + 2) (w4.setCell ⟨H + 2, 4, none⟩ (.slice (some ⟨g4, 0, none⟩) (k + 1) cap4)) (.slice (some ⟨g4, 0, none⟩) (k + 1) cap4)) ps' (new.app (.cons T.1 T.2 .nil)) ∧
      Nb (w4.setCell ⟨H + 2, 4, none⟩ (.slice (some ⟨g4, 0, none⟩) (k + 1) cap4)) (H + 2) x (.slice (some ⟨g4, 0, none⟩) (k + 1) cap4) ∧ Below (H + 2) W1 (w4.setCell ⟨H + 2, 4, none⟩ (.slice (some ⟨g4, 0, none⟩) (k + 1) cap4)) ∧
      (Value.slice (some ⟨g4, 0, none⟩) (k + 1) cap4).ownBlock ≠ some (H + 2) ∧ (∀ g, (Value.slice (some ⟨g4, 0, none⟩) (k + 1) cap4).ownBlock = some g → H + 3 ≤ g) := by
  have hs2 := hb2.size
  have hpt2 : PtF w2 (Sk No (H + 2) w2 vk) ps new := hpt.keep (by
    rintro q' (h | ⟨h1, h2, h3⟩)
    · exact h.elim
    · exact .inr ⟨h1, by omega, h3⟩) fun pp hp => hb2.block _ (by
    rcases hp with h | h
    · exact h.elim
    · exact h.2.1)
  have hu2 : InT w2 (Sk No (H + 2) w2 vk) u T := hv2.keep (by
    rintro q' (h | ⟨h1, h2⟩)
    · exact h.elim
    · refine .inr ⟨by omega, h2, fun he => ?_⟩
      have := (hown.lt q' he).2
      omega) fun _ _ => rfl
  have hm := kid_more (w := W1) (t := T) (S := No) (fun q h => h.elim) (hbw.trans (hb2.mono (by omega))) hnb2 hpt2 hvH hu2 (by rw [hlen]; exact ho4) hg4 (by
    rcases hat4 with h | h
    · exact .inl h.symm
    · exact .inr (by rw [← h]; rfl)) hvl
  obtain ⟨⟨ps', ho', hp'⟩, hn', hb', hv1, hv2'⟩ := hm
  rw [Fr.len_app, hlen] at ho'
  exact ⟨ps', ho', hp', hn', hb', hv1, hv2'⟩
theorem row_next {ks : List Int} {k : Nat} {z : Int} (f : Int → Tr) (h : ks[k]? = some z) : rowOf ((ks.take (k + 1)).map f) = (rowOf ((ks.take k).map f)).app (.cons (f z).1 (f z).2 .nil) := by
  rw [List.take_add_one, h, List.map_append]
  exact rowOf_snoc _ _
set_option maxHeartbeats 6400000 in
set_option maxRecDepth 100000 in
theorem refGrow : ∀ (n : Nat) (cs : List Cel) (i : Nat), okK cs → i < cs.length → cs.length ≤ 8192 → (∀ (j : Nat) (c : Cel), cs[j]? = some c → c.ks.length ≤ 1000000) → i < n → ∀ (w : World) (C : Nat) (cv : Value), Cls w C cv cs → C ≤ w.heap.size →
    Calls Tryd.prog 35 #[.agg #[cv], .int .i64 (i : Int)] w (WiPost (gr cs cs.length i) No w)
  | 0, _, i, _, _, _, _, h, _, _, _, _, _ => absurd h (Nat.not_lt_zero _)
  | n + 1, cs, i, hok, hi, hN, hkl, hin, w, C, cv, hcl, hC => by
    have ih := refGrow n cs
    rw [gr_eq hok hi]
    have hkb := hok i _ (cel_lt hi)
    have hml := hkl i _ (cel_lt hi)
    have HKL := Lib.hid hkl
    clear hkl
    have HCL := Lib.hid hcl
    obtain ⟨A, c, rfl, hc, hcell⟩ := hcl
    obtain ⟨b, o, rfl, hb, h0, h1, h2, h3, kv, h4, hkv⟩ := hcell i _ (cel_lt hi)
    obtain ⟨⟨x, ks⟩, hx⟩ : ∃ u, cel cs i = u := ⟨_, rfl⟩
    rw [hx] at h0 h1 h2 h3 hkb hkv hml ⊢
    simp only at h0 h1 h2 h3 hkb hkv hml ⊢
    obtain ⟨KA, kc, rfl, hkc, hkcl⟩ := hkv
    obtain ⟨N, hN'⟩ : ∃ N, cs.length = N := ⟨_, rfl⟩
    rw [hN'] at hi hN hc ih ⊢
    have HOK := Lib.hid hok
    have HKB := Lib.hid hkb
    have HKC := Lib.hid hkcl
    have hiz : (i : Int) < (N : Int) := by omega
    have hbw : b < w.heap.size := by omega
    clear hcell hx hok hkb hkcl
    go_enter Tryd.func35, Tryd.ntmps35
    go_wp2_with fail
    obtain ⟨i0, hi0, hz0, hz1, hz2⟩ := info_parts infoPtr
    obtain ⟨H, hH⟩ : ∃ H, w.heap.size = H := ⟨_, rfl⟩
    obtain ⟨M, hM⟩ : ∃ M, ks.length = M := ⟨_, rfl⟩
    rw [hM] at hkc hml ⊢
    obtain ⟨CV, hCV⟩ : ∃ CV, Value.slice (some ⟨b, o, none⟩) N c = CV := ⟨_, rfl⟩
    obtain ⟨KV, hKV⟩ : ∃ KV, Value.slice KA M kc = KV := ⟨_, rfl⟩
    rw [hN', hCV] at HCL
    obtain ⟨t1, t2, t3, hb1, hs1⟩ := three_blocks w (.cells #[CV] 24) (.cells #[.int .i64 x.k, .int .i64 x.n, .string x.a, .string x.m, KV] 51) (.cells #[.int .i64 x.k, .int .i64 x.n, .string x.a, .string x.m, .slice none 0 0] 47) hH
    obtain ⟨W1, hW1⟩ : ∃ W1, W1 = (((w.alloc (.cells #[CV] 24)).alloc (.cells #[.int .i64 x.k, .int .i64 x.n, .string x.a, .string x.m, KV] 51)).alloc (.cells #[.int .i64 x.k, .int .i64 x.n, .string x.a, .string x.m, .slice none 0 0] 47)) := ⟨_, rfl⟩
    rw [← hW1] at t1 t2 t3 hb1 hs1
    have hcv := cell_of_row W1 H 0 _ _ _ t1
    have hkvc := cell_of_row W1 (H + 1) 4 _ _ _ t2
    have hnb1 : Nb W1 (H + 2) x (.slice none 0 0) := t3
    clear t1 t2 t3
    rw [hCV, hKV, ← hW1]
    rw [hH]
    have hCH : C ≤ H := by omega
    have HKV := Lib.hid hKV
    have HCV := Lib.hid hCV
    have HB1 := Lib.hid hb1
    have HH := Lib.hid hH
    have HMM := Lib.hid hM
    have HCV0 := Lib.hid hcv
    have HKV0 := Lib.hid hkvc
    have hM1 : M ≤ 1000000000 := by omega
    clear hW1 hb1 hCV hKV h0 h1 h2 h3 h4 hH hM hcv hkvc
    go_loopw [7] (fun j wr => ∃ (k : Nat) (vk : Value) (ps : List Value), j = .int .i64 k ∧ k ≤ M ∧ wr.ownsRow (H + 3) 25 1 vk k ps ∧ PtF wr (Sk No (H + 2) wr vk) ps (rowOf ((ks.take k).map fun x => gr cs N x.toNat)) ∧ Nb wr (H + 2) x vk ∧ Below (H + 2) W1 wr ∧ vk.ownBlock ≠ some (H + 2) ∧ (∀ g, vk.ownBlock = some g → H + 3 ≤ g)) (fun j _ => M - (intOf j).toNat)
    case atStart => exact ⟨0, .slice none 0 0, [], rfl, Nat.zero_le _, World.ownsRow_nil _ _ _ _, trivial, hnb1, Below.refl _ _, by simp [Value.ownBlock], by intro g hg; simp [Value.ownBlock] at hg⟩
    case round =>
      obtain ⟨k, vk, ps, rfl, hk, hown, hpt, hnb, hbw, hvH, hvl⟩ := hrel
      have hHr : H + 2 < wr.heap.size := heap_lt hnb
      have hcvr := (hbw.cell (p := ⟨H, 0, none⟩) (by simp only; omega)).trans HCV0.out
      have hkvr := (hbw.cell (p := ⟨H + 1, 4, none⟩) (by simp only; omega)).trans HKV0.out
      rw [← HKV.out] at hkvr
      have hbww : Below H w wr := HB1.out.trans (hbw.mono (by omega))
      have HOWN := Lib.hid hown
      have HPT := Lib.hid hpt
      have HNB := Lib.hid hnb
      have HBW := Lib.hid hbw
      have HBWW := Lib.hid hbww
      have HVH := Lib.hid hvH
      have HVL := Lib.hid hvl
      have cn : wr.cell? ⟨H + 1 + 1, 4, none⟩ = some vk := hnb.cell.1
      have cf : wr.frozen? ⟨H + 1 + 1, 4, none⟩ = false := hnb.cell.2
      clear hown hpt hbw hvH hvl hnb hbww
      by_cases hlt : k < M
      · obtain ⟨z, hz⟩ : ∃ z, ks[k]? = some z := ⟨_, List.getElem?_eq_getElem (by rw [HMM.out]; exact hlt)⟩
        have HROW := Lib.hid (row_next (fun x => gr cs N x.toNat) hz)
        obtain ⟨kb, ko, rfl, hkb2, hkcell0⟩ := HKC.out k z hz
        have hkcell := (HBWW.out.cell (p := ⟨kb, ko + k, none⟩) (by simp only; omega)).trans hkcell0
        obtain ⟨hz0', hz1'⟩ := HKB.out z (List.mem_of_getElem? hz)
        obtain ⟨m, rfl⟩ : ∃ m : Nat, z = (m : Int) := ⟨z.toNat, by omega⟩
        have hkz : (k : Int) < (M : Int) := by omega
        have hkz0 : (0 : Int) ≤ (k : Int) := by omega
        have cI := fun W (hW : Below wr.heap.size wr W) => ih m HOK.out (by omega) hN HKL.out (by omega) W C CV ((HCL.out.below (HBWW.out.mono hCH)).below (hW.mono (by omega))) (by have := hW.size; omega)
        clear hkcell0 hz0' hz1'
        go_wp2_with fail
        have l0 : H < wr.heap.size := by omega
        have l1 : H + 1 < wr.heap.size := by omega
        have l2 : kb < wr.heap.size := by omega
        have e0 : some H ≠ vk.ownBlock := fun e => by have := HVL.out H e.symm; omega
        have e1 : some (H + 1) ≠ vk.ownBlock := fun e => by have := HVL.out (H + 1) e.symm; omega
        have e2 : some kb ≠ vk.ownBlock := fun e => by have := HVL.out kb e.symm; omega
        go_region_law (first
            | (go_simp; go_at_call 35; refine (cI _ (by first | exact Below.refl _ _ | exact below_drewN' (Below.refl _ _) 1)).mono ?_; rintro e w2 ⟨v2, rfl, hv2, hb2'⟩; obtain ⟨q2, o2, rfl⟩ := hv2.ptr; have hv2 : InT w2 (Sin No wr w2) (.pointer (some ⟨q2, o2, none⟩)) (gr cs N m) := hv2; have hb2 : Below wr.heap.size wr w2 := (below_drewN' (Below.refl _ _) 1).trans hb2'; have HB2 := Lib.hid hb2; have hs2 := hb2.size; have HV2 := Lib.hid hv2; have HOWN2 := Lib.hid (own_below HOWN.out hb2); have HNB2 := Lib.hid (show Nb w2 (H + 2) x vk from heap_below HNB.out hb2); have hn2 : w2.cell? ⟨H + 1 + 1, 4, none⟩ = some vk := HNB2.out.cell.1; have hn3 : ∀ ob, (w2.alloc ob).cell? ⟨H + 1 + 1, 4, none⟩ = some vk := fun ob => (((Below.refl w2.heap.size w2).alloc (Nat.le_refl _) ob).cell (cell_lt hn2)).trans hn2; clear hv2 hb2 hb2')
            | (refine step_append_lies _ (by rfl) _ _ _ (by rfl) (H + 3) 25 i0 _ 1 8 Tryd.underlying45 hi0 hz0 hz1 hz2 rfl (by omega) vk k ps (by rfl) (HOWN2.out.alloc _) ⟨w2.heap.size, 0, none⟩ 1 1 [.pointer (some ⟨q2, o2, none⟩)] (by rfl) (by rfl) (cell_one_new _ _ _) (fun x hx => by simp at hx; subst hx; rfl) (by omega) (by unfold maxLen; omega) (by omega) (by simp; omega) (w2.heap.size + 1) (by simp) ?_; intro g4 cap4 w4 hown4 hgrow4 hat4 hlt4; have HOWN4 := Lib.hid hown4; have HG4 := Lib.hid hgrow4; have HAT4 := Lib.hid hat4; have hn4 := HNB2.out.far HG4.out HVH.out; have hc4 : w4.cell? ⟨H + 1 + 1, 4, none⟩ = some vk := hn4.cell.1; have hf4 : w4.frozen? ⟨H + 1 + 1, 4, none⟩ = false := hn4.cell.2; clear hown4 hgrow4 hat4 hn4))
        all_goals
          have HMORE := Lib.hid (grow_more HBW.out HB2.out hHr HOWN.out HPT.out (by rw [rowOf_len, List.length_map, List.length_take]; have := HMM.out; omega) HNB2.out HVH.out HVL.out HV2.out HOWN4.out HG4.out HAT4.out)
          go_wp2_with fail
          go_roundw
          case rel =>
            obtain ⟨ps', r1, r2, r3, r4, r5, r6⟩ := HMORE.out
            exact ⟨k + 1, _, ps', by go_num, by omega, r1, by rw [HROW.out, Int.toNat_natCast]; exact r2, r3, r4, r5, r6⟩
          case measure => simp [intOf]; omega
      · have hkM : k = M := by omega
        have hkz : ¬ (k : Int) < (M : Int) := by omega
        have HFIN : Hid (ks.take k = ks) := Lib.hid (List.take_of_length_le (by rw [HMM.out]; omega))
        have HLT := Lib.hid (fun g he => (HOWN.out.lt g he).2)
        have hlenr : (rowOf ((ks.take k).map fun x => gr cs N x.toNat)).len = k := by rw [rowOf_len, List.length_map, List.length_take]; have := HMM.out; omega
        have HLR := Lib.hid hlenr
        clear hkM hlenr
        go_wp2_with fail
        go_ret
        have hown := HOWN.out
        have hpt := HPT.out
        rw [← HLR.out] at hown
        have htree := OwnT.tree (x := x) (b := H + 2) ⟨ps, hown, hpt.keep (S' := Sin No w wr) (by
          rintro q' (h | ⟨h1, h2, h3⟩)
          · exact h.elim
          · exact .inr ⟨by rw [HH.out]; omega, h2⟩) fun _ _ => rfl⟩ HNB.out (.inr ⟨by rw [HH.out]; omega, hHr⟩) (fun g he => .inr ⟨by have := HVL.out g he; rw [HH.out]; omega, HLT.out g he⟩)
        rw [HFIN.out] at htree
        exact wi_ret htree (by rw [HH.out]; exact HBWW.out)
end Go.Proofs.YtofgniceilbpaaaDoor
