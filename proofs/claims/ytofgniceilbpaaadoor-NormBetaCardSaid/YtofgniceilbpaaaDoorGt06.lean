/-
  The program's Clone over nodes, twin, Copy: what they tell.
-/
import Derived.Test.YtofgniceilbpaaaDoorGt05
import Derived.Deep.DeepCutAuto
import Derived.Deep.Onto
import Derived.Laws.AppendOwnNone
import Derived.Laws.OwnMore
namespace Go.Proofs.YtofgniceilbpaaaDoor
open Go.RowKit

theorem own_made {B : Nat} {w : World} (h : B ≤ w.heap.size) (e : TypeId) : (w.alloc (.cells #[] e)).ownsRow B e 1 (.slice (some ⟨w.heap.size, 0, none⟩) 0 0) 0 [] :=
  ⟨rfl, .inr ⟨w.heap.size, 0, #[], rfl, h, heap_alloc_new w _, Nat.le_refl _, Nat.zero_le _, rfl, rfl⟩⟩
theorem addAt (b o j : Nat) : (⟨b, o, none⟩ : Addr).add j = ⟨b, o + j, none⟩ := by unfold Addr.add; split <;> simp_all
def ClPost (n : Nat) (vs : List Value) (w : World) (e : Ending) (w' : World) : Prop := ∃ v, e = .returned v ∧ (∃ B, w.heap.size ≤ B ∧ w'.ownsRow B 25 1 v n vs) ∧ Below w.heap.size w w'
theorem sl_nil (w : World) (a : Addr) (n c : Nat) : (binOp .eql 45 (.slice (some a) n c) (.slice none 0 0)).run Tryd.prog w = .ok (.bool false) w := by
  have h : ∀ d : Nat, (Op.equalIn (d + 1) 45 (.slice (some a) n c) (.slice none 0 0)).run Tryd.prog w = .ok false w := fun d => by simp [Op.equalIn, run_underlying Tryd.underlying45]
  simp only [binOp]
  simp [Op.equal, Op.maxDepth, h 9999]
theorem sl_none (w : World) (n c : Nat) : (binOp .eql 45 (.slice none n c) (.slice none 0 0)).run Tryd.prog w = .ok (.bool true) w := by
  have h : ∀ d : Nat, (Op.equalIn (d + 1) 45 (.slice none n c) (.slice none 0 0)).run Tryd.prog w = .ok true w := fun d => by simp [Op.equalIn, run_underlying Tryd.underlying45]
  simp only [binOp]
  simp [Op.equal, Op.maxDepth, h 9999]
set_option maxHeartbeats 1600000 in
set_option maxRecDepth 100000 in
theorem clone_any (A : Option Addr) (n c : Nat) (vs : List Value) (w : World) (hvs : vs.length = n) (hn : n ≤ 1000000) (hA : 0 < n → ∃ b o, A = some ⟨b, o, none⟩ ∧ b < w.heap.size ∧ ∀ (j : Nat) u, vs[j]? = some u → w.cell? ⟨b, o + j, none⟩ = some u) (h1 : ∀ u ∈ vs, u.oneCell' = true) :
    Calls Tryd.prog 61 #[.slice A n c] w (ClPost n vs w) := by
  cases A with
  | none =>
    have h0 : n = 0 := by
      rcases Nat.eq_zero_or_pos n with h | h
      · exact h
      · obtain ⟨b, o, e, _⟩ := hA h
        cases e
    have hv0 : vs = [] := List.length_eq_zero_iff.1 (by rw [hvs]; exact h0)
    subst hv0
    have heq := sl_none w n c
    have H0 := Lib.hid h0
    clear hA h1 hvs hn h0
    go_enter Tryd.func61, Tryd.ntmps61
    go_wp2_with fail
    go_ret
    exact ⟨_, rfl, ⟨w.heap.size, Nat.le_refl _, by rw [H0.out]; exact World.ownsRow_nil _ _ _ _⟩, Below.refl _ _⟩
  | some a =>
    have heq := sl_nil w a n c
    have hcells : ∀ (j : Nat) u, vs[j]? = some u → (w.alloc (.cells #[] 25)).cell? (a.add j) = some u := by
      intro j u hu
      obtain ⟨b, o, e, hb, hc⟩ := hA (by have := (List.getElem?_eq_some_iff.1 hu).1; omega)
      injection e with e
      subst e
      rw [addAt]
      exact (((Below.refl w.heap.size w).alloc (Nat.le_refl _) _).cell hb).trans (hc j u hu)
    have HV := Lib.hid hvs
    have HC := Lib.hid hcells
    have H1 := Lib.hid h1
    have HM := Lib.hid (own_made (w := w) (Nat.le_refl _) 25)
    obtain ⟨i0, hi, hz0, hz1, hz2⟩ := info_parts infoPtr
    clear hA h1 hvs hcells
    go_enter Tryd.func61, Tryd.ntmps61
    go_wp2_with (at_builtin; (refine wpList_append_own_at _ rfl _ _ 45 rfl w.heap.size 25 i0 (.pointer none) 1 8 Tryd.underlying45 hi hz0 hz1 hz2 rfl (by decide) (.slice (some ⟨w.heap.size, 0, none⟩) 0 0) 0 [] rfl HM.out a n c vs rfl (by rw [HV.out, Nat.mul_one]) HC.out H1.out (by unfold maxLen; omega) (by omega) (by simp) ?_); intro v4 w4 hown4 hgrow4 _ _)
    go_ret
    have hb := ((Below.refl w.heap.size w).alloc (Nat.le_refl _) (.cells #[] 25)).grown hgrow4 (by simp) (fun k hk => by simp [Value.ownBlock] at hk; omega)
    exact ⟨_, rfl, ⟨w.heap.size, Nat.le_refl _, by simpa using hown4⟩, hb⟩

/-! ### twin -/
theorem ptr_nil2 (w : World) (a : Addr) : (binOp .eql 25 (.pointer (some a)) (.pointer none)).run Tryd.prog w = .ok (.bool false) w := by
  have h : ∀ d : Nat, (Op.equalIn (d + 1) 25 (.pointer (some a)) (.pointer none)).run Tryd.prog w = .ok false w := fun d => by simp [Op.equalIn, run_underlying Tryd.underlying25]
  simp only [binOp]
  simp [Op.equal, Op.maxDepth, h 9999]
theorem InF.vals {w : World} {S : Nat → Prop} : ∀ {f : Fr} {b o : Nat}, InF w S f b o → ∃ us, PtF w S us f ∧ ∀ (j : Nat) u, us[j]? = some u → w.cell? ⟨b, o + j, none⟩ = some u
  | .nil, b, o, _ => ⟨[], trivial, fun j u h => by simp at h⟩
  | .cons x k r, b, o, ⟨⟨v, hv, hn⟩, hr⟩ => by
    obtain ⟨us, h1, h2⟩ := InF.vals (f := r) hr
    refine ⟨v :: us, ⟨hn, h1⟩, fun j u hu => ?_⟩
    cases j with
    | zero => simp at hu; subst hu; exact hv
    | succ j =>
      have := h2 j u (by simpa using hu)
      rw [show o + (j + 1) = o + 1 + j by omega]
      exact this
theorem Kid.vals {w : World} {S : Nat → Prop} {A : Option Addr} {f : Fr} (h : Kid w S A f 0) (hS : Bel S w.heap.size) : ∃ us, PtF w S us f ∧ (0 < f.len → ∃ b o, A = some ⟨b, o, none⟩ ∧ b < w.heap.size ∧ ∀ (j : Nat) u, us[j]? = some u → w.cell? ⟨b, o + j, none⟩ = some u) := by
  rcases Nat.eq_zero_or_pos f.len with h0 | h0
  · have : f = .nil := by
      cases f with
      | nil => rfl
      | cons x k r => simp [Fr.len] at h0
    subst this
    exact ⟨[], trivial, fun h => by omega⟩
  · obtain ⟨kb, ko, hA, h1, h2⟩ := h h0
    obtain ⟨us, h3, h4⟩ := InF.vals h2
    exact ⟨us, h3, fun _ => ⟨kb, ko, hA, hS _ h1, h4⟩⟩
theorem own_slice {w : World} {base : Nat} {e : TypeId} {v : Value} {n : Nat} {xs : List Value} (h : w.ownsRow base e 1 v n xs) : ∃ A c, v = .slice A n c := by
  rcases h.2 with ⟨h1, h2⟩ | ⟨g, cap, cur, h1, _⟩
  · exact ⟨none, 0, by rw [h1, h2]⟩
  · exact ⟨_, _, h1⟩
end Go.Proofs.YtofgniceilbpaaaDoor
namespace Go.Proofs.YtofgniceilbpaaaDoor
open Go.RowKit

def Sx (H : Nat) (w : World) (vo vk : Value) (q : Nat) : Prop := H < q ∧ q < w.heap.size ∧ vo.ownBlock ≠ some q ∧ vk.ownBlock ≠ some q
def CeRel (w : World) (H : Nat) (x : Nod) (vo vk : Value) (cs : List Cel) (rs : List Int) (wr : World) : Prop :=
  ∃ vs, wr.ownsRow (H + 1) 51 5 vo cs.length (flat cs vs) ∧ CsF wr (Sx H wr vo vk) vs cs ∧ wr.ownsRow (H + 1) 3 1 vk rs.length (ints rs) ∧
    wr.heap[H]? = some (.cells #[.int .i64 x.k, .int .i64 x.n, .string x.a, .string x.m, vk] 51 (0, 0)) ∧ Below H w wr ∧ (∀ g, vo.ownBlock = some g → vk.ownBlock ≠ some g)
theorem ints_snoc (l : List Int) (z : Int) : ints (l ++ [z]) = ints l ++ [.int .i64 z] := by simp [ints]
theorem CeRel.step {w wr w2 w4 w6 : World} {H m cap2 g2 : Nat} {x : Nod} {vo vk v4 v6 : Value} {cs ds : List Cel} {rs : List Int} {z : Int} {vs vs2 : List Value} {ob : Obj}
    (ho : wr.ownsRow (H + 1) 51 5 vo cs.length (flat cs vs)) (hf : CsF wr (Sx H wr vo vk) vs cs) (hk : wr.ownsRow (H + 1) 3 1 vk rs.length (ints rs))
    (hc : wr.heap[H]? = some (.cells #[.int .i64 x.k, .int .i64 x.n, .string x.a, .string x.m, vk] 51 (0, 0))) (hbw : Below H w wr) (hap : ∀ g, vo.ownBlock = some g → vk.ownBlock ≠ some g)
    (hb2 : Below wr.heap.size wr w2) (hf2 : CsF w2 (So wr.heap.size w2 (.slice (some ⟨g2, 0, none⟩) m cap2)) vs2 ds)
    (ho4 : w4.ownsRow (H + 1) 51 5 v4 (cs.length + ds.length) (flat cs vs ++ flat ds vs2)) (hg4 : w2.grownBy w4 vo.ownBlock) (hat4 : v4.ownBlock = vo.ownBlock ∨ v4.ownBlock = some w2.heap.size)
    (ho6 : w6.ownsRow (H + 1) 3 1 v6 (rs.length + 1) (ints rs ++ [.int .i64 z])) (hg6 : (w4.alloc ob).grownBy w6 vk.ownBlock) (hat6 : v6.ownBlock = vk.ownBlock ∨ v6.ownBlock = some (w4.heap.size + 1)) :
    CeRel w H x v4 v6 (cs ++ ds) (rs ++ [z]) (w6.setCell ⟨H, 4, none⟩ v6) := by
  have hHr := heap_lt hc
  have hs2 := hb2.size
  have hs4 := hg4.size
  have hsa : (w4.alloc ob).heap.size = w4.heap.size + 1 := by simp
  have hs6 := hg6.size
  have hsz7 : (w6.setCell ⟨H, 4, none⟩ v6).heap.size = w6.heap.size := by simp [World.setCell]
  have hol := ho.lt
  have hkl := hk.lt
  have h4l := ho4.lt
  have h6l := ho6.lt
  -- a block that is neither row's, nor H, stands
  have hst : ∀ b, b < w2.heap.size → b ≠ H → vo.ownBlock ≠ some b → vk.ownBlock ≠ some b → (w6.setCell ⟨H, 4, none⟩ v6).heap[b]? = w2.heap[b]? := by
    intro b h1 h2 h3 h4
    rw [Below.heap_setCell _ _ _ _ h2, hg6.block b (by omega) (fun e => h4 e.symm), Below.heap_alloc _ _ _ (by omega), hg4.block b h1 (fun e => h3 e.symm)]
  have hS : ∀ q, H < q → q < w2.heap.size → vo.ownBlock ≠ some q → vk.ownBlock ≠ some q → Sx H (w6.setCell ⟨H, 4, none⟩ v6) v4 v6 q := by
    intro q h1 h2 h3 h4
    refine ⟨h1, by omega, ?_, ?_⟩
    · rcases hat4 with h | h
      · rw [h]; exact h3
      · rw [h]; intro e; injection e with e; omega
    · rcases hat6 with h | h
      · rw [h]; exact h4
      · rw [h]; intro e; injection e with e; omega
  have hap4 : ∀ g, v4.ownBlock = some g → vk.ownBlock ≠ some g := by
    intro g hg
    rcases hat4 with h | h
    · exact hap g (by rw [← h]; exact hg)
    · rw [h] at hg
      injection hg with hg
      intro e
      have := (hkl g e).2
      omega
  refine ⟨vs ++ vs2, ?_, ?_, ?_, ?_, ?_, ?_⟩
  · rw [List.length_append, flat_app ds vs2 hf.len]
    have h1 : w6.ownsRow (H + 1) 51 5 v4 (cs.length + ds.length) (flat cs vs ++ flat ds vs2) := (ho4.alloc ob).kept hg6 (by
      cases hv : v4.ownBlock with
      | none => exact .inl rfl
      | some g => exact .inr fun e => hap4 g hv e.symm)
    exact own_setCell h1 _ _ fun g hg => by have := (h4l g hg).1; simp only; omega
  · refine CsF.app (hf.keep (fun q h => hS q h.1 (by have := h.2.1; omega) h.2.2.1 h.2.2.2) fun b h => ?_) (hf2.keep (fun q h => ?_) fun b h => ?_)
    · rw [hst b (by have := h.2.1; omega) (by have := h.1; omega) h.2.2.1 h.2.2.2]
      exact hb2.block b h.2.1
    · exact hS q (by have := h.1; omega) h.2.1 (fun e => by have := (hol q e).2; have := h.1; omega) (fun e => by have := (hkl q e).2; have := h.1; omega)
    · exact hst b h.2.1 (by have := h.1; omega) (fun e => by have := (hol b e).2; have := h.1; omega) (fun e => by have := (hkl b e).2; have := h.1; omega)
  · rw [ints_snoc, List.length_append]
    exact own_setCell ho6 _ _ fun g hg => by have := (h6l g hg).1; simp only; omega
  · have h1 : w6.heap[H]? = some (.cells #[.int .i64 x.k, .int .i64 x.n, .string x.a, .string x.m, vk] 51 (0, 0)) := by
      rw [hg6.block H (by omega) (fun e => by have := (hkl H e.symm).1; omega), Below.heap_alloc _ _ _ (by omega), hg4.block H (by omega) (fun e => by have := (hol H e.symm).1; omega), hb2.block H hHr]
      exact hc
    rw [block_set _ h1]
    rfl
  · have h1 := (hbw.trans (hb2.mono (by omega))).grown hg4 (by omega) (fun g hg => by have := (hol g hg).1; omega)
    exact ((h1.alloc (by omega) ob).grown hg6 (by omega) (fun g hg => by have := (hkl g hg).1; omega)).setCell (Nat.le_refl _) _
  · intro g hg e
    rcases hat6 with h | h
    · exact hap4 g hg (by rw [← h]; exact e)
    · rw [h] at e
      injection e with e
      have := (h4l g hg).2
      omega
theorem own_slice5 {w : World} {base : Nat} {e : TypeId} {v : Value} {n : Nat} {xs : List Value} (h : w.ownsRow base e 5 v n xs) : ∃ A c, v = .slice A n c := by
  rcases h.2 with ⟨h1, h2⟩ | ⟨g, cap, cur, h1, _⟩
  · exact ⟨none, 0, by rw [h1, h2]⟩
  · exact ⟨_, _, h1⟩
theorem five_news {w : World} {B : Nat} {a b c d v : Value} {t : TypeId} {z : Nat × Nat} (hb : w.heap[B]? = some (.cells #[a, b, c, d, v] t z)) : ∀ j u, [a, b, c, d, v][j]? = some u → w.cell? ((⟨B, 0, none⟩ : Addr).add j) = some u := fun j u hu => by
  rw [addAt, Nat.zero_add, cell_of_row w B j _ t z hb]
  simpa using hu
theorem five_one {a b : Int} {s t : ByteArray} {v : Value} (h : v.oneCell' = true) : ∀ u ∈ [Value.int .i64 a, .int .i64 b, .string s, .string t, v], u.oneCell' = true := by
  intro u hu
  simp only [List.mem_cons, List.not_mem_nil, or_false] at hu
  rcases hu with rfl | rfl | rfl | rfl | rfl
  · rfl
  · rfl
  · rfl
  · rfl
  · exact h
end Go.Proofs.YtofgniceilbpaaaDoor
namespace Go.Proofs.YtofgniceilbpaaaDoor
open Go.RowKit

/-! ### SameCells -/
theorem CelAt.open {w : World} {B b o : Nat} {c : Cel} (h : CelAt w B b o c) : ∃ KA kc, w.cell? ⟨b, o, none⟩ = some (.int .i64 c.x.k) ∧ w.cell? ⟨b, o + 1, none⟩ = some (.int .i64 c.x.n) ∧ w.cell? ⟨b, o + 2, none⟩ = some (.string c.x.a) ∧ w.cell? ⟨b, o + 3, none⟩ = some (.string c.x.m) ∧ w.cell? ⟨b, o + 4, none⟩ = some (.slice KA c.ks.length kc) ∧ Sp w B (.slice KA c.ks.length kc) c.ks := by
  obtain ⟨h0, h1, h2, h3, kv, h4, KA, kc, rfl, h5⟩ := h
  exact ⟨KA, kc, h0, h1, h2, h3, h4, KA, kc, rfl, h5⟩
end Go.Proofs.YtofgniceilbpaaaDoor
namespace Go.Proofs.YtofgniceilbpaaaDoor
open Go.RowKit

theorem with_snoc : ∀ (p : List Int) (t T u s : Tr) (i : Int), atT t p = some T → getZ T.2 i = some u → withT t (p ++ [i]) s = withT t p (T.1, T.2.set i.toNat s)
  | [], t, T, u, s, i, h, hg => by
    injection h with h
    subst h
    rw [List.nil_append, withT_some [] s hg]
    rfl
  | j :: p, t, T, u, s, i, h, hg => by
    unfold atT at h
    cases hj : getZ t.2 j with
    | none => rw [hj] at h; cases h
    | some v =>
      rw [hj] at h
      rw [List.cons_append, withT_some (p ++ [i]) s hj, withT_some p _ hj, with_snoc p v T u s i h hg]
theorem PtF.set {w : World} {S : Nat → Prop} {v : Value} {t : Tr} (hv : InT w S v t) : ∀ {vs : List Value} {f : Fr} {m : Nat}, PtF w S vs f → PtF w S (vs.set m v) (f.set m t)
  | [], .nil, _, _ => trivial
  | [], .cons _ _ _, _, h => h.elim
  | _ :: _, .nil, _, h => h.elim
  | _ :: _, .cons _ _ _, 0, h => ⟨hv, h.2⟩
  | _ :: _, .cons _ _ _, _ + 1, h => ⟨h.1, PtF.set hv h.2⟩
theorem PtF.at {w : World} {S : Nat → Prop} : ∀ {vs : List Value} {f : Fr} {m : Nat} {t : Tr}, PtF w S vs f → f.get m = some t → ∃ v, vs[m]? = some v ∧ InT w S v t
  | [], .nil, _, _, _, h => by cases h
  | [], .cons _ _ _, _, _, h, _ => h.elim
  | _ :: _, .nil, _, _, h, _ => h.elim
  | v :: _, .cons _ _ _, 0, _, h, hg => by injection hg with hg; subst hg; exact ⟨v, rfl, h.1⟩
  | _ :: vs, .cons _ _ rs, m + 1, _, h, hg => PtF.at (vs := vs) (f := rs) (m := m) h.2 hg
def Ctx (W : World) (Sq : Nat → Prop) (t : Tr) (p : List Int) (H hb ho : Nat) (wr : World) : Prop :=
  ∀ (w2 : World) (uv : Value) (s : Tr), wr.heap.size ≤ w2.heap.size → (∀ b, b < wr.heap.size → b ≠ hb → w2.heap[b]? = wr.heap[b]?) → (∀ o, o ≠ ho → w2.cell? ⟨hb, o, none⟩ = wr.cell? ⟨hb, o, none⟩) → w2.cell? ⟨hb, ho, none⟩ = some uv →
    InT w2 (Sin Sq W w2) uv s → ∃ v, w2.cell? ⟨H, 0, none⟩ = some v ∧ InT w2 (Sin Sq W w2) v (withT t p s)
theorem cell_same {w : World} {a : Addr} {v u : Value} (h : w.cell? a = some v) : (w.setCell a u).cell? a = some u := by
  apply World.cell?_setCell_same
  exact h
theorem Ctx.step {W wr w5 : World} {Sq : Nat → Prop} {t u : Tr} {x : Nod} {ks : Fr} {p : List Int} {H hb ho C g m N cap : Nat} {us : List Value} (h : Ctx W Sq t p H hb ho wr) (hS : Bel Sq H) (hHW : W.heap.size = H) (hH : H ≤ hb) (hhb : hb < wr.heap.size)
    (hat : atT t p = some (x, ks)) (hg : getZ ks (m : Int) = some u) (hC : wr.heap.size ≤ C) (hgC : wr.heap.size ≤ g) (hCg : C ≠ g) (hN : ks.len = N) (hNc : N ≤ cap) (hC5 : C < w5.heap.size) (hg5 : g < w5.heap.size) (hsz : wr.heap.size ≤ w5.heap.size)
    (hk : ∀ b, b < wr.heap.size → b ≠ hb → w5.heap[b]? = wr.heap[b]?) (hk2 : ∀ o, o ≠ ho → w5.cell? ⟨hb, o, none⟩ = wr.cell? ⟨hb, o, none⟩) (hk3 : w5.cell? ⟨hb, ho, none⟩ = some (.pointer (some ⟨C, 0, none⟩)))
    (hn : Nb w5 C x (.slice (some ⟨g, 0, none⟩) N cap)) (hus : PtF W Sq us ks) (hrow : ∀ (j : Nat) v, us[j]? = some v → w5.cell? ⟨g, j, none⟩ = some v) (hb5 : Below H W wr) : Ctx W Sq t (p ++ [(m : Int)]) H g m w5 := by
  intro w2 uv s h1 h2 h3 h4 h5
  have e := with_snoc p t (x, ks) u s (m : Int) hat hg
  rw [Int.toNat_natCast] at e
  rw [e]
  have hm : m < N := by rw [← hN]; exact Fr.get_lt (getZ_some hg).2
  have hold : ∀ b, Sq b → w2.heap[b]? = W.heap[b]? := fun b hb' => by
    have hb1 := hS b hb'
    have hbs := hb5.size
    rw [h2 b (by omega) (by omega), hk b (by omega) (by omega), hb5.block b hb1]
  have hus2 : PtF w2 (Sin Sq W w2) us ks := hus.keep (fun q h => .inl h) hold
  have hset := PtF.set (m := m) h5 hus2
  have hC2 : w2.heap[C]? = w5.heap[C]? := h2 C hC5 hCg
  have hbW := hb5.size
  refine h w2 (.pointer (some ⟨C, 0, none⟩)) (x, ks.set m s) (by omega) (fun b hb1 hb2 => ?_) (fun o ho1 => ?_) ?_ ?_
  · rw [h2 b (by omega) (by omega), hk b hb1 hb2]
  · rw [World.cell?_of_block (w := w5) (h2 hb (by omega) (by omega)), hk2 o ho1]
  · rw [World.cell?_of_block (w := w5) (h2 hb (by omega) (by omega)), hk3]
  · have hn2 : Nb w2 C x (.slice (some ⟨g, 0, none⟩) N cap) := hC2.trans hn
    have c : ∀ i u, (#[Value.int .i64 x.k, .int .i64 x.n, .string x.a, .string x.m, .slice (some ⟨g, 0, none⟩) N cap] : Array Value)[i]? = some u → w2.cell? ⟨C, i, none⟩ = some u := by
      intro i u hu
      rw [cell_of_row w2 C i _ _ _ hn2]
      exact hu
    have hl : (ks.set m s).len = N := by rw [Fr.len_set]; exact hN
    refine ⟨C, 0, some ⟨g, 0, none⟩, cap, rfl, .inr ⟨by omega, by omega⟩, ⟨_, _, hn2⟩, c 0 _ rfl, c 1 _ rfl, c 2 _ rfl, c 3 _ rfl, by simp only [hl]; exact c 4 _ rfl, by simp only [hl]; exact hNc, fun _ => ⟨g, 0, rfl, .inr ⟨by omega, by omega⟩, hset.row fun j v hv => ?_⟩⟩
    rw [Nat.zero_add]
    by_cases ej : j = m
    · subst ej
      rw [List.getElem?_set_self (by rw [hus.len]; omega)] at hv
      injection hv with hv
      rw [h4, hv]
    · rw [List.getElem?_set_ne (Ne.symm ej)] at hv
      rw [h3 j ej]
      exact hrow j v hv
end Go.Proofs.YtofgniceilbpaaaDoor
namespace Go.Proofs.YtofgniceilbpaaaDoor
open Go.RowKit

def trT (s : ByteArray) : ByteArray := s.extract 0 (min s.size 20)
theorem few_more {w wr w5 w6 : World} {H OB B : Nat} {vo v6 kv : Value} {c : Cel} {out : List Cel} {vs : List Value} {ob : Obj} (hHO : H ≤ OB) (hOB : OB < B) (hB : B ≤ wr.heap.size) (hbw : Below H w wr)
    (ho : wr.ownsRow B 51 5 vo out.length (flat out vs)) (hf : CsF wr (So B wr vo) vs out) (hb5 : Below wr.heap.size wr w5) (hx : wr.heap[OB]? = some (.cells #[vo] 24 (0, 0)))
    (hkv : SpS w5 (fun q => wr.heap.size ≤ q ∧ q < w5.heap.size) kv c.ks)
    (ho6 : w6.ownsRow B 51 5 v6 (out.length + 1) (flat out vs ++ [.int .i64 c.x.k, .int .i64 c.x.n, .string c.x.a, .string c.x.m, kv])) (hg6 : (w5.alloc ob).grownBy w6 vo.ownBlock) (hat6 : v6.ownBlock = vo.ownBlock ∨ v6.ownBlock = some (w5.heap.size + 1)) :
    (w6.setCell ⟨OB, 0, none⟩ v6).ownsRow B 51 5 v6 (out ++ [c]).length (flat (out ++ [c]) (vs ++ [kv])) ∧ CsF (w6.setCell ⟨OB, 0, none⟩ v6) (So B (w6.setCell ⟨OB, 0, none⟩ v6) v6) (vs ++ [kv]) (out ++ [c]) ∧
      (w6.setCell ⟨OB, 0, none⟩ v6).heap[OB]? = some (.cells #[v6] 24 (0, 0)) ∧ Below H w (w6.setCell ⟨OB, 0, none⟩ v6) ∧ (∀ b, b < wr.heap.size → b ≠ OB → vo.ownBlock ≠ some b → (w6.setCell ⟨OB, 0, none⟩ v6).heap[b]? = wr.heap[b]?) := by
  have hol := ho.lt
  have h6l := ho6.lt
  have hs5 := hb5.size
  have hsa : (w5.alloc ob).heap.size = w5.heap.size + 1 := by simp
  have hs6 := hg6.size
  have hsz : (w6.setCell ⟨OB, 0, none⟩ v6).heap.size = w6.heap.size := by simp [World.setCell]
  have hst5 : ∀ b, b < w5.heap.size → b ≠ OB → vo.ownBlock ≠ some b → (w6.setCell ⟨OB, 0, none⟩ v6).heap[b]? = w5.heap[b]? := by
    intro b h1 h2 h3
    rw [Below.heap_setCell _ _ _ _ h2, hg6.block b (by omega) (fun e => h3 e.symm), Below.heap_alloc _ _ _ h1]
  have hst : ∀ b, b < wr.heap.size → b ≠ OB → vo.ownBlock ≠ some b → (w6.setCell ⟨OB, 0, none⟩ v6).heap[b]? = wr.heap[b]? := fun b h1 h2 h3 => (hst5 b (by omega) h2 h3).trans (hb5.block b h1)
  have hvO : vo.ownBlock ≠ some OB := fun e => by have := (hol OB e).1; omega
  have hx6 : w6.heap[OB]? = some (.cells #[vo] 24 (0, 0)) := by
    rw [hg6.block OB (by have := heap_lt hx; omega) (fun e => hvO e.symm), Below.heap_alloc _ _ _ (by have := heap_lt hx; omega), hb5.block OB (heap_lt hx)]
    exact hx
  have hv6 : ∀ q, q < w5.heap.size → vo.ownBlock ≠ some q → v6.ownBlock ≠ some q := by
    intro q h1 h2
    rcases hat6 with h | h
    · rw [h]; exact h2
    · rw [h]; intro e; injection e with e; omega
  refine ⟨?_, ?_, ?_, ?_, hst⟩
  · rw [flat_app _ _ hf.len, List.length_append]
    exact own_setCell ho6 _ _ fun g hg => by have := (h6l g hg).1; simp only; omega
  · refine CsF.app (hf.keep (fun q hq => ⟨hq.1, by have := hq.2.1; omega, hv6 q (by have := hq.2.1; omega) hq.2.2⟩) fun b hb => hst b hb.2.1 (by have := hb.1; omega) hb.2.2) ⟨hkv.keep (fun q hq => ⟨by omega, by omega, hv6 q hq.2 (fun e => by have := (hol q e).2; omega)⟩) fun b hb => hst5 b hb.2 (by omega) (fun e => by have := (hol b e).2; omega), trivial⟩
  · rw [block_set _ hx6]; rfl
  · have hbs := hbw.size
    exact ((((hbw.trans (hb5.mono (by omega))).alloc (by omega) ob).grown hg6 (by omega) (fun g hg => by have := (hol g hg).1; omega))).setCell hHO _
theorem run_none (w : World) (base : Nat) (v : Value) (n : Nat) (xs : List Value) (hown : w.ownsRow base 3 1 v n xs) (c : Nat) :
    (Builtin.append_ #[49, 49] 49 #[v, .slice none 0 c]).run Tryd.prog w = .ok v w := by
  obtain ⟨i0, hi, hz0, hz1, hz2⟩ := info_parts infoI
  rcases hown.2 with ⟨rfl, rfl⟩ | ⟨g, cap, cur, rfl, _, _, hnc, _⟩
  · simp [Builtin.append_, run_underlying Tryd.underlying49, sizeOf, typeInfo, hi, Builtin.lenOf, Builtin.firstCells]
  · simp [Builtin.append_, run_underlying Tryd.underlying49, sizeOf, typeInfo, hi, Builtin.lenOf, Builtin.firstCells, hnc, storeCells]
theorem run_kids (w : World) (A : Option Addr) (M c : Nat) (l : List Int) (hM : l.length = M) (hs : ∀ (j : Nat) u, l[j]? = some u → ∃ b o, A = some ⟨b, o, none⟩ ∧ b < w.heap.size ∧ w.cell? ⟨b, o + j, none⟩ = some (.int .i64 u)) (hl : l.length ≤ 12) :
    ∃ v' w', (Builtin.append_ #[49, 49] 49 #[.slice (some ⟨w.heap.size, 0, none⟩) 0 0, .slice A M c]).run Tryd.prog (w.alloc (.cells #[] 3)) = .ok v' w' ∧
      SpS w' (fun q => w.heap.size ≤ q ∧ q < w'.heap.size) v' l ∧ Below w.heap.size w w' := by
  subst hM
  obtain ⟨i0, hi, hz0, hz1, hz2⟩ := info_parts infoI
  have hown := own_made (w := w) (Nat.le_refl _) 3
  have hba := (Below.refl w.heap.size w).alloc (Nat.le_refl _) (.cells #[] 3)
  rcases A with _ | ad
  · have hl : l = [] := by
      cases l with
      | nil => rfl
      | cons x t =>
        obtain ⟨b, o, h, _⟩ := hs 0 x rfl
        cases h
    subst hl
    exact ⟨_, _, run_none _ _ _ _ _ hown c, SpS.own (l := []) hown (fun g hg => by injection hg with hg; subst hg; simp), hba⟩
  · obtain ⟨v', w', h1, h2, h3, h4⟩ := run_append_own (P := Tryd.prog) (w.alloc (.cells #[] 3)) w.heap.size 49 49 3 i0 (.int .i64 0) 1 8 Tryd.underlying49 hi hz0 hz1 hz2 rfl (by decide) _ 0 [] hown ad l.length c (ints l)
      (by simp [ints]) (fun j u hu => by
        obtain ⟨r, hr, rfl⟩ : ∃ r, l[j]? = some r ∧ Value.int .i64 r = u := by
          unfold ints at hu
          rw [List.getElem?_map] at hu
          exact Option.map_eq_some_iff.1 hu
        obtain ⟨b, o, h, hb, hcell⟩ := hs j r hr
        have h := Option.some.inj h
        subst h
        rw [addAt]
        exact (hba.cell (p := ⟨b, o + j, none⟩) hb).trans hcell) (fun x hx => by obtain ⟨_, _, rfl⟩ := List.mem_map.1 hx; rfl) (by unfold maxLen; omega) (by omega) (by simp)
    refine ⟨v', w', h1, SpS.own (l := l) (by simpa using h2) (fun g hg => h2.lt g hg), hba.grown h3 (by simp) (fun k hk => by simp [Value.ownBlock] at hk; omega)⟩
theorem wpList_app {ops : Array Oper} {rest : List Oper} {o : Oper} {a : Act} {w w' : World} {v v1 v2 : Value} {Q : Exit → Act → World → Prop} (s x : Operand) (t : TypeId)
    (hw : Region.wanted o (yielded ops a.tmps) = true) (ho : o.op = .call { callee := .builtin .append, args := #[s, x], argTypes := #[t, t] }) (h1 : a.eval s = v1) (h2 : a.eval x = v2)
    (hr : (Builtin.append_ #[t, t] o.type #[v1, v2]).run Tryd.prog w = .ok v w') (h : wpList Tryd.prog ops Q rest (a.put o.dst v) w') : wpList Tryd.prog ops Q (o :: rest) a w := by
  refine wpList_step fun K hK => ?_
  rw [if_pos hw]
  unfold Oper.wp execOp
  simp only [ho, resolve, invoke, builtin, Sem.run_bind, Sem.run_pure, Result.andThen_ok, List.map_toArray, List.map_cons, List.map_nil, h1, h2, hr]
  exact hK _ _ h
theorem ob_grown {w7 w8 : World} {ob o : Obj} {OB B n : Nat} {vo : Value} {xs : List Value} (ho : w7.ownsRow B 51 5 vo n xs) (hOB : OB < B) (hlt : OB < w7.heap.size) (hg : (w7.alloc ob).grownBy w8 vo.ownBlock) (hx : w7.heap[OB]? = some o) : w8.heap[OB]? = some o :=
  ((hg.block OB (by simp; omega) (fun e => by have := (ho.lt OB e.symm).1; omega)).trans (Below.heap_alloc _ _ _ hlt)).trans hx
theorem wtk {P : Program} {ops : Array Oper} {Q : Exit → Act → World → Prop} {md : Region.Mode} {i : Nat} {oi : Oper} {v : Value} {fuel : Nat} {listed : Array Bool} {a : Act} {w : World} (hi : ops[i]? = some oi) (hc : (Region.noSelect ops && (Region.free md ops listed i && (Region.ready md ops listed).contains i)) = true)
    (hw : Region.wanted oi (yielded ops a.tmps) = true) (hy : ∀ w, (execOp a.eval oi).run P w = .ok (.value v) w) (h : wpAny P md ops Q fuel (listed.setIfInBounds i true) (a.put oi.dst v) w) (hQ : ∀ c a w, Q (.panic c) (a.put oi.dst v) w → Q (.panic c) a w := by exact fun _ _ _ h => h) : wpAny P md ops Q (fuel + 1) listed a w := by
  rw [Bool.and_eq_true, Bool.and_eq_true] at hc
  exact wpAny_take hi hc.1 hc.2.1 hc.2.2 hQ (Or.inl ⟨hw, hy⟩) h
end Go.Proofs.YtofgniceilbpaaaDoor
