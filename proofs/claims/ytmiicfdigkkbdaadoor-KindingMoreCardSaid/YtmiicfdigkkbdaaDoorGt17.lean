/-
  Cells and numbers as they are handed in.
-/
import Derived.Test.YtmiicfdigkkbdaaDoorGt11
import Derived.Test.YtmiicfdigkkbdaaDoorGt15
import Derived.Test.YtmiicfdigkkbdaaDoorGt16
import Derived.ArgAppend
import Derived.Deep.Fields
import Derived.Deep.Slices
import Derived.Laws.EntriesVeiled
import Derived.Lib.LaidTab
namespace Go.Proofs.YtmiicfdigkkbdaaDoor
open Go.ChangeShapes Go.WideShapes Go.Deep Go.RowKit

theorem plain_of {w : World} {a : Addr} {v : Value} (h : w.cell? (a.add 0) = some v) : ∃ b o, a = ⟨b, o, none⟩ ∧ b < w.heap.size := by
  have hb := cell_lt h
  rw [addBlock] at hb
  obtain ⟨b, o, s⟩ := a
  cases s with
  | none => exact ⟨b, o, rfl, hb⟩
  | some s =>
    exfalso
    unfold Addr.add World.cell? at h
    split at h
    · simp at h
    · cases h
theorem open_nums {H : Type} {enc : TypeId × Value → H} {w : World} {base fuel : Nat} {spare : Nat → Bool} {held : Bool} {v : Value} {x : DataW H × List MemPlace}
    (h : DataW.trod enc Tryd.prog w base spare held fuel 45 [v] = some x) : ∃ l : List Int, Sp w w.heap.size v l ∧ l.length ≤ maxLen := by
  rcases open_slice1 Tryd.underlying45 (by kernel_rfl) h with ⟨h1, _⟩ | ⟨a, len, cap, m, n, V, D, Pl, h1, _, hl, hcm, hmm, _, hi⟩
  · injection h1 with h1
    rw [h1]
    exact ⟨[], ⟨none, 0, rfl, Nat.le_refl _, fun j u hu => by simp at hu⟩, Nat.zero_le _⟩
  · injection h1 with h1
    rw [h1]
    have hlm : len ≤ m := by rw [hmm]; split <;> omega
    have key : ∀ i, i < len → ∃ k : Int, w.cell? (a.add i) = some (.int .i64 k) := by
      intro i h
      obtain ⟨h2, h3⟩ := hi i (by omega)
      obtain ⟨k, e, _⟩ := DataW.trod_int Tryd.underlying3 h3
      injection e with e
      exact ⟨k, by rw [h2, e]⟩
    let f : Nat → Int := fun i => if h : i < len then Classical.choose (key i h) else 0
    have hf : ∀ i, i < len → w.cell? (a.add i) = some (.int .i64 (f i)) := by
      intro i h
      have := Classical.choose_spec (key i h)
      show w.cell? _ = some (.int .i64 (dite _ _ _))
      rw [dif_pos h]
      exact this
    refine ⟨(List.range len).map f, ⟨some a, cap, by rw [List.length_map, List.length_range], by rw [List.length_map, List.length_range]; exact hl, fun j u hu => ?_⟩, by rw [List.length_map, List.length_range]; omega⟩
    rw [List.getElem?_map] at hu
    obtain ⟨i, hi1, rfl⟩ := Option.map_eq_some_iff.1 hu
    obtain ⟨h2, h3⟩ := List.getElem?_eq_some_iff.1 hi1
    rw [List.length_range] at h2
    rw [List.getElem_range] at h3
    subst h3
    obtain ⟨b, o, rfl, e2⟩ := plain_of (hf 0 (by omega))
    have e3 := hf j h2
    rw [addAt] at e3
    exact ⟨b, o, rfl, e2, e3⟩
theorem add_zero' (a : Addr) : (a.add 0).add 0 = a.add 0 := by simp [Addr.add]
def w5 (w : World) (a : Addr) (c : Cel) (kv : Value) : Prop := w.cell? (a.add 0) = some (.int .i64 c.x.k) ∧ w.cell? (a.add 1) = some (.int .i64 c.x.n) ∧ w.cell? (a.add 2) = some (.string c.x.a) ∧ w.cell? (a.add 3) = some (.string c.x.m) ∧ w.cell? (a.add 4) = some kv
def fitC (c : Cel) : Prop := c.x.a.size ≤ maxLen ∧ c.x.m.size ≤ maxLen ∧ c.ks.length ≤ maxLen
set_option maxRecDepth 100000 in
theorem one_cel {H : Type} {enc : TypeId × Value → H} {w : World} {base fuel : Nat} {spare : Nat → Bool} {held : Bool} {cs : List Value} {x : DataW H × List MemPlace}
    (h : DataW.trod enc Tryd.prog w base spare held fuel 47 cs = some x) : ∃ (c : Cel) (kv : Value), cs = [.int .i64 c.x.k, .int .i64 c.x.n, .string c.x.a, .string c.x.m, kv] ∧ Sp w w.heap.size kv c.ks ∧ fitC c := by
  obtain ⟨ys, n, _, _, hlen, hyl, hf⟩ := DataW.trod_struct Tryd.underlying47 h
  have hC : Tryd.prog.cellsOf 47 = 5 := by kernel_rfl
  rw [hC] at hlen
  have hl5 : cs.length = 5 := hlen
  have hy5 : ys.length = 5 := hyl
  match cs, hl5 with
  | [c0, c1, c2, c3, c4], _ =>
    match ys, hy5 with
    | [y0, y1, y2, y3, y4], _ =>
      have g0 : DataW.trod enc Tryd.prog w base spare held n 3 [c0] = some y0 := hf 0 _ rfl
      have g1 : DataW.trod enc Tryd.prog w base spare held n 3 [c1] = some y1 := hf 1 _ rfl
      have g2 : DataW.trod enc Tryd.prog w base spare held n 9 [c2] = some y2 := hf 2 _ rfl
      have g3 : DataW.trod enc Tryd.prog w base spare held n 9 [c3] = some y3 := hf 3 _ rfl
      have g4 : DataW.trod enc Tryd.prog w base spare held n 45 [c4] = some y4 := hf 4 _ rfl
      obtain ⟨k, e0, _⟩ := DataW.trod_int Tryd.underlying3 g0
      obtain ⟨m, e1, _⟩ := DataW.trod_int Tryd.underlying3 g1
      obtain ⟨s, e2, _, hs⟩ := DataW.trod_string Tryd.underlying9 g2
      obtain ⟨t, e3, _, ht⟩ := DataW.trod_string Tryd.underlying9 g3
      obtain ⟨l, hsp, hl⟩ := open_nums g4
      injection e0 with e0
      injection e1 with e1
      injection e2 with e2
      injection e3 with e3
      exact ⟨⟨⟨k, m, s, t⟩, l⟩, c4, by rw [e0, e1, e2, e3], hsp, hs, ht, hl⟩
set_option maxRecDepth 100000 in
theorem open_tree {H : Type} {enc : TypeId × Value → H} {W : World} {base : Nat} {v : Value} {d : DataW H} {p : List MemPlace}
    (hv : Value.okWide Tryd.prog W .any base 24 v) (h : DataW.Trod enc Tryd.prog W 0 (fun _ => true) true 24 v d p) :
    ∃ (cv : Value) (cs : List Cel), v = .agg #[cv] ∧ Cls W W.heap.size cv cs ∧ cs.length ≤ maxLen ∧ ∀ c ∈ cs, fitC c := by
  obtain ⟨cv0, rfl, hsz⟩ := okWide_struct Tryd.underlying24 hv
  have hC1 : Tryd.prog.cellsOf 24 = 1 := by kernel_rfl
  rw [hC1] at hsz
  obtain ⟨l0⟩ := cv0
  have hl1 : l0.length = 1 := hsz
  match l0, hl1 with
  | [cv], _ =>
  obtain ⟨fuel, hf⟩ := h
  obtain ⟨ys, n, _, _, hlen, hyl, hff⟩ := DataW.trod_struct Tryd.underlying24 hf
  have hy1 : ys.length = 1 := hyl
  match ys, hy1 with
  | [y0], _ =>
  have g0 : DataW.trod enc Tryd.prog W 0 (fun _ => true) true n 22 [cv] = some y0 := hff 0 _ rfl
  refine ⟨cv, ?_⟩
  rcases open_slice Tryd.underlying22 g0 with ⟨h0, _⟩ | ⟨a, len, cap, m, n, D, Pl, hc, _, hlc, hcm, hm, _, hi⟩
  · injection h0 with h0
    rw [h0]
    exact ⟨[], rfl, ⟨none, 0, rfl, Nat.le_refl _, fun j t ht => by simp at ht⟩, Nat.zero_le _, fun t ht => by cases ht⟩
  · injection hc with hc
    rw [hc]
    have hm2 : m = cap := by simpa using hm
    have hC : Tryd.prog.cellsOf 47 = 5 := by kernel_rfl
    have key : ∀ i, i < len → ∃ (c : Cel) (kv : Value), w5 W (a.add (i * 5)) c kv ∧ Sp W W.heap.size kv c.ks ∧ fitC c := by
      intro i hil
      obtain ⟨cs', hce, htr⟩ := hi i (by omega)
      obtain ⟨c, kv, rfl, hsp, hfit⟩ := one_cel htr
      rw [hC] at hce
      obtain ⟨_, _, hat⟩ := World.cells?_some hce
      exact ⟨c, kv, ⟨hat 0 (by omega), hat 1 (by omega), hat 2 (by omega), hat 3 (by omega), hat 4 (by omega)⟩, hsp, hfit⟩
    have key2 : ∀ i, i < len → ∃ c : Cel, (∃ b o, a = ⟨b, o, none⟩ ∧ b < W.heap.size ∧ CelAt W W.heap.size b (o + i * 5) c) ∧ fitC c := by
      intro i hil
      obtain ⟨_, _, hw0, _, _⟩ := key 0 (by omega)
      have h00 := hw0.1
      rw [Nat.zero_mul] at h00
      obtain ⟨b, o, rfl, hb⟩ := plain_of (a := a) (by rw [add_zero'] at h00; exact h00)
      obtain ⟨c, kv, ⟨q0, q1, q2, q3, q4⟩, hsp, hfit⟩ := key i hil
      simp only [addAt] at q0 q1 q2 q3 q4
      exact ⟨c, ⟨b, o, rfl, hb, q0, q1, q2, q3, kv, q4, hsp⟩, hfit⟩
    let f : Nat → Cel := fun i => if h : i < len then Classical.choose (key2 i h) else ⟨⟨0, 0, ⟨#[]⟩, ⟨#[]⟩⟩, []⟩
    have hfx : ∀ i, i < len → (∃ b o, a = ⟨b, o, none⟩ ∧ b < W.heap.size ∧ CelAt W W.heap.size b (o + i * 5) (f i)) ∧ fitC (f i) := by
      intro i h
      have := Classical.choose_spec (key2 i h)
      show (∃ b o, _ ∧ _ ∧ CelAt W _ _ _ (dite _ _ _)) ∧ fitC (dite _ _ _)
      rw [dif_pos h]
      exact this
    refine ⟨(List.range len).map f, rfl, ⟨some a, cap, by rw [List.length_map, List.length_range], by rw [List.length_map, List.length_range]; exact hlc, fun j t ht => ?_⟩, by rw [List.length_map, List.length_range]; omega, fun t ht => ?_⟩
    · rw [List.getElem?_map] at ht
      obtain ⟨i, hi', rfl⟩ := Option.map_eq_some_iff.1 ht
      obtain ⟨h1, h2⟩ := List.getElem?_eq_some_iff.1 hi'
      rw [List.length_range] at h1
      rw [List.getElem_range] at h2
      subst h2
      obtain ⟨⟨b, o, rfl, e2, e3⟩, _⟩ := hfx j h1
      exact ⟨b, o, rfl, e2, e3⟩
    · obtain ⟨i, hi', rfl⟩ := List.mem_map.1 ht
      exact (hfx i (List.mem_range.1 hi')).2
end Go.Proofs.YtmiicfdigkkbdaaDoor
namespace Go.Proofs.YtmiicfdigkkbdaaDoor
open Go.RowKit

theorem op_two {L : List Cel} (hl : L.length ≤ 60) : (∃ t, opR L = (some t, 0) ∧ szT t ≤ 60 ∧ szT t = L.length ∧ okK L ∧ okC L ∧ gr L L.length (L.length - 1) = t) ∨ ∃ z, opR L = (none, z) ∧ z ≠ 0 ∧ z ≤ 16 ∧ 0 ≤ z := by
  by_cases h0 : L.length = 0
  · exact .inr ⟨1, op_nil h0, by decide, by decide, by decide⟩
  · by_cases h : okK L ∧ okC L
    · have hs := open_size h.1 h.2 (by omega)
      exact .inl ⟨_, op_good h0 (by omega) h, by omega, hs, h.1, h.2, rfl⟩
    · exact .inr ⟨16, op_bad h0 (by omega) h, by decide, by decide, by decide⟩
theorem Cls.up {w w' : World} {v : Value} {cs : List Cel} (h : Cls w w.heap.size v cs) (hb : Below w.heap.size w w') : Cls w' w'.heap.size v cs :=
  h.keep hb.size fun _ hp => hb.cell hp
end Go.Proofs.YtmiicfdigkkbdaaDoor
namespace Go.Proofs.YtmiicfdigkkbdaaDoor
open Go.RowKit

theorem Sp.up {W w : World} {v : Value} {l : List Int} (h : Sp W W.heap.size v l) (u : Up W w) : Sp w w.heap.size v l := Sp.keep h u.size fun _ hp => Below.cell u hp
theorem Spp.up {W w : World} {v : Value} {l : List (List Int)} (h : Spp W W.heap.size v l) (u : Up W w) : Spp w w.heap.size v l := Spp.keep h u.size fun _ hp => Below.cell u hp
theorem Cls.upp {W w : World} {v : Value} {cs : List Cel} (h : Cls W W.heap.size v cs) (u : Up W w) : Cls w w.heap.size v cs := Cls.keep h u.size fun _ hp => Below.cell u hp
/-! ### the program's calls -/
theorem uSame (o o' : Option Tr) {W w : World} {v v' : Value} (h : HasT W v o) (h' : HasT W v' o') (hz : szO o ≤ 65536) (b : Bool) (hb : b = true ↔ o = o') (u : Up W w) :
    Calls Tryd.prog 14 #[v, v'] w (BoP b W) :=
  (arSame o o' w _ _ v v' HasT.bel HasT.bel (h.up u) (h'.up u) hz b hb).mono fun _ _ k => ⟨k.1, u.of k.2⟩
theorem uSize (o : Option Tr) {W w : World} {v : Value} (h : HasT W v o) (hz : szO o ≤ 65536) (u : Up W w) : Calls Tryd.prog 32 #[v] w (NuP (szO o) W) :=
  (arSize o w _ v HasT.bel (h.up u) hz).mono fun _ _ k => ⟨k.1, u.of k.2⟩
end Go.Proofs.YtmiicfdigkkbdaaDoor
namespace Go.Proofs.YtmiicfdigkkbdaaDoor
open Go.RowKit

def InP (z : Int) (W : World) (e : Ending) (w' : World) : Prop := e = .returned (.int .i64 z) ∧ Up W w'
def StP (s : ByteArray) (W : World) (e : Ending) (w' : World) : Prop := e = .returned (.string s) ∧ Up W w'
def ErH (R : Option Tr × Int) (W : World) (e : Ending) (w' : World) : Prop := ∃ v, e = .returned (.tuple #[v, .int .i64 R.2]) ∧ HasT w' v R.1 ∧ Up W w'
theorem ErH.has {R : Option Tr × Int} {W w' : World} {e : Ending} (h : ErH R W e w') : ErH R W e w' := h
theorem ErP.has {R : Option Tr × Int} {W w' : World} {e : Ending} (h : ErP R W e w') : ErH R W e w' := by
  obtain ⟨v, h1, h2, h3⟩ := h
  exact ⟨v, h1, h3.has, h2⟩
def Pw (w : World) : Prop := Lib.TabIs Tryd.prog w "internal/strconv.uint64pow10" .u64 Lib.pow10Tab
theorem Pw.up {W w : World} (h : Pw W) (hb : Up W w) : Pw w := by
  have hg : Tryd.prog.globalNamed "internal/strconv.uint64pow10" = some 1 := by kernel_rfl
  unfold Pw Lib.TabIs World.var? at h ⊢
  rw [hg] at h ⊢
  simp only [Option.bind_some] at h ⊢
  cases ho : W.heap[1]? with
  | none => rw [ho] at h; cases h
  | some o => rw [heap_below ho hb, ← ho]; exact h
theorem bopU {a b : Bool} {W w' : World} (h : b = a) (u : Up W w') : BoP b W (.returned (.bool a)) w' := ⟨by rw [h], u⟩
theorem node_hasN {w : World} {S : Nat → Prop} {b g n c : Nat} {x : Nod} {f : Fr} (h : w.heap[b]? = some (.cells #[.int .i64 x.k, .int .i64 x.n, .string x.a, .string x.m, .slice (some ⟨g, 0, none⟩) n c] 40 (0, 0))) (hn : f.len = n) (hc : n ≤ c) (hS : S b) (hg : S g) (hf : InF w S f g 0) : InT w S (.pointer (some ⟨b, 0, none⟩)) (x, f) := by
  subst hn
  exact ⟨b, 0, some ⟨g, 0, none⟩, c, rfl, hS, ⟨_, _, h⟩, cell_of_row w b 0 _ _ _ h, cell_of_row w b 1 _ _ _ h, cell_of_row w b 2 _ _ _ h, cell_of_row w b 3 _ _ _ h, cell_of_row w b 4 _ _ _ h, hc, fun _ => ⟨g, 0, rfl, hg, hf⟩⟩
theorem two_hasN {W w : World} {va vb : Value} {a b : Tr} {k : Int} (hW : W.heap.size ≤ w.heap.size) (ha : NwT W w va a) (hb : NwT W w vb b) :
    NwT W ((w.alloc (.cells #[va, vb] 25)).alloc (.cells #[.int .i64 k, .int .i64 0, .string ⟨#[]⟩, .string ⟨#[]⟩, .slice (some ⟨w.heap.size, 0, none⟩) 2 2] 40)) (.pointer (some ⟨w.heap.size + 1, 0, none⟩)) (⟨k, 0, ⟨#[]⟩, ⟨#[]⟩⟩, .cons a.1 a.2 (.cons b.1 b.2 .nil)) := by
  have e1 : (w.alloc (.cells #[va, vb] 25)).heap.size = w.heap.size + 1 := by simp
  rw [← e1]
  obtain ⟨W1, hW1⟩ : ∃ W1, w.alloc (.cells #[va, vb] 25) = W1 := ⟨_, rfl⟩
  have s1 : W1.heap[w.heap.size]? = some (.cells #[va, vb] 25 (0, 0)) := by rw [← hW1]; exact heap_alloc_new w _
  have u1 : Up w W1 := by rw [← hW1]; exact (Up.refl w).alloc _
  have z1 := u1.size
  rw [hW1]
  obtain ⟨W2, hW2⟩ : ∃ W2, W1.alloc (.cells #[.int .i64 k, .int .i64 0, .string ⟨#[]⟩, .string ⟨#[]⟩, .slice (some ⟨w.heap.size, 0, none⟩) 2 2] 40) = W2 := ⟨_, rfl⟩
  have s2 : W2.heap[W1.heap.size]? = some (.cells #[.int .i64 k, .int .i64 0, .string ⟨#[]⟩, .string ⟨#[]⟩, .slice (some ⟨w.heap.size, 0, none⟩) 2 2] 40 (0, 0)) := by rw [← hW2]; exact heap_alloc_new W1 _
  have u2 : Up W1 W2 := by rw [← hW2]; exact (Up.refl W1).alloc _
  have s3 : W2.heap[w.heap.size]? = some (.cells #[va, vb] 25 (0, 0)) := u2.row s1
  rw [hW2]
  exact node_hasN (x := ⟨k, 0, ⟨#[]⟩, ⟨#[]⟩⟩) (f := .cons a.1 a.2 (.cons b.1 b.2 .nil)) s2 rfl (Nat.le_refl _) ⟨by omega, heap_lt s2⟩ ⟨hW, heap_lt s3⟩ ⟨⟨_, cell_of_row W2 w.heap.size 0 _ _ _ s3, ha.up (u1.trans u2)⟩, ⟨_, cell_of_row W2 w.heap.size 1 _ _ _ s3, hb.up (u1.trans u2)⟩, trivial⟩
theorem leaf_hasN {W w : World} {x : Nod} (hW : W.heap.size ≤ w.heap.size) : NwT W (w.alloc (.cells #[.int .i64 x.k, .int .i64 x.n, .string x.a, .string x.m, .slice none 0 0] 40)) (.pointer (some ⟨w.heap.size, 0, none⟩)) (x, .nil) :=
  leaf_nw (heap_alloc_new w _) hW
noncomputable def kept (cs : List Cel) : Option Tr := (opR (fwL10 cs)).1
theorem kept_sz (cs : List Cel) : szO (kept cs) ≤ 60 := by
  unfold kept
  rcases op_two (fwL10_len cs) with ⟨t, h, hs, _⟩ | ⟨z, h, _⟩
  · rw [h]; exact hs
  · rw [h]; exact Nat.zero_le _
def fitD (c : Cel) : Prop := c.x.a.size ≤ 9223372036854775807 ∧ c.x.m.size ≤ 9223372036854775807 ∧ c.ks.length ≤ 9223372036854775807
theorem uFew10 (cs : List Cel) {W w : World} {cv : Value} (hcl : Cls W W.heap.size cv cs) (hf : ∀ c ∈ cs, fitD c) (u : Up W w) : Calls Tryd.prog 7 #[.agg #[cv]] w (fun e w' => ∃ v, e = .returned v ∧ HasT w' v (kept cs) ∧ Up w w') :=
  (few10 cs w cv (hcl.upp u) hf).mono fun _ _ ⟨v, h1, h2, h3⟩ => ⟨v, h1, InO.keep h2 (fun _ h => h.2) fun _ _ => rfl, h3⟩
end Go.Proofs.YtmiicfdigkkbdaaDoor
namespace Go.Proofs.YtmiicfdigkkbdaaDoor
open Go.RowKit

theorem Fr.pt_sz {i : Int} {u : Tr} {f : Fr} : ∀ {d : Nat} {g : Fr}, f.vok → Fr.pt i u d f = some g → g.sz + Fr.ct i d f = f.sz + Fr.ct i d f * szT u := by
  induction f with
  | nil => intro d g _ h; injection h with h; rw [← h]; show 0 + 0 = 0 + 0 * _; omega
  | cons x k r ihk ihr =>
    intro d g hv h
    obtain ⟨t, r', h1, h2, rfl⟩ := Fr.pt_inv h
    have e2 := ihr hv.2.2 h2
    rw [Fr.ct_c]
    unfold ptT at h1
    by_cases ha : atV i d x
    · rw [if_pos ha] at h1
      have hz := (mvT_sz h1).1
      obtain ⟨_, _, _, hk⟩ := hv.1.2 ha.1
      subst hk
      have ec : ctT i d (x, .nil) = 1 := by unfold ctT; rw [if_pos ha]; rfl
      rw [ec]
      show 1 + t.2.sz + r'.sz + (1 + Fr.ct i d r) = 1 + 0 + r.sz + (1 + Fr.ct i d r) * szT u
      have hz : 1 + t.2.sz = szT u := hz
      rw [Nat.add_mul, Nat.one_mul]
      omega
    · rw [if_neg ha] at h1
      simp only at h1
      cases hk : Fr.pt i u (d + innK x.k) k with
      | none => rw [hk] at h1; cases h1
      | some k' =>
        rw [hk] at h1
        injection h1 with h1
        have e1 := ihk hv.2.1 hk
        have ec : ctT i d (x, k) = Fr.ct i (d + innK x.k) k := by unfold ctT; rw [if_neg ha, Nat.zero_add]
        rw [ec, ← h1]
        show 1 + k'.sz + r'.sz + (Fr.ct i (d + innK x.k) k + Fr.ct i d r) = 1 + k.sz + r.sz + (Fr.ct i (d + innK x.k) k + Fr.ct i d r) * szT u
        rw [Nat.add_mul]
        omega
theorem ptT_sz {i : Int} {u t t' : Tr} {d : Nat} (hv : tvok t) (h : ptT i u d t = some t') : szT t' + ctT i d t = szT t + ctT i d t * szT u := by
  have h1 : Fr.pt i u d (.cons t.1 t.2 .nil) = some (.cons t'.1 t'.2 .nil) := Fr.pt_mk (x := t.1) (k := t.2) h rfl
  have h2 := Fr.pt_sz (f := .cons t.1 t.2 .nil) ⟨hv.1, hv.2, trivial⟩ h1
  rw [Fr.ct_c] at h2
  have e0 : Fr.ct i d .nil = 0 := rfl
  rw [e0, Nat.add_zero] at h2
  have e1 : (Fr.cons t.1 t.2 .nil).sz = szT t := rfl
  have e2 : (Fr.cons t'.1 t'.2 .nil).sz = szT t' := rfl
  rw [e1, e2] at h2
  exact h2
end Go.Proofs.YtmiicfdigkkbdaaDoor
