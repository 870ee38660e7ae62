/-
  The law ArenaOpens.
-/
import Derived.Test.YtofgniceilbpaaaDoorGt13
import Derived.Test.YtofgniceilbpaaaDoorGt18
import Derived.Test.YtofgniceilbpaaaDoorGt19
import Derived.Test.YtofgniceilbpaaaDoorGt20
import Derived.ArgAppend
import Derived.Laws.EntriesVeiled
import Derived.Lib.LaidTab
namespace Go.Proofs.YtofgniceilbpaaaDoor
open Go.RowKit

theorem op_two {L : List Cel} (hl : L.length ≤ 60) : (∃ t, opR L = (some t, 0) ∧ szT t ≤ 60 ∧ szT t = L.length ∧ okK L ∧ okC L ∧ gr L L.length (L.length - 1) = t) ∨ ∃ z, opR L = (none, z) ∧ z ≠ 0 ∧ z ≤ 16 ∧ 0 ≤ z := by
  by_cases h0 : L.length = 0
  · exact .inr ⟨1, op_nil h0, by decide, by decide, by decide⟩
  · by_cases h : okK L ∧ okC L
    · have hs := open_size h.1 h.2 (by omega)
      exact .inl ⟨_, op_good h0 (by omega) h, by omega, hs, h.1, h.2, rfl⟩
    · exact .inr ⟨16, op_bad h0 (by omega) h, by decide, by decide, by decide⟩
theorem Cls.up {w w' : World} {v : Value} {cs : List Cel} (h : Cls w w.heap.size v cs) (hb : Below w.heap.size w w') : Cls w' w'.heap.size v cs :=
  h.keep hb.size fun _ hp => hb.cell hp
end Go.Proofs.YtofgniceilbpaaaDoor
namespace Go.Proofs.YtofgniceilbpaaaDoor
open Go.RowKit

theorem Sp.up {W w : World} {v : Value} {l : List Int} (h : Sp W W.heap.size v l) (u : Up W w) : Sp w w.heap.size v l := Sp.keep h u.size fun _ hp => Below.cell u hp
theorem Spp.up {W w : World} {v : Value} {l : List (List Int)} (h : Spp W W.heap.size v l) (u : Up W w) : Spp w w.heap.size v l := Spp.keep h u.size fun _ hp => Below.cell u hp
theorem Cls.upp {W w : World} {v : Value} {cs : List Cel} (h : Cls W W.heap.size v cs) (u : Up W w) : Cls w w.heap.size v cs := Cls.keep h u.size fun _ hp => Below.cell u hp
/-! ### the program's calls -/
def TrP (o : Option Tr) (z : Int) (W : World) (e : Ending) (w' : World) : Prop := ∃ v, e = .returned (.tuple #[v, .int .i64 z]) ∧ HasT w' v o ∧ Up W w'
theorem TePost.trp {o : Option Tr} {z : Int} {W w : World} {e : Ending} {w' : World} {S : Nat → Prop} (hS : Bel S w.heap.size) (u : Up W w) (h : TePost S o z w e w') : TrP o z W e w' := by
  obtain ⟨v, he, hi, hb⟩ := h
  exact ⟨v, he, HasT.of hi (sin_bel' hS hb.size), u.of hb⟩
theorem uSame (o o' : Option Tr) {W w : World} {v v' : Value} (h : HasT W v o) (h' : HasT W v' o') (hz : szO o ≤ 65536) (b : Bool) (hb : b = true ↔ o = o') (u : Up W w) :
    Calls Tryd.prog 17 #[v, v'] w (BoP b W) :=
  (arSame o o' w _ _ v v' HasT.bel HasT.bel (h.up u) (h'.up u) hz b hb).mono fun _ _ k => ⟨k.1, u.of k.2⟩
theorem uSize (o : Option Tr) {W w : World} {v : Value} (h : HasT W v o) (hz : szO o ≤ 65536) (u : Up W w) : Calls Tryd.prog 28 #[v] w (NuP (szO o) W) :=
  (arSize o w _ v HasT.bel (h.up u) hz).mono fun _ _ k => ⟨k.1, u.of k.2⟩
theorem AtPost.trp {o : Option Tr} {z : Int} {W w : World} {e : Ending} {w' : World} (u : Up W w) (h : AtPost (fun q => q < w.heap.size) o z w e w') : TrP o z W e w' := by
  obtain ⟨v, he, hi, q, rfl⟩ := h
  exact ⟨v, he, hi, u.drewN q⟩
theorem rAt (o : Option Tr) (l : List Int) {W w : World} {v pv : Value} (h : HasT W v o) (hp : Sp W W.heap.size pv l) (hl : l.length ≤ 1000000) (hz : szO o ≤ 65536) (u : Up W w) :
    Calls Tryd.prog 24 #[v, pv] w (TrP (atO o l) (atE o l) W) :=
  (refAt o l w _ _ v pv (h.up u) (hp.up u) (by omega) (by omega)).mono fun _ _ k => AtPost.trp u k
end Go.Proofs.YtofgniceilbpaaaDoor
namespace Go.Proofs.YtofgniceilbpaaaDoor
open Go.RowKit

def InP (z : Int) (W : World) (e : Ending) (w' : World) : Prop := e = .returned (.int .i64 z) ∧ Up W w'
def StP (s : ByteArray) (W : World) (e : Ending) (w' : World) : Prop := e = .returned (.string s) ∧ Up W w'
def ErH (R : Option Tr × Int) (W : World) (e : Ending) (w' : World) : Prop := ∃ v, e = .returned (.tuple #[v, .int .i64 R.2]) ∧ HasT w' v R.1 ∧ Up W w'
theorem ErH.has {R : Option Tr × Int} {W w' : World} {e : Ending} (h : ErH R W e w') : ErH R W e w' := h
theorem ErP.has {R : Option Tr × Int} {W w' : World} {e : Ending} (h : ErP R W e w') : ErH R W e w' := by
  obtain ⟨v, h1, h2, h3⟩ := h
  exact ⟨v, h1, h3.has, h2⟩
def Pw (w : World) : Prop := Lib.TabIs Tryd.prog w "internal/strconv.uint64pow10" .u64 Lib.pow10Tab
theorem Pw.up {W w : World} (h : Pw W) (hb : Up W w) : Pw w := by
  have hg : Tryd.prog.globalNamed "internal/strconv.uint64pow10" = some 1 := by kernel_rfl
  unfold Pw Lib.TabIs World.var? at h ⊢
  rw [hg] at h ⊢
  simp only [Option.bind_some] at h ⊢
  cases ho : W.heap[1]? with
  | none => rw [ho] at h; cases h
  | some o => rw [heap_below ho hb, ← ho]; exact h
theorem bopU {a b : Bool} {W w' : World} (h : b = a) (u : Up W w') : BoP b W (.returned (.bool a)) w' := ⟨by rw [h], u⟩
theorem node_hasN {w : World} {S : Nat → Prop} {b g n c : Nat} {x : Nod} {f : Fr} (h : w.heap[b]? = some (.cells #[.int .i64 x.k, .int .i64 x.n, .string x.a, .string x.m, .slice (some ⟨g, 0, none⟩) n c] 47 (0, 0))) (hn : f.len = n) (hc : n ≤ c) (hS : S b) (hg : S g) (hf : InF w S f g 0) : InT w S (.pointer (some ⟨b, 0, none⟩)) (x, f) := by
  subst hn
  exact ⟨b, 0, some ⟨g, 0, none⟩, c, rfl, hS, ⟨_, _, h⟩, cell_of_row w b 0 _ _ _ h, cell_of_row w b 1 _ _ _ h, cell_of_row w b 2 _ _ _ h, cell_of_row w b 3 _ _ _ h, cell_of_row w b 4 _ _ _ h, hc, fun _ => ⟨g, 0, rfl, hg, hf⟩⟩
theorem two_hasN {W w : World} {va vb : Value} {a b : Tr} {k : Int} (hW : W.heap.size ≤ w.heap.size) (ha : NwT W w va a) (hb : NwT W w vb b) :
    NwT W ((w.alloc (.cells #[va, vb] 25)).alloc (.cells #[.int .i64 k, .int .i64 0, .string ⟨#[]⟩, .string ⟨#[]⟩, .slice (some ⟨w.heap.size, 0, none⟩) 2 2] 47)) (.pointer (some ⟨w.heap.size + 1, 0, none⟩)) (⟨k, 0, ⟨#[]⟩, ⟨#[]⟩⟩, .cons a.1 a.2 (.cons b.1 b.2 .nil)) := by
  have e1 : (w.alloc (.cells #[va, vb] 25)).heap.size = w.heap.size + 1 := by simp
  rw [← e1]
  obtain ⟨W1, hW1⟩ : ∃ W1, w.alloc (.cells #[va, vb] 25) = W1 := ⟨_, rfl⟩
  have s1 : W1.heap[w.heap.size]? = some (.cells #[va, vb] 25 (0, 0)) := by rw [← hW1]; exact heap_alloc_new w _
  have u1 : Up w W1 := by rw [← hW1]; exact (Up.refl w).alloc _
  have z1 := u1.size
  rw [hW1]
  obtain ⟨W2, hW2⟩ : ∃ W2, W1.alloc (.cells #[.int .i64 k, .int .i64 0, .string ⟨#[]⟩, .string ⟨#[]⟩, .slice (some ⟨w.heap.size, 0, none⟩) 2 2] 47) = W2 := ⟨_, rfl⟩
  have s2 : W2.heap[W1.heap.size]? = some (.cells #[.int .i64 k, .int .i64 0, .string ⟨#[]⟩, .string ⟨#[]⟩, .slice (some ⟨w.heap.size, 0, none⟩) 2 2] 47 (0, 0)) := by rw [← hW2]; exact heap_alloc_new W1 _
  have u2 : Up W1 W2 := by rw [← hW2]; exact (Up.refl W1).alloc _
  have s3 : W2.heap[w.heap.size]? = some (.cells #[va, vb] 25 (0, 0)) := u2.row s1
  rw [hW2]
  exact node_hasN (x := ⟨k, 0, ⟨#[]⟩, ⟨#[]⟩⟩) (f := .cons a.1 a.2 (.cons b.1 b.2 .nil)) s2 rfl (Nat.le_refl _) ⟨by omega, heap_lt s2⟩ ⟨hW, heap_lt s3⟩ ⟨⟨_, cell_of_row W2 w.heap.size 0 _ _ _ s3, ha.up (u1.trans u2)⟩, ⟨_, cell_of_row W2 w.heap.size 1 _ _ _ s3, hb.up (u1.trans u2)⟩, trivial⟩
theorem leaf_hasN {W w : World} {x : Nod} (hW : W.heap.size ≤ w.heap.size) : NwT W (w.alloc (.cells #[.int .i64 x.k, .int .i64 x.n, .string x.a, .string x.m, .slice none 0 0] 47)) (.pointer (some ⟨w.heap.size, 0, none⟩)) (x, .nil) :=
  leaf_nw (heap_alloc_new w _) hW
noncomputable def kept (cs : List Cel) : Option Tr := (opR (fwL10 cs)).1
theorem kept_sz (cs : List Cel) : szO (kept cs) ≤ 60 := by
  unfold kept
  rcases op_two (fwL10_len cs) with ⟨t, h, hs, _⟩ | ⟨z, h, _⟩
  · rw [h]; exact hs
  · rw [h]; exact Nat.zero_le _
def fitD (c : Cel) : Prop := c.x.a.size ≤ 9223372036854775807 ∧ c.x.m.size ≤ 9223372036854775807 ∧ c.ks.length ≤ 9223372036854775807
theorem uFew10 (cs : List Cel) {W w : World} {cv : Value} (hcl : Cls W W.heap.size cv cs) (hf : ∀ c ∈ cs, fitD c) (u : Up W w) : Calls Tryd.prog 8 #[.agg #[cv]] w (fun e w' => ∃ v, e = .returned v ∧ HasT w' v (kept cs) ∧ Up w w') :=
  (few10 cs w cv (hcl.upp u) hf).mono fun _ _ ⟨v, h1, h2, h3⟩ => ⟨v, h1, InO.keep h2 (fun _ h => h.2) fun _ _ => rfl, h3⟩
end Go.Proofs.YtofgniceilbpaaaDoor
namespace Go.Proofs.YtofgniceilbpaaaDoor
open Go.RowKit

theorem Fr.pt_sz {i : Int} {u : Tr} {f : Fr} : ∀ {d : Nat} {g : Fr}, f.vok → Fr.pt i u d f = some g → g.sz + Fr.ct i d f = f.sz + Fr.ct i d f * szT u := by
  induction f with
  | nil => intro d g _ h; injection h with h; rw [← h]; show 0 + 0 = 0 + 0 * _; omega
  | cons x k r ihk ihr =>
    intro d g hv h
    obtain ⟨t, r', h1, h2, rfl⟩ := Fr.pt_inv h
    have e2 := ihr hv.2.2 h2
    rw [Fr.ct_c]
    unfold ptT at h1
    by_cases ha : atV i d x
    · rw [if_pos ha] at h1
      have hz := (mvT_sz h1).1
      obtain ⟨_, _, _, hk⟩ := hv.1.2 ha.1
      subst hk
      have ec : ctT i d (x, .nil) = 1 := by unfold ctT; rw [if_pos ha]; rfl
      rw [ec]
      show 1 + t.2.sz + r'.sz + (1 + Fr.ct i d r) = 1 + 0 + r.sz + (1 + Fr.ct i d r) * szT u
      have hz : 1 + t.2.sz = szT u := hz
      rw [Nat.add_mul, Nat.one_mul]
      omega
    · rw [if_neg ha] at h1
      simp only at h1
      cases hk : Fr.pt i u (d + innK x.k) k with
      | none => rw [hk] at h1; cases h1
      | some k' =>
        rw [hk] at h1
        injection h1 with h1
        have e1 := ihk hv.2.1 hk
        have ec : ctT i d (x, k) = Fr.ct i (d + innK x.k) k := by unfold ctT; rw [if_neg ha, Nat.zero_add]
        rw [ec, ← h1]
        show 1 + k'.sz + r'.sz + (Fr.ct i (d + innK x.k) k + Fr.ct i d r) = 1 + k.sz + r.sz + (Fr.ct i (d + innK x.k) k + Fr.ct i d r) * szT u
        rw [Nat.add_mul]
        omega
theorem ptT_sz {i : Int} {u t t' : Tr} {d : Nat} (hv : tvok t) (h : ptT i u d t = some t') : szT t' + ctT i d t = szT t + ctT i d t * szT u := by
  have h1 : Fr.pt i u d (.cons t.1 t.2 .nil) = some (.cons t'.1 t'.2 .nil) := Fr.pt_mk (x := t.1) (k := t.2) h rfl
  have h2 := Fr.pt_sz (f := .cons t.1 t.2 .nil) ⟨hv.1, hv.2, trivial⟩ h1
  rw [Fr.ct_c] at h2
  have e0 : Fr.ct i d .nil = 0 := rfl
  rw [e0, Nat.add_zero] at h2
  have e1 : (Fr.cons t.1 t.2 .nil).sz = szT t := rfl
  have e2 : (Fr.cons t'.1 t'.2 .nil).sz = szT t' := rfl
  rw [e1, e2] at h2
  exact h2
end Go.Proofs.YtofgniceilbpaaaDoor
