/-
  The law ArenaOpens.
-/
import Derived.Test.YtdofcjnkpgbjaaaDoorGt11
import Derived.Test.YtdofcjnkpgbjaaaDoorGt16
import Derived.Test.YtdofcjnkpgbjaaaDoorGt19
import Derived.Test.YtdofcjnkpgbjaaaDoorGt20
import Derived.ArgAppend
import Derived.Laws.EntriesVeiled
import Derived.Lib.LaidTab
namespace Go.Proofs.YtdofcjnkpgbjaaaDoor
open Go.RowKit

theorem op_two {L : List Cel} (hl : L.length ≤ 60) : (∃ t, opR L = (some t, 0) ∧ szT t ≤ 60 ∧ szT t = L.length ∧ okK L ∧ okC L ∧ gr L L.length (L.length - 1) = t) ∨ ∃ z, opR L = (none, z) ∧ z ≠ 0 ∧ z ≤ 16 ∧ 0 ≤ z := by
  by_cases h0 : L.length = 0
  · exact .inr ⟨1, op_nil h0, by decide, by decide, by decide⟩
  · by_cases h : okK L ∧ okC L
    · have hs := open_size h.1 h.2 (by omega)
      exact .inl ⟨_, op_good h0 (by omega) h, by omega, hs, h.1, h.2, rfl⟩
    · exact .inr ⟨16, op_bad h0 (by omega) h, by decide, by decide, by decide⟩
theorem Cls.up {w w' : World} {v : Value} {cs : List Cel} (h : Cls w w.heap.size v cs) (hb : Below w.heap.size w w') : Cls w' w'.heap.size v cs :=
  h.keep hb.size fun _ hp => hb.cell hp
end Go.Proofs.YtdofcjnkpgbjaaaDoor
namespace Go.Proofs.YtdofcjnkpgbjaaaDoor
open Go.RowKit

theorem Sp.up {W w : World} {v : Value} {l : List Int} (h : Sp W W.heap.size v l) (u : Up W w) : Sp w w.heap.size v l := Sp.keep h u.size fun _ hp => Below.cell u hp
theorem Spp.up {W w : World} {v : Value} {l : List (List Int)} (h : Spp W W.heap.size v l) (u : Up W w) : Spp w w.heap.size v l := Spp.keep h u.size fun _ hp => Below.cell u hp
theorem Cls.upp {W w : World} {v : Value} {cs : List Cel} (h : Cls W W.heap.size v cs) (u : Up W w) : Cls w w.heap.size v cs := Cls.keep h u.size fun _ hp => Below.cell u hp
/-! ### the program's calls -/
theorem uSame (o o' : Option Tr) {W w : World} {v v' : Value} (h : HasT W v o) (h' : HasT W v' o') (hz : szO o ≤ 65536) (b : Bool) (hb : b = true ↔ o = o') (u : Up W w) :
    Calls Tryd.prog 26 #[v, v'] w (BoP b W) :=
  (arSame o o' w _ _ v v' HasT.bel HasT.bel (h.up u) (h'.up u) hz b hb).mono fun _ _ k => ⟨k.1, u.of k.2⟩
theorem rSame (o o' : Option Tr) {W w : World} {v v' : Value} (h : HasT W v o) (h' : HasT W v' o') (hz : szO o ≤ 65536) (b : Bool) (hb : b = true ↔ o = o') (u : Up W w) :
    Calls Tryd.prog 19 #[v, v'] w (BoP b W) :=
  (refSameO o o' w _ _ v v' (h.up u) (h'.up u) (by omega) b hb).mono fun _ _ k => by obtain ⟨k1, q, rfl⟩ := k; exact ⟨k1, u.drewN q⟩
theorem uSize (o : Option Tr) {W w : World} {v : Value} (h : HasT W v o) (hz : szO o ≤ 65536) (u : Up W w) : Calls Tryd.prog 44 #[v] w (NuP (szO o) W) :=
  (arSize o w _ v HasT.bel (h.up u) hz).mono fun _ _ k => ⟨k.1, u.of k.2⟩
end Go.Proofs.YtdofcjnkpgbjaaaDoor
namespace Go.Proofs.YtdofcjnkpgbjaaaDoor
open Go.RowKit

def InP (z : Int) (W : World) (e : Ending) (w' : World) : Prop := e = .returned (.int .i64 z) ∧ Up W w'
def StP (s : ByteArray) (W : World) (e : Ending) (w' : World) : Prop := e = .returned (.string s) ∧ Up W w'
def ErH (R : Option Tr × Int) (W : World) (e : Ending) (w' : World) : Prop := ∃ v, e = .returned (.tuple #[v, .int .i64 R.2]) ∧ HasT w' v R.1 ∧ Up W w'
theorem ErH.has {R : Option Tr × Int} {W w' : World} {e : Ending} (h : ErH R W e w') : ErH R W e w' := h
theorem ErP.has {R : Option Tr × Int} {W w' : World} {e : Ending} (h : ErP R W e w') : ErH R W e w' := by
  obtain ⟨v, h1, h2, h3⟩ := h
  exact ⟨v, h1, h3.has, h2⟩
def Pw (w : World) : Prop := Lib.TabIs Tryd.prog w "internal/strconv.uint64pow10" .u64 Lib.pow10Tab
theorem Pw.up {W w : World} (h : Pw W) (hb : Up W w) : Pw w := by
  have hg : Tryd.prog.globalNamed "internal/strconv.uint64pow10" = some 1 := by kernel_rfl
  unfold Pw Lib.TabIs World.var? at h ⊢
  rw [hg] at h ⊢
  simp only [Option.bind_some] at h ⊢
  cases ho : W.heap[1]? with
  | none => rw [ho] at h; cases h
  | some o => rw [heap_below ho hb, ← ho]; exact h
structure CtAll : Prop where
  check : ∀ (w : World) (o : Option Tr) (v : Value), HasT w v o → szO o ≤ 65536 → Calls Tryd.prog 10 #[v] w (InP (ckE o) w)
  kind : ∀ (w : World) (o : Option Tr) (v : Value), HasT w v o → szO o ≤ 65536 → Calls Tryd.prog 12 #[v] w (InP (kkE o) w)
  text : ∀ (w : World) (o : Option Tr) (v : Value), HasT w v o → szO o ≤ 65536 → Pw w → Calls Tryd.prog 14 #[v] w (StP (swR o) w)
  free : ∀ (w : World) (o : Option Tr) (v : Value), HasT w v o → szO o ≤ 65536 → Calls Tryd.prog 20 #[v] w (InP (frR o) w)
  occurs : ∀ (w : World) (o : Option Tr) (v : Value) (i : Int), HasT w v o → szO o ≤ 65536 → Calls Tryd.prog 22 #[v, .int .i64 i] w (BoP (ocR o i) w)
  shift : ∀ (w : World) (o : Option Tr) (v : Value) (b c : Int), HasT w v o → szO o ≤ 65536 → Calls Tryd.prog 17 #[v, .int .i64 b, .int .i64 c] w (ErH (shR b c o) w)
  subst : ∀ (w : World) (o p : Option Tr) (v u : Value) (i : Int), HasT w v o → szO o ≤ 65536 → HasT w u p → szO p ≤ 65536 → Calls Tryd.prog 24 #[v, .int .i64 i, u] w (ErH (sbR i o p) w)

theorem rCheck {W : World} {v : Value} {o : Option Tr} (h : HasT W v o) (hz : szO o ≤ 65536) : Calls Tryd.prog 11 #[v] W (InP (ckE o) W) := (refCheck o h (by omega)).mono fun _ _ ⟨he, q, hq⟩ => ⟨he, hq ▸ (Up.refl _).drewN q⟩
theorem rFree {W : World} {v : Value} {o : Option Tr} (h : HasT W v o) (hz : szO o ≤ 65536) : Calls Tryd.prog 21 #[v] W (InP (frR o) W) := (refFree o h (by omega)).mono fun _ _ ⟨he, q, hq⟩ => ⟨he, hq ▸ (Up.refl _).drewN q⟩
theorem rOccurs {W : World} {v : Value} {o : Option Tr} (i : Int) (h : HasT W v o) (hz : szO o ≤ 65536) : Calls Tryd.prog 23 #[v, .int .i64 i] W (BoP (ocR o i) W) := (refOccurs o i h (by omega)).mono fun _ _ ⟨he, q, hq⟩ => ⟨he, hq ▸ (Up.refl _).drewN q⟩
theorem rShift {W : World} {v : Value} {o : Option Tr} (b c : Int) (h : HasT W v o) (hz : szO o ≤ 65536) : Calls Tryd.prog 18 #[v, .int .i64 b, .int .i64 c] W (ErH (shR b c o) W) := (refShift o b c HasT.bel h (by omega)).mono fun _ _ k => k.has
theorem rSubst {W : World} {v u : Value} {o p : Option Tr} (i : Int) (h : HasT W v o) (hz : szO o ≤ 65536) (h' : HasT W u p) (hz' : szO p ≤ 65536) : Calls Tryd.prog 25 #[v, .int .i64 i, u] W (ErH (sbR i o p) W) := (refSubst o p i HasT.bel h (by omega) h' (by omega)).mono fun _ _ k => k.has
theorem rKind {W : World} {v : Value} {o : Option Tr} (h : HasT W v o) (hz : szO o ≤ 65536) : Calls Tryd.prog 13 #[v] W (InP (kkE o) W) := (refKind o h (by omega)).mono fun _ _ ⟨he, q, hq⟩ => ⟨he, hq ▸ (Up.refl _).drewN q⟩
theorem rShow {W : World} {v : Value} {o : Option Tr} (h : HasT W v o) (hz : szO o ≤ 65536) : Calls Tryd.prog 15 #[v] W (StP (swR o) W) := (refShow o h (by omega)).mono fun _ _ ⟨he, q, hq⟩ => ⟨he, hq ▸ (Up.refl _).drewN q⟩
theorem bopU {a b : Bool} {W w' : World} (h : b = a) (u : Up W w') : BoP b W (.returned (.bool a)) w' := ⟨by rw [h], u⟩
def varT (k : Int) : Tr := (⟨110, k, ⟨#[]⟩, ⟨#[]⟩⟩, .nil)
def exA : Tr := (⟨114, 0, ⟨#[]⟩, ⟨#[]⟩⟩, .cons (varT 0).1 .nil (.cons (varT 1).1 .nil .nil))
def exI : Tr := (⟨111, 0, ⟨#[]⟩, ⟨#[]⟩⟩, .nil)
def exB : Tr := (⟨114, 0, ⟨#[]⟩, ⟨#[]⟩⟩, .cons exI.1 .nil (.cons (varT 0).1 .nil .nil))
theorem ex10_sb : sbR 0 (some exA) (some exI) = (some exB, 0) := by kernel_rfl
theorem ex10_a : swR (some exA) = ⟨#[40, 32, 36, 48, 32, 45, 62, 32, 36, 49, 32, 41]⟩ := by kernel_rfl
theorem ex10_b : swR (some exB) = ⟨#[40, 32, 105, 110, 116, 32, 45, 62, 32, 36, 48, 32, 41]⟩ := by kernel_rfl
theorem node_hasN {w : World} {S : Nat → Prop} {b g n c : Nat} {x : Nod} {f : Fr} (h : w.heap[b]? = some (.cells #[.int .i64 x.k, .int .i64 x.n, .string x.a, .string x.m, .slice (some ⟨g, 0, none⟩) n c] 46 (0, 0))) (hn : f.len = n) (hc : n ≤ c) (hS : S b) (hg : S g) (hf : InF w S f g 0) : InT w S (.pointer (some ⟨b, 0, none⟩)) (x, f) := by
  subst hn
  exact ⟨b, 0, some ⟨g, 0, none⟩, c, rfl, hS, ⟨_, _, h⟩, cell_of_row w b 0 _ _ _ h, cell_of_row w b 1 _ _ _ h, cell_of_row w b 2 _ _ _ h, cell_of_row w b 3 _ _ _ h, cell_of_row w b 4 _ _ _ h, hc, fun _ => ⟨g, 0, rfl, hg, hf⟩⟩
theorem two_hasN {W w : World} {va vb : Value} {a b : Tr} {k : Int} (hW : W.heap.size ≤ w.heap.size) (ha : NwT W w va a) (hb : NwT W w vb b) :
    NwT W ((w.alloc (.cells #[va, vb] 25)).alloc (.cells #[.int .i64 k, .int .i64 0, .string ⟨#[]⟩, .string ⟨#[]⟩, .slice (some ⟨w.heap.size, 0, none⟩) 2 2] 46)) (.pointer (some ⟨w.heap.size + 1, 0, none⟩)) (⟨k, 0, ⟨#[]⟩, ⟨#[]⟩⟩, .cons a.1 a.2 (.cons b.1 b.2 .nil)) := by
  have e1 : (w.alloc (.cells #[va, vb] 25)).heap.size = w.heap.size + 1 := by simp
  rw [← e1]
  obtain ⟨W1, hW1⟩ : ∃ W1, w.alloc (.cells #[va, vb] 25) = W1 := ⟨_, rfl⟩
  have s1 : W1.heap[w.heap.size]? = some (.cells #[va, vb] 25 (0, 0)) := by rw [← hW1]; exact heap_alloc_new w _
  have u1 : Up w W1 := by rw [← hW1]; exact (Up.refl w).alloc _
  have z1 := u1.size
  rw [hW1]
  obtain ⟨W2, hW2⟩ : ∃ W2, W1.alloc (.cells #[.int .i64 k, .int .i64 0, .string ⟨#[]⟩, .string ⟨#[]⟩, .slice (some ⟨w.heap.size, 0, none⟩) 2 2] 46) = W2 := ⟨_, rfl⟩
  have s2 : W2.heap[W1.heap.size]? = some (.cells #[.int .i64 k, .int .i64 0, .string ⟨#[]⟩, .string ⟨#[]⟩, .slice (some ⟨w.heap.size, 0, none⟩) 2 2] 46 (0, 0)) := by rw [← hW2]; exact heap_alloc_new W1 _
  have u2 : Up W1 W2 := by rw [← hW2]; exact (Up.refl W1).alloc _
  have s3 : W2.heap[w.heap.size]? = some (.cells #[va, vb] 25 (0, 0)) := u2.row s1
  rw [hW2]
  exact node_hasN (x := ⟨k, 0, ⟨#[]⟩, ⟨#[]⟩⟩) (f := .cons a.1 a.2 (.cons b.1 b.2 .nil)) s2 rfl (Nat.le_refl _) ⟨by omega, heap_lt s2⟩ ⟨hW, heap_lt s3⟩ ⟨⟨_, cell_of_row W2 w.heap.size 0 _ _ _ s3, ha.up (u1.trans u2)⟩, ⟨_, cell_of_row W2 w.heap.size 1 _ _ _ s3, hb.up (u1.trans u2)⟩, trivial⟩
theorem leaf_hasN {W w : World} {x : Nod} (hW : W.heap.size ≤ w.heap.size) : NwT W (w.alloc (.cells #[.int .i64 x.k, .int .i64 x.n, .string x.a, .string x.m, .slice none 0 0] 46)) (.pointer (some ⟨w.heap.size, 0, none⟩)) (x, .nil) :=
  leaf_nw (heap_alloc_new w _) hW
def NtP (t : Tr) (W : World) (e : Ending) (w' : World) : Prop := ∃ v, e = .returned v ∧ Up W w' ∧ NwT W w' v t
set_option maxHeartbeats 3200000 in
set_option maxRecDepth 100000 in
theorem exVar (k : Int) (w : World) : Calls Tryd.prog 37 #[.int .i64 k] w (NtP (varT k) w) := by
  go_enter Tryd.func37, Tryd.ntmps37
  go_wp2_with fail
  go_ret
  exact ⟨_, rfl, (Up.refl _).alloc _, leaf_hasN (x := ⟨110, k, ⟨#[]⟩, ⟨#[]⟩⟩) (Nat.le_refl _)⟩
set_option maxHeartbeats 3200000 in
set_option maxRecDepth 100000 in
theorem works10 (ct : CtAll) {W w : World} (hp : Pw W) (hu : Up W w) : Calls Tryd.prog 16 #[] w (BoP true W) := by
  have HU := Lib.hid hu
  have CT := Lib.hid ct
  have HP := Lib.hid (hp.up hu)
  clear hu ct hp
  go_enter Tryd.func16, Tryd.ntmps16
  go_wp2_with fail
  refine (exVar 0 w).mono ?_
  rintro e w1 ⟨v1, rfl, u1, h1⟩
  have H1 := Lib.hid h1
  have U1 := Lib.hid u1
  clear h1 u1
  go_wp2_with fail
  refine (exVar 1 w1).mono ?_
  rintro e w2 ⟨v2, rfl, u2, h2⟩
  have H12 := Lib.hid (H1.out.up u2)
  have H2 := Lib.hid (h2.base U1.out.size)
  have U2 := Lib.hid (U1.out.trans u2)
  obtain ⟨⟨q1, p1, rfl⟩, -⟩ : (∃ q p, v1 = .pointer (some ⟨q, p, none⟩)) ∧ True := ⟨H1.out.ptr, trivial⟩
  obtain ⟨⟨q2, p2, rfl⟩, -⟩ : (∃ q p, v2 = .pointer (some ⟨q, p, none⟩)) ∧ True := ⟨h2.ptr, trivial⟩
  clear h2 u2
  go_wp2_with fail
  have h3 := two_hasN (W := w) (k := 114) U2.out.size H12.out H2.out
  have u3 := ((U2.out.alloc (.cells #[.pointer (some ⟨q1, p1, none⟩), .pointer (some ⟨q2, p2, none⟩)] 25)).alloc (.cells #[.int .i64 114, .int .i64 0, .string ⟨#[]⟩, .string ⟨#[]⟩, .slice (some ⟨w2.heap.size, 0, none⟩) 2 2] 46))
  have hz : ((w2.alloc (.cells #[.pointer (some ⟨q1, p1, none⟩), .pointer (some ⟨q2, p2, none⟩)] 25)).alloc (.cells #[.int .i64 114, .int .i64 0, .string ⟨#[]⟩, .string ⟨#[]⟩, .slice (some ⟨w2.heap.size, 0, none⟩) 2 2] 46)).heap.size = w2.heap.size + 1 + 1 := by simp
  generalize ((w2.alloc (.cells #[.pointer (some ⟨q1, p1, none⟩), .pointer (some ⟨q2, p2, none⟩)] 25)).alloc (.cells #[.int .i64 114, .int .i64 0, .string ⟨#[]⟩, .string ⟨#[]⟩, .slice (some ⟨w2.heap.size, 0, none⟩) 2 2] 46)) = W3 at h3 u3 hz ⊢
  have h4 := leaf_hasN (W := w) (w := W3) (x := ⟨111, 0, ⟨#[]⟩, ⟨#[]⟩⟩) u3.size
  have u4 := u3.alloc (.cells #[.int .i64 111, .int .i64 0, .string ⟨#[]⟩, .string ⟨#[]⟩, .slice none 0 0] 46)
  have h34 := h3.up ((Up.refl W3).alloc (.cells #[.int .i64 111, .int .i64 0, .string ⟨#[]⟩, .string ⟨#[]⟩, .slice none 0 0] 46))
  simp only at h4
  rw [hz] at h4
  generalize (W3.alloc (.cells #[.int .i64 111, .int .i64 0, .string ⟨#[]⟩, .string ⟨#[]⟩, .slice none 0 0] 46)) = W4 at h4 u4 h34 ⊢
  have HA : Hid (HasT W4 (.pointer (some ⟨w2.heap.size + 1, 0, none⟩)) (some exA)) := Lib.hid h34.has
  have cS := CT.out.subst W4 (some exA) (some exI) _ _ 0 HA.out (by decide) h4.has (by decide)
  rw [ex10_sb] at cS
  have U4 := Lib.hid u4
  clear h3 u3 hz h4 u4 h34 H1 H12 H2 U1 U2
  refine cS.mono ?_
  rintro e w5 ⟨v5, rfl, h5, u5⟩
  have cA := CT.out.text w5 (some exA) _ (HA.out.up u5) (by decide) (HP.out.up (U4.out.trans u5))
  rw [ex10_a] at cA
  have H5 := Lib.hid h5
  have U5 := Lib.hid (U4.out.trans u5)
  clear u5 h5 cS
  go_wp2_with fail
  refine cA.mono ?_
  rintro e w6 ⟨rfl, u6⟩
  have cB := CT.out.text w6 (some exB) _ (H5.out.up u6) (by decide) (HP.out.up (U5.out.trans u6))
  rw [ex10_b] at cB
  have U6 := Lib.hid (U5.out.trans u6)
  clear u6 cA
  go_wp2_with fail
  refine cB.mono ?_
  rintro e w7 ⟨rfl, u7⟩
  have U7 := Lib.hid (U6.out.trans u7)
  clear u7 cB
  go_wp2_with fail
  go_ret
  exact bopU rfl (HU.out.trans U7.out)
noncomputable def kept (cs : List Cel) : Option Tr := (opR (fwL10 cs)).1
theorem kept_sz (cs : List Cel) : szO (kept cs) ≤ 60 := by
  unfold kept
  rcases op_two (fwL10_len cs) with ⟨t, h, hs, _⟩ | ⟨z, h, _⟩
  · rw [h]; exact hs
  · rw [h]; exact Nat.zero_le _
def fitD (c : Cel) : Prop := c.x.a.size ≤ 9223372036854775807 ∧ c.x.m.size ≤ 9223372036854775807 ∧ c.ks.length ≤ 9223372036854775807
theorem uFew10 (cs : List Cel) {W w : World} {cv : Value} (hcl : Cls W W.heap.size cv cs) (hf : ∀ c ∈ cs, fitD c) (u : Up W w) : Calls Tryd.prog 9 #[.agg #[cv]] w (fun e w' => ∃ v, e = .returned v ∧ HasT w' v (kept cs) ∧ Up w w') :=
  (few10 cs w cv (hcl.upp u) hf).mono fun _ _ ⟨v, h1, h2, h3⟩ => ⟨v, h1, InO.keep h2 (fun _ h => h.2) fun _ _ => rfl, h3⟩
set_option maxHeartbeats 12800000 in
set_option maxRecDepth 100000 in
theorem lawChecks10 (ct : CtAll) (cs : List Cel) (w : World) (cv : Value) (hpw : Pw w) (hcl : Cls w w.heap.size cv cs) (hfit : ∀ c ∈ cs, fitD c) :
    Calls Tryd.prog 3 #[.agg #[cv]] w (BoP true w) := by
  obtain ⟨H, hH⟩ : ∃ H, w.heap.size = H := ⟨_, rfl⟩
  obtain ⟨CA, cc, hcv, -, -⟩ := id hcl
  have u0 : Up w (w.alloc (.cells #[cv] 24)) := (Up.refl w).alloc _
  obtain ⟨W0, hW0⟩ : ∃ W0, w.alloc (.cells #[cv] 24) = W0 := ⟨_, rfl⟩
  have hx0 : W0.heap[H]? = some (.cells #[cv] 24 (0, 0)) := by rw [← hW0, ← hH]; exact heap_alloc_new w _
  rw [hW0] at u0
  have hcl0 := hcl.upp u0
  have kc : W0.cell? ⟨H, 0, none⟩ = some cv := cell_of_row _ H 0 _ _ _ hx0
  have hsz := kept_sz cs
  have HW0 := Lib.hid hW0
  have U0 := Lib.hid u0
  have HCL := Lib.hid hcl0
  have HF := Lib.hid hfit
  have HSZ := Lib.hid hsz
  have CT := Lib.hid ct
  have HPW := Lib.hid hpw
  clear hcl u0 hW0 hcl0 hfit hx0 ct hsz hpw
  subst hcv
  go_enter Tryd.func3, Tryd.ntmps3
  go_wp2_with fail
  rw [HW0.out]
  refine (uFew10 cs HCL.out HF.out (Up.refl _)).mono ?_
  rintro e w1 ⟨v, rfl, h1, u1⟩
  obtain ⟨o, ho⟩ : ∃ o, kept cs = o := ⟨_, rfl⟩
  rw [ho] at h1 HSZ
  have H1 := Lib.hid h1
  have U1 := Lib.hid (U0.out.trans u1)
  clear h1 u1 kc ho
  go_wp2_with fail
  have hz : szO o ≤ 65536 := by have := HSZ.out; omega
  have HC := Lib.hid (fun W (u : Up w1 W) => CT.out.check W o v (H1.out.up u) hz)
  have HC2 := Lib.hid (fun W (u : Up w1 W) => rCheck (H1.out.up u) hz)
  have HK := Lib.hid (fun W (u : Up w1 W) => CT.out.kind W o v (H1.out.up u) hz)
  have HK2 := Lib.hid (fun W (u : Up w1 W) => rKind (H1.out.up u) hz)
  have HT := Lib.hid (fun W (u : Up w1 W) => CT.out.text W o v (H1.out.up u) hz (HPW.out.up (U1.out.trans u)))
  have HT2 := Lib.hid (fun W (u : Up w1 W) => rShow (H1.out.up u) hz)
  obtain ⟨E1, hE1⟩ : ∃ E, ckE o = E := ⟨_, rfl⟩
  obtain ⟨E2, hE2⟩ : ∃ E, kkE o = E := ⟨_, rfl⟩
  obtain ⟨E3, hE3⟩ : ∃ E, swR o = E := ⟨_, rfl⟩
  rw [hE1] at HC HC2
  rw [hE2] at HK HK2
  rw [hE3] at HT HT2
  clear hz hE1 hE2 hE3
  refine (HC.out w1 (Up.refl _)).mono ?_
  rintro e w2 ⟨rfl, u2⟩
  have U2 := Lib.hid u2
  clear u2
  go_wp2_with fail
  refine (HC2.out w2 U2.out).mono ?_
  rintro e w3 ⟨rfl, u3⟩
  have U3 := Lib.hid (U2.out.trans u3)
  clear u3
  go_wp2_with fail
  refine (HK.out w3 U3.out).mono ?_
  rintro e w4 ⟨rfl, u4⟩
  have U4 := Lib.hid (U3.out.trans u4)
  clear u4
  go_wp2_with fail
  refine (HK2.out w4 U4.out).mono ?_
  rintro e w5 ⟨rfl, u5⟩
  have U5 := Lib.hid (U4.out.trans u5)
  clear u5
  go_wp2_with fail
  refine (HT.out w5 U5.out).mono ?_
  rintro e w6 ⟨rfl, u6⟩
  have U6 := Lib.hid (U5.out.trans u6)
  clear u6
  go_wp2_with fail
  refine (HT2.out w6 U6.out).mono ?_
  rintro e w7 ⟨rfl, u7⟩
  have U7 := Lib.hid (U1.out.trans (U6.out.trans u7))
  clear u7
  go_wp2_with fail
  refine (works10 CT.out HPW.out U7.out).mono ?_
  rintro e w8 ⟨rfl, u8⟩
  go_wp2_with fail
  go_ret
  exact bopU rfl u8
end Go.Proofs.YtdofcjnkpgbjaaaDoor
