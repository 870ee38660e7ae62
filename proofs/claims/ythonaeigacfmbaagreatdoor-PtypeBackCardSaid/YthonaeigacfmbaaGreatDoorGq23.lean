/-
  Layer 6, the program's atom: a word of its own, a name.
-/
import Derived.Test.YthonaeigacfmbaaGreatDoorGq22
import Derived.KernelRfl
namespace Go.Proofs.YthonaeigacfmbaaGreatDoor
open Go.RowKit

def plV : Array Value := #[.string kInt, .int .i64 1, .string kBool, .int .i64 2, .string kUnit, .int .i64 3]
def Pl (w : World) : Prop := ∃ t z, w.heap[0]? = some (.cells plV t z)
theorem Pl.up {w w' : World} (h : Pl w) (u : Up w w') : Pl w' := by
  obtain ⟨t, z, h⟩ := h
  exact ⟨t, z, u.row h⟩
def plS : Nat → ByteArray
  | 0 => kInt
  | 1 => kBool
  | _ => kUnit
theorem pl_idx : ∀ k : Nat, k < 3 → ∀ w : World, (Instr.index 182 (.agg plV) (.int .i64 (k : Int))).run Tryz.prog w = .ok (.agg #[.string (plS k), .int .i64 ((k + 1 : Nat) : Int)]) w
  | 0, _, _ => by kernel_rfl
  | 1, _, _ => by kernel_rfl
  | 2, _, _ => by kernel_rfl
  | k + 3, h, _ => absurd h (by omega)
def nameR (o : Option ByteArray) (i : Nat) (e : Int) : Rs Tr := if e = 0 then (match o with | some s => .inl (nd 4 s .nil, i + 1) | none => .inr (i, 6)) else .inr (i, e)
theorem leaf_end {w w3 : World} {b : Nat} {v : Value} {i : Nat} {e : Int} (k : Int) (s : ByteArray) (hb : b < w.heap.size) (g : Gs (On b) w w3) (h : Psr w3 b v i e) (r : w3.heap[w.heap.size + 1]? = some (.cells #[.pointer none] 24 (0, 0)))
    (WF : World) (hWF : (w3.setCell ⟨w.heap.size + 1, 0, none⟩ (.pointer (some ⟨w3.heap.size, 0, none⟩))).alloc (.cells #[.int .i64 k, .int .i64 0, .string s, .string ⟨#[]⟩, .slice none 0 0] 66) = WF) :
    WF.cell? ⟨w.heap.size + 1, 0, none⟩ = some (.pointer (some ⟨w3.heap.size, 0, none⟩)) ∧ Gs (On b) w WF ∧ Psr WF b v i e ∧ NewT w WF (.pointer (some ⟨w3.heap.size, 0, none⟩)) (nd k s .nil) := by
  obtain ⟨Ws, hWs⟩ : ∃ Ws, w3.setCell ⟨w.heap.size + 1, 0, none⟩ (.pointer (some ⟨w3.heap.size, 0, none⟩)) = Ws := ⟨_, rfl⟩
  have zs : Ws.heap.size = w3.heap.size := by rw [← hWs]; simp [World.setCell]
  have bs : Boxed Ws (w.heap.size + 1) 24 (.pointer (some ⟨w3.heap.size, 0, none⟩)) := by rw [← hWs]; exact Boxed.set _ r
  have gs : Gs (On b) w Ws := by rw [← hWs]; exact g.set _ _ (.inr (by simp))
  have hs : Psr Ws b v i e := by rw [← hWs]; exact (Below.heap_setCell _ _ _ _ (by simp only; omega)).trans h
  rw [hWs] at hWF
  have uf : Up Ws WF := by rw [← hWF]; exact (Up.refl Ws).alloc _
  have nf : WF.heap[w3.heap.size]? = some (.cells #[.int .i64 k, .int .i64 0, .string s, .string ⟨#[]⟩, .slice none 0 0] 66 (0, 0)) := by rw [← hWF, ← zs]; exact heap_alloc_new Ws _
  have hg := g.size
  exact ⟨uf.cell bs.cell, gs.trans (Gs.of uf), hs.up uf, leaf_has (x := ⟨k, 0, s, nob⟩) nf ⟨hg, heap_lt nf⟩⟩
section
variable {nk lg : ByteArray → Bool}
set_option maxHeartbeats 12800000 in
set_option maxRecDepth 100000 in
theorem atom_name {V0 : World} {l : List Tk} (b : Nat) (v : Value) (i : Nat) (e : Int) (w : World) (T : Toks nk lg V0 v l) (h : Psr w b v i e) (hu : Up V0 w) (hbW : V0.heap.size ≤ b) (hP : Pl w) (hi : i ≤ 1000000) (hn : ∀ k, k < 3 → tkB l i e (plS k) = false) (h1 : tkB l i e kOpen = false) (h2 : tkB l i e kMu = false) :
    Calls Tryz.prog 163 #[.agg #[.pointer (some ⟨b, 0, none⟩)]] w (PaT (On b) b v (nameR (nam lg l i) i e) (fun _ _ => True) w) := by
  have HO := Lib.hid h1
  have HM := Lib.hid h2
  clear h1 h2
  obtain ⟨tp, zp, hpl⟩ := hP
  have hb : b < w.heap.size := heap_lt h
  have hpw : 0 < w.heap.size := heap_lt hpl
  have H := Lib.hid h
  have HPL := Lib.hid hpl
  have HU := Lib.hid hu
  have HT := Lib.hid T
  have HN := Lib.hid hn
  have hpl2 : ((w.alloc (.cells #[.pointer (some ⟨b, 0, none⟩)] 70)).alloc (.cells #[.pointer none] 24)).heap[0]? = some (.cells plV tp zp) := (((Up.refl w).alloc _).alloc _).row hpl
  clear h hpl hu T hn
  go_enter Tryz.func163, Tryz.ntmps163
  go_wp2_with (refine wpList_load_row rfl 182 (.global 0) rfl 0 rfl tp plV zp _ hpl2 Tryz.underlying182 rfl (by kernel_rfl) ?_)
  generalize hA : plV = AR
  have HAR := Lib.hid hA
  obtain ⟨W0, hW0⟩ : ∃ W0, (w.alloc (.cells #[.pointer (some ⟨b, 0, none⟩)] 70)).alloc (.cells #[.pointer none] 24) = W0 := ⟨_, rfl⟩
  have z0 : W0.heap.size = w.heap.size + 2 := by rw [← hW0]; simp
  have b1 : W0.heap[w.heap.size]? = some (.cells #[.pointer (some ⟨b, 0, none⟩)] 70 (0, 0)) := by rw [← hW0]; exact old_row _ (heap_alloc_new w _)
  have b2 : W0.heap[w.heap.size + 1]? = some (.cells #[.pointer none] 24 (0, 0)) := by rw [← hW0]; exact new_at _ _ (by simp)
  have u0 : Up w W0 := by rw [← hW0]; exact ((Up.refl w).alloc _).alloc _
  have B1 := Lib.hid b1
  have B2 := Lib.hid b2
  have UZ := Lib.hid u0
  rw [hW0]
  clear hA hpl2 hW0 b1 b2 u0
  go_loopw [6] (fun x wr => ∃ k : Nat, k ≤ 3 ∧ x = .int .i64 (k : Int) ∧ Gs (On b) W0 wr ∧ Psr wr b v i e) (fun x _ => 4 - (intOf x).toNat)
  case atStart => exact ⟨0, Nat.zero_le _, rfl, Gs.refl _ _, H.out.up UZ.out⟩
  case round =>
    obtain ⟨k, hk, rfl, hg, ps⟩ := hrel
    have hgs := hg.size
    have hur : Up V0 wr := hg.up (HU.out.trans UZ.out) (fun q hq => by rw [hq]; exact hbW)
    have r1 : wr.heap[w.heap.size]? = some (.cells #[.pointer (some ⟨b, 0, none⟩)] 70 (0, 0)) := hg.row B1.out (by unfold On; omega)
    have r2 : wr.heap[w.heap.size + 1]? = some (.cells #[.pointer none] 24 (0, 0)) := hg.row B2.out (by unfold On; omega)
    have c1 : wr.cell? ⟨w.heap.size, 0, none⟩ = some (.pointer (some ⟨b, 0, none⟩)) := cell_of_row wr w.heap.size 0 _ _ _ r1
    have hbw : w.heap.size < wr.heap.size := by omega
    by_cases hlt : k < 3
    · have hix : ∀ W, (Instr.index 182 (.agg AR) (.int .i64 (k : Int))).run Tryz.prog W = .ok (.agg #[.string (plS k), .int .i64 ((k + 1 : Nat) : Int)]) W := fun W => by rw [← HAR.out]; exact pl_idx k (by omega) W
      have hw : IntKind.i64.wrap ((k : Int) + 1) = ((k + 1 : Nat) : Int) := by rw [IntKind.wrap_i64]; omega
      have hkz : (k : Int) < 3 := by omega
      obtain ⟨X, hX⟩ : ∃ X, plS k = X := ⟨_, rfl⟩
      obtain ⟨ka, hka⟩ : ∃ ka, ((k + 1 : Nat) : Int) = ka := ⟨_, rfl⟩
      rw [hX, hka] at hix
      have HX := Lib.hid hX
      have HKA := Lib.hid hka
      rw [hka] at hw
      obtain ⟨Wr, hWr⟩ : ∃ Wr, wr.alloc (.cells #[.string X, .int .i64 ka] 181) = Wr := ⟨_, rfl⟩
      have ur : Up wr Wr := by rw [← hWr]; exact (Up.refl wr).alloc _
      have cT : Calls Tryz.prog 135 #[.pointer (some ⟨b, 0, none⟩), .string X] Wr (TaP b v i e (tkB l i e X) Wr) := takes_any b v i e X Wr HT.out (ps.up ur) (hur.trans ur) hi
      rw [← hX] at cT
      rw [HN.out k (by omega), hX] at cT
      have HG := Lib.hid hg
      have WRD := Lib.hid hWr
      have UR := Lib.hid ur
      clear hX hka hWr ur hg ps hur r1 r2
      go_wp2_with fail
      rw [WRD.out]
      refine cT.mono ?_
      rintro en w2 ⟨rfl, g2, h2⟩
      go_wp2_with fail
      go_roundw
      case rel => exact ⟨k + 1, by omega, i64_eq (by have := HKA.out; omega), (HG.out.trans (Gs.of UR.out)).trans g2, h2⟩
      case measure => simp [intOf]; have := HKA.out; omega
    · obtain rfl : k = 3 := by omega
      have hSee : Calls Tryz.prog 196 #[.pointer (some ⟨b, 0, none⟩), .string kOpen] wr (BoU false wr) := by have h := sees_any b v i e kOpen wr HT.out ps hur; rw [HO.out] at h; exact h
      have HG := Lib.hid hg
      have HPS := Lib.hid ps
      have HR1 := Lib.hid r1
      have HR2 := Lib.hid r2
      have HUR := Lib.hid hur
      clear hg ps r1 r2 hur
      go_wp2_with fail
      refine hSee.mono ?_
      rintro en w1 ⟨rfl, u1⟩
      have hps1 := HPS.out.up u1
      have hTak : Calls Tryz.prog 135 #[.pointer (some ⟨b, 0, none⟩), .string kMu] w1 (TaP b v i e false w1) := by have h := takes_any b v i e kMu w1 HT.out hps1 (HUR.out.trans u1) hi; rw [HM.out] at h; exact h
      have c1b := (show Up wr w1 from u1).cell c1
      have U1 := Lib.hid u1
      clear u1 hps1 hSee
      go_wp2_with fail
      refine hTak.mono ?_
      rintro en w2 ⟨rfl, g2, h2⟩
      have c1c : w2.cell? ⟨w.heap.size, 0, none⟩ = some (.pointer (some ⟨b, 0, none⟩)) := g2.cell c1b (by unfold On; simp only; omega)
      have u02 : Up V0 w2 := g2.up (HUR.out.trans U1.out) (fun q hq => by rw [hq]; exact hbW)
      have cNm := named_L b v i e (nam lg l i) w2 (fun w' u => HT.out.long i w' (u02.trans u)) h2 hi
      have G2 := Lib.hid g2
      clear g2 h2 u02 hTak c1b c1
      go_wp2_with fail
      refine cNm.mono ?_
      rintro en w3 ⟨rfl, g3, h3⟩
      have hgA : Gs (On b) w w3 := ((((Gs.of UZ.out).trans HG.out).trans (Gs.of U1.out)).trans G2.out).trans g3
      have r2b : w3.heap[w.heap.size + 1]? = some (.cells #[.pointer none] 24 (0, 0)) := ((Gs.of U1.out : Gs (On b) wr w1).trans (G2.out.trans g3)).row HR2.out (by unfold On; omega)
      have c2 : w3.cell? ⟨w.heap.size + 1, 0, none⟩ = some (.pointer none) := cell_of_row w3 _ 0 _ _ _ r2b
      have f2 := frozen_of_row w3 (w.heap.size + 1) 0 _ _ r2b
      have hb3 := heap_lt r2b
      have HGA := Lib.hid hgA
      have H3 := Lib.hid h3
      have R2B := Lib.hid r2b
      clear hgA r2b g3 h3
      go_wp2_with fail
      obtain ⟨WF, hWF⟩ : ∃ WF, (w3.setCell ⟨w.heap.size + 1, 0, none⟩ (.pointer (some ⟨w3.heap.size, 0, none⟩))).alloc (.cells #[.int .i64 4, .int .i64 0, .string (nmS (nam lg l i) e), .string ⟨#[]⟩, .slice none 0 0] 66) = WF := ⟨_, rfl⟩
      obtain ⟨r0, gF, pF, nF⟩ := leaf_end 4 _ hb HGA.out H3.out R2B.out WF hWF
      rw [hWF]
      refine bodyPost_ret (v := .pointer (some ⟨w3.heap.size, 0, none⟩)) (by simp [results, Tryz.results163, go_sem, r0]) rfl ⟨_, rfl, gF, ?_⟩
      unfold nameR
      by_cases he : e = 0
      · subst he
        rw [if_pos rfl]
        cases ho : nam lg l i with
        | none => rw [ho] at pF; exact pF
        | some s => rw [ho] at pF nF; exact ⟨nF, pF, trivial⟩
      · rw [if_neg he]
        unfold nmI nmE at pF
        rw [if_neg he, if_neg he] at pF
        exact pF
set_option maxHeartbeats 12800000 in
set_option maxRecDepth 100000 in
theorem atom_plain {V0 : World} {l : List Tk} (b : Nat) (v : Value) (i : Nat) (k0 : Nat) (hk0 : k0 < 3) (w : World) (T : Toks nk lg V0 v l) (h : Psr w b v i 0) (hu : Up V0 w) (hbW : V0.heap.size ≤ b) (hP : Pl w) (hi : i ≤ 1000000) (hn : ∀ k, k < k0 → tkB l i 0 (plS k) = false) (hy : tkB l i 0 (plS k0) = true) :
    Calls Tryz.prog 163 #[.agg #[.pointer (some ⟨b, 0, none⟩)]] w (PaT (On b) b v (.inl (nd ((k0 + 1 : Nat) : Int) nob .nil, i + 1)) (fun _ _ => True) w) := by
  have HY := Lib.hid hy
  clear hy
  obtain ⟨tp, zp, hpl⟩ := hP
  have hb : b < w.heap.size := heap_lt h
  have hpw : 0 < w.heap.size := heap_lt hpl
  have H := Lib.hid h
  have HPL := Lib.hid hpl
  have HU := Lib.hid hu
  have HT := Lib.hid T
  have HN := Lib.hid hn
  have hpl2 : ((w.alloc (.cells #[.pointer (some ⟨b, 0, none⟩)] 70)).alloc (.cells #[.pointer none] 24)).heap[0]? = some (.cells plV tp zp) := (((Up.refl w).alloc _).alloc _).row hpl
  clear h hpl hu T hn
  go_enter Tryz.func163, Tryz.ntmps163
  go_wp2_with (refine wpList_load_row rfl 182 (.global 0) rfl 0 rfl tp plV zp _ hpl2 Tryz.underlying182 rfl (by kernel_rfl) ?_)
  generalize hA : plV = AR
  have HAR := Lib.hid hA
  obtain ⟨W0, hW0⟩ : ∃ W0, (w.alloc (.cells #[.pointer (some ⟨b, 0, none⟩)] 70)).alloc (.cells #[.pointer none] 24) = W0 := ⟨_, rfl⟩
  have z0 : W0.heap.size = w.heap.size + 2 := by rw [← hW0]; simp
  have b1 : W0.heap[w.heap.size]? = some (.cells #[.pointer (some ⟨b, 0, none⟩)] 70 (0, 0)) := by rw [← hW0]; exact old_row _ (heap_alloc_new w _)
  have b2 : W0.heap[w.heap.size + 1]? = some (.cells #[.pointer none] 24 (0, 0)) := by rw [← hW0]; exact new_at _ _ (by simp)
  have u0 : Up w W0 := by rw [← hW0]; exact ((Up.refl w).alloc _).alloc _
  have B1 := Lib.hid b1
  have B2 := Lib.hid b2
  have UZ := Lib.hid u0
  rw [hW0]
  clear hA hpl2 hW0 b1 b2 u0
  go_loopw [6] (fun x wr => ∃ k : Nat, k ≤ k0 ∧ x = .int .i64 (k : Int) ∧ Gs (On b) W0 wr ∧ Psr wr b v i 0) (fun x _ => 4 - (intOf x).toNat)
  case atStart => exact ⟨0, Nat.zero_le _, rfl, Gs.refl _ _, H.out.up UZ.out⟩
  case round =>
    obtain ⟨k, hk, rfl, hg, ps⟩ := hrel
    have hgs := hg.size
    have hur : Up V0 wr := hg.up (HU.out.trans UZ.out) (fun q hq => by rw [hq]; exact hbW)
    have r1 : wr.heap[w.heap.size]? = some (.cells #[.pointer (some ⟨b, 0, none⟩)] 70 (0, 0)) := hg.row B1.out (by unfold On; omega)
    have r2 : wr.heap[w.heap.size + 1]? = some (.cells #[.pointer none] 24 (0, 0)) := hg.row B2.out (by unfold On; omega)
    have c1 : wr.cell? ⟨w.heap.size, 0, none⟩ = some (.pointer (some ⟨b, 0, none⟩)) := cell_of_row wr w.heap.size 0 _ _ _ r1
    have hbw : w.heap.size < wr.heap.size := by omega
    by_cases hlt : k < k0
    · have hix : ∀ W, (Instr.index 182 (.agg AR) (.int .i64 (k : Int))).run Tryz.prog W = .ok (.agg #[.string (plS k), .int .i64 ((k + 1 : Nat) : Int)]) W := fun W => by rw [← HAR.out]; exact pl_idx k (by omega) W
      have hw : IntKind.i64.wrap ((k : Int) + 1) = ((k + 1 : Nat) : Int) := by rw [IntKind.wrap_i64]; omega
      have hkz : (k : Int) < 3 := by omega
      obtain ⟨X, hX⟩ : ∃ X, plS k = X := ⟨_, rfl⟩
      obtain ⟨ka, hka⟩ : ∃ ka, ((k + 1 : Nat) : Int) = ka := ⟨_, rfl⟩
      rw [hX, hka] at hix
      have HX := Lib.hid hX
      have HKA := Lib.hid hka
      rw [hka] at hw
      obtain ⟨Wr, hWr⟩ : ∃ Wr, wr.alloc (.cells #[.string X, .int .i64 ka] 181) = Wr := ⟨_, rfl⟩
      have ur : Up wr Wr := by rw [← hWr]; exact (Up.refl wr).alloc _
      have cT : Calls Tryz.prog 135 #[.pointer (some ⟨b, 0, none⟩), .string X] Wr (TaP b v i 0 (tkB l i 0 X) Wr) := takes_any b v i 0 X Wr HT.out (ps.up ur) (hur.trans ur) hi
      rw [← hX] at cT
      rw [HN.out k (by omega), hX] at cT
      have HG := Lib.hid hg
      have WRD := Lib.hid hWr
      have UR := Lib.hid ur
      clear hX hka hWr ur hg ps hur r1 r2
      go_wp2_with fail
      rw [WRD.out]
      refine cT.mono ?_
      rintro en w2 ⟨rfl, g2, h2⟩
      go_wp2_with fail
      go_roundw
      case rel => exact ⟨k + 1, by omega, i64_eq (by have := HKA.out; omega), (HG.out.trans (Gs.of UR.out)).trans g2, h2⟩
      case measure => simp [intOf]; have := HKA.out; omega
    · obtain rfl : k = k0 := by omega
      have hix : ∀ W, (Instr.index 182 (.agg AR) (.int .i64 (k : Int))).run Tryz.prog W = .ok (.agg #[.string (plS k), .int .i64 ((k + 1 : Nat) : Int)]) W := fun W => by rw [← HAR.out]; exact pl_idx k (by omega) W
      have hw : IntKind.i64.wrap ((k : Int) + 1) = ((k + 1 : Nat) : Int) := by rw [IntKind.wrap_i64]; omega
      have hkz : (k : Int) < 3 := by omega
      obtain ⟨X, hX⟩ : ∃ X, plS k = X := ⟨_, rfl⟩
      obtain ⟨ka, hka⟩ : ∃ ka, ((k + 1 : Nat) : Int) = ka := ⟨_, rfl⟩
      rw [hX, hka] at hix
      have HX := Lib.hid hX
      have HKA := Lib.hid hka
      rw [hka] at hw
      obtain ⟨Wr, hWr⟩ : ∃ Wr, wr.alloc (.cells #[.string X, .int .i64 ka] 181) = Wr := ⟨_, rfl⟩
      have ur : Up wr Wr := by rw [← hWr]; exact (Up.refl wr).alloc _
      have cT : Calls Tryz.prog 135 #[.pointer (some ⟨b, 0, none⟩), .string X] Wr (TaP b v i 0 (tkB l i 0 X) Wr) := takes_any b v i 0 X Wr HT.out (ps.up ur) (hur.trans ur) hi
      rw [← hX] at cT
      rw [HY.out, hX] at cT
      have HG := Lib.hid hg
      have HR2 := Lib.hid r2
      have WRD := Lib.hid hWr
      have UR := Lib.hid ur
      clear hX hka hWr ur hg ps hur r1 r2
      go_wp2_with fail
      rw [WRD.out]
      refine cT.mono ?_
      rintro en w2 ⟨rfl, g2, h2⟩
      have hz := g2.size
      have hWz : Wr.heap.size = wr.heap.size + 1 := by rw [← WRD.out]; simp
      have hx2 : w2.heap[wr.heap.size]? = some (.cells #[.string X, .int .i64 ka] 181 (0, 0)) := g2.row (by rw [← WRD.out]; exact heap_alloc_new wr _) (by unfold On; omega)
      have ck : w2.cell? ⟨wr.heap.size, 1, none⟩ = some (.int .i64 ka) := cell_of_row w2 _ 1 _ _ _ hx2
      have r2b : w2.heap[w.heap.size + 1]? = some (.cells #[.pointer none] 24 (0, 0)) := g2.row (UR.out.row HR2.out) (by unfold On; omega)
      have c2 : w2.cell? ⟨w.heap.size + 1, 0, none⟩ = some (.pointer none) := cell_of_row w2 _ 0 _ _ _ r2b
      have f2 := frozen_of_row w2 (w.heap.size + 1) 0 _ _ r2b
      have hb3 := heap_lt r2b
      have hgA : Gs (On b) w w2 := (((Gs.of UZ.out).trans HG.out).trans (Gs.of UR.out)).trans g2
      have HGA := Lib.hid hgA
      have H3 := Lib.hid h2
      have R2B := Lib.hid r2b
      clear hgA r2b g2 h2 hx2 c1
      go_wp2_with fail
      obtain ⟨WF, hWF⟩ : ∃ WF, (w2.setCell ⟨w.heap.size + 1, 0, none⟩ (.pointer (some ⟨w2.heap.size, 0, none⟩))).alloc (.cells #[.int .i64 ka, .int .i64 0, .string ⟨#[]⟩, .string ⟨#[]⟩, .slice none 0 0] 66) = WF := ⟨_, rfl⟩
      obtain ⟨r0, gF, pF, nF⟩ := leaf_end ka ⟨#[]⟩ hb HGA.out H3.out R2B.out WF hWF
      rw [hWF]
      refine bodyPost_ret (v := .pointer (some ⟨w2.heap.size, 0, none⟩)) (by simp [results, Tryz.results163, go_sem, r0]) rfl ⟨_, rfl, gF, ?_⟩
      rw [HKA.out]
      exact ⟨nF, pF, trivial⟩
end
end Go.Proofs.YthonaeigacfmbaaGreatDoor
namespace Go.Proofs.YthonaeigacfmbaaGreatDoor

section
variable {nk lg : ByteArray → Bool}
def plainW (w : List UInt8) : Bool := w.all fun c => decide (c ≠ 42) && decide (c ≠ 67) && decide (c ≠ 65)
end
end Go.Proofs.YthonaeigacfmbaaGreatDoor
namespace Go.Proofs.YthonaeigacfmbaaGreatDoor
open Go.RowKit

def byt (l : List UInt8) : ByteArray := ⟨l.toArray⟩
def rcl (r : Rw) : List Value := [.int .i64 r.cat, .int .i64 r.kind, .string (byt r.nm), .string (byt r.mr), .int .i64 r.fr, .int .i64 r.to, .string (byt r.ks)]
def RWC : List Value := RWS.flatMap rcl
def Tbl (w : World) (g : Nat) : Prop := w.heap[g]? = some (.cells RWC.toArray 188 (0, 0))
def runL (P : Program) : List Oper → Act → World → Option (Act × World)
  | [], a, w => some (a, w)
  | o :: rest, a, w => match o.guard with
    | none => match (execOp a.eval o).run P w with
      | .ok (.value v) w' => runL P rest (a.put o.dst v) w'
      | _ => none
    | some _ => none
theorem wpList_run {P : Program} {ops : Array Oper} {Q : Exit → Act → World → Prop} : ∀ (l : List Oper) (a : Act) (w : World) (a' : Act) (w' : World), runL P l a w = some (a', w') → Q .normal a' w' → wpList P ops Q l a w
  | [], a, w, a', w', h, hq => by
    simp only [runL, Option.some.injEq, Prod.mk.injEq] at h
    obtain ⟨rfl, rfl⟩ := h
    exact hq
  | o :: rest, a, w, a', w', h, hq => by
    unfold runL at h
    split at h
    · rename_i hg
      split at h
      · rename_i v w2 hr
        refine wpList_plain hg fun K hK => ?_
        unfold Oper.wp
        rw [hr]
        exact hK _ _ (wpList_run rest _ _ a' w' h hq)
      · cases h
    · cases h
theorem wp_region_run {P : Program} {id : Nat} {ops : Array Oper} {Q : Exit → Act → World → Prop} {a a' : Act} {w w' : World} (h : runL P ops.toList a w = some (a', w')) (hq : Q .normal a' w') : (Code.region id ops false).wp P Q a w :=
  wp_region_list (wpList_run _ _ _ _ _ h hq)
def runC (P : Program) : Code → Act → World → Option (Act × World)
  | .seq (.region _ ops false) c, a, w => (runL P ops.toList a w).bind fun p => runC P c p.1 p.2
  | .ret, a, w => some (a, w)
  | _, _, _ => none
theorem wp_runC' {P : Program} {Q : Exit → Act → World → Prop} : ∀ (c : Code) (a : Act) (w : World) (a' : Act) (w' : World), runC P c a w = some (a', w') → Q .ret a' w' → c.wp P Q a w := by
  intro c
  induction c with
  | seq x y _ ih =>
    intro a w a' w' h hq
    cases x with
    | region id ops b =>
      cases b with
      | false =>
        simp only [runC] at h
        obtain ⟨⟨a1, w1⟩, h1, h2⟩ := Option.bind_eq_some_iff.1 h
        refine wp_seq_k fun K hK => ?_
        exact wp_region_run h1 (hK _ _ (ih _ _ _ _ h2 hq))
      | true => simp [runC] at h
    | _ => simp [runC] at h
  | ret =>
    intro a w a' w' h hq
    simp only [runC, Option.some.injEq, Prod.mk.injEq] at h
    obtain ⟨rfl, rfl⟩ := h
    exact wp_ret hq
  | _ => intro a w a' w' h; simp [runC] at h
theorem wp_runC {P : Program} {fn : Func} {R : Ending → World → Prop} {c : Code} {a : Act} {w w1 : World} {v : Value} (h : (runC P c a w).map (fun p => (p.1.defers, (results fn p.1.tmps).run P p.2, p.2)) = some ([], .ok v w1, w1)) (hR : R (.returned v) w1) : c.wp P (bodyPost P fn R) a w := by
  obtain ⟨⟨a', w'⟩, h1, h2⟩ := Option.map_eq_some_iff.1 h
  simp only [Prod.mk.injEq] at h2
  obtain ⟨h3, h4, rfl⟩ := h2
  exact wp_runC' c a w a' w' h1 ⟨h3, v, h4, hR⟩
set_option maxHeartbeats 6400000 in
set_option maxRecDepth 100000 in
theorem rows_any (w : World) : Calls Tryz.prog 178 #[] w fun e w' => ∃ g, e = .returned (.slice (some ⟨g, 0, none⟩) 47 47) ∧ w.heap.size ≤ g ∧ Tbl w' g ∧ Below w.heap.size w w' := by
  go_enter Tryz.func178, Tryz.ntmps178
  refine wp_runC (v := .slice (some ⟨w.heap.size, 0, none⟩) 47 47) (w1 := w.alloc (.cells RWC.toArray 188)) (by kernel_rfl) ?_
  exact ⟨w.heap.size, rfl, Nat.le_refl _, heap_alloc_new w _, (Below.refl _ w).alloc (Nat.le_refl _) _⟩
end Go.Proofs.YthonaeigacfmbaaGreatDoor
namespace Go.Proofs.YthonaeigacfmbaaGreatDoor
open Go.RowKit

theorem u8_eq {c d : UInt8} (h : c = d) : ((c.toNat : Int) == (d.toNat : Int)) = true := by subst h; simp
theorem u8_ne {c d : UInt8} (h : c ≠ d) : ((c.toNat : Int) == (d.toNat : Int)) = false := by
  rw [beq_eq_false_iff_ne]
  intro e
  exact h (UInt8.toNat_inj.1 (by omega))
def SGN : List UInt8 := [116, 101, 109, 115, 112, 100]
theorem cat_at {c : UInt8} {i : Nat} (h : ∀ j, j < i → SGN[j]? ≠ some c) (hi : SGN[i]? = some c) : catOf c = (i : Int) + 1 := by
  have hl : i < 6 := (List.getElem?_eq_some_iff.1 hi).1
  have hc : c = 116 ∨ c = 101 ∨ c = 109 ∨ c = 115 ∨ c = 112 ∨ c = 100 := by
    have := List.mem_of_getElem? hi
    simpa [SGN] using this
  match i, hl with
  | 0, _ => injection hi with hi; subst hi; rfl
  | 1, _ => injection hi with hi; subst hi; rfl
  | 2, _ => injection hi with hi; subst hi; rfl
  | 3, _ => injection hi with hi; subst hi; rfl
  | 4, _ => injection hi with hi; subst hi; rfl
  | 5, _ => injection hi with hi; subst hi; rfl
theorem cat_none {c : UInt8} (h : ∀ j, j < 6 → SGN[j]? ≠ some c) : catOf c = 6 := by
  have g : ∀ j d, j < 6 → SGN[j]? = some d → c ≠ d := fun j d hj hd e => h j hj (by rw [hd, e])
  unfold catOf
  rw [if_neg (g 0 116 (by omega) rfl), if_neg (g 1 101 (by omega) rfl), if_neg (g 2 109 (by omega) rfl), if_neg (g 3 115 (by omega) rfl), if_neg (g 4 112 (by omega) rfl)]
theorem i64_ret {a b : Int} {w w' : World} (h : a = b) (hw : w = w') : Ending.returned (.int .i64 b) = .returned (.int .i64 a) ∧ w = w' := ⟨by rw [h], hw⟩
set_option maxHeartbeats 6400000 in
set_option maxRecDepth 100000 in
theorem cat_any (c : UInt8) (w : World) :
    Calls Tryz.prog 225 #[.int .u8 (c.toNat : Int)] w fun e w' => e = .returned (.int .i64 (catOf c)) ∧ w = w' := by
  go_enter Tryz.func225, Tryz.ntmps225
  go_wp2_with fail
  go_loopw [4] (fun i wr => ∃ I : Nat, i = .int .i64 I ∧ I ≤ 6 ∧ (∀ j, j < I → SGN[j]? ≠ some c) ∧ w = wr) (fun i _ => 6 - (intOf i).toNat)
  case atStart => exact ⟨0, rfl, by omega, fun j hj => absurd hj (Nat.not_lt_zero _), rfl⟩
  case round =>
    obtain ⟨I, rfl, hI, hn, rfl⟩ := hrel
    by_cases h6 : I = 6
    · subst h6
      have HE := Lib.hid (cat_none hn)
      clear hn
      go_wp2_with fail
      go_ret
      exact i64_ret HE.out rfl
    · obtain ⟨d, hd⟩ : ∃ d, SGN[I]? = some d := ⟨_, List.getElem?_eq_getElem (by show I < 6; omega)⟩
      have hlt : I < ({ data := #[116, 101, 109, 115, 112, 100] } : ByteArray).size := by show I < 6; omega
      have hval : ({ data := #[116, 101, 109, 115, 112, 100] } : ByteArray)[I]'hlt = d := (List.getElem?_eq_some_iff.1 hd).2
      have hu : I = 0 ∨ I = 1 ∨ I = 2 ∨ I = 3 ∨ I = 4 ∨ I = 5 := by omega
      by_cases hcd : d = c
      · subst hcd
        have HE := Lib.hid (cat_at hn hd)
        have hne : (((({ data := #[116, 101, 109, 115, 112, 100] } : ByteArray)[I]'hlt).toNat : Int) == (d.toNat : Int)) = true := u8_eq hval
        clear hn hd hval
        rcases hu with rfl | rfl | rfl | rfl | rfl | rfl
        all_goals
          go_wp2_with fail
          go_ret
          exact i64_ret HE.out rfl
      · have hs : ∀ j, j < I + 1 → SGN[j]? ≠ some c := fun j hj => by
          by_cases h : j = I
          · subst h; rw [hd]; exact fun e => hcd (by injection e)
          · exact hn j (by omega)
        have HS := Lib.hid hs
        have hne : (((({ data := #[116, 101, 109, 115, 112, 100] } : ByteArray)[I]'hlt).toNat : Int) == (c.toNat : Int)) = false := u8_ne (fun e => hcd (hval.symm.trans e))
        clear hn hd hs hcd hval
        rcases hu with rfl | rfl | rfl | rfl | rfl | rfl
        all_goals
          go_wp2_with fail
          go_roundw
          case rel => exact ⟨_, by go_num, by omega, HS.out, trivial⟩
          case measure => simp [intOf]
end Go.Proofs.YthonaeigacfmbaaGreatDoor
namespace Go.Proofs.YthonaeigacfmbaaGreatDoor
open Go.RowKit

theorem emp_eq (s : ByteArray) : (s.toList.isEmpty) = isEmp s := by
  unfold isEmp
  rw [Lib.toList_data, Lib.size_eq]
  cases s.data.toList <;> rfl
set_option maxHeartbeats 3200000 in
set_option maxRecDepth 100000 in
theorem word_any (s : ByteArray) (l : List UInt8) (hl : l = [] ∨ l = [110] ∨ l = [108]) (w : World) (hs : s.size ≤ 1000000000) :
    Calls Tryz.prog 179 #[.string s, .string (byt l)] w fun e w' => e = .returned (.bool (wordR B.nck B.long s l)) ∧ Below w.heap.size w w' := by
  have c1 := fun W => B.refCk s W hs
  have c2 := fun W => B.refLong s W hs
  rcases hl with rfl | rfl | rfl
  · have he := emp_eq s
    have HW : Hid (wordR B.nck B.long s [] = isEmp s) := Lib.hid rfl
    rw [HW.out]
    have f1 : ((byt []).toList == [110]) = false := by rw [Lib.toList_data]; rfl
    have f2 : ((byt []).toList == [108]) = false := by rw [Lib.toList_data]; rfl
    clear c1 c2
    go_enter Tryz.func179, Tryz.ntmps179
    go_wp2_with fail
    go_ret
    exact ⟨rfl, Below.refl _ _⟩
  · have HW : Hid (wordR B.nck B.long s [110] = B.nck s) := Lib.hid rfl
    rw [HW.out]
    have f1 : ((byt [110]).toList == [110]) = true := by rw [Lib.toList_data]; rfl
    go_enter Tryz.func179, Tryz.ntmps179
    go_wp2_with fail
    refine (c1 _).mono ?_
    rintro e w1 ⟨rfl, hb1⟩
    go_wp2_with fail
    go_ret
    exact ⟨rfl, hb1⟩
  · have HW : Hid (wordR B.nck B.long s [108] = B.long s) := Lib.hid rfl
    rw [HW.out]
    have f1 : ((byt [108]).toList == [110]) = false := by rw [Lib.toList_data]; rfl
    have f2 : ((byt [108]).toList == [108]) = true := by rw [Lib.toList_data]; rfl
    go_enter Tryz.func179, Tryz.ntmps179
    go_wp2_with fail
    refine (c2 _).mono ?_
    rintro e w1 ⟨rfl, hb1⟩
    go_wp2_with fail
    go_ret
    exact ⟨rfl, hb1⟩
end Go.Proofs.YthonaeigacfmbaaGreatDoor
namespace Go.Proofs.YthonaeigacfmbaaGreatDoor

theorem apart_iff : ∀ {l : List Inf}, apartA l = true ↔ ∀ (k i : Nat) (a b : Inf), k < i → l[k]? = some a → l[i]? = some b → a.a ≠ b.a
  | [] => ⟨fun _ k i a b _ h => by simp at h, fun _ => rfl⟩
  | x :: l => by
    unfold apartA
    rw [Bool.and_eq_true, List.all_eq_true, apart_iff (l := l)]
    refine ⟨fun ⟨h1, h2⟩ k i a b hk ha hb => ?_, fun h => ⟨fun j hj => ?_, fun k i a b hk ha hb => h (k + 1) (i + 1) a b (by omega) (by simpa using ha) (by simpa using hb)⟩⟩
    · cases i with
      | zero => omega
      | succ i =>
        have hb : l[i]? = some b := by simpa using hb
        cases k with
        | zero =>
          have : x = a := by simpa using ha
          subst this
          exact of_decide_eq_true (h1 b (List.mem_of_getElem? hb))
        | succ k => exact h2 k i a b (by omega) (by simpa using ha) hb
    · obtain ⟨i, hi⟩ := List.getElem?_of_mem hj
      exact decide_eq_true (h 0 (i + 1) x j (by omega) rfl (by simpa using hi))
def goodW : List UInt8 → Bool
  | [] => true
  | c :: r => if c = 42 then !r.isEmpty else if c = 67 then true else if c = 65 then true else goodW r
theorem rows_good : ∀ r ∈ RWS, goodW r.ks = true ∧ r.ks.length ≤ 3 ∧ (r.nm = [] ∨ r.nm = [110] ∨ r.nm = [108]) ∧ (r.mr = [] ∨ r.mr = [110] ∨ r.mr = [108]) := by decide
theorem rows_num : RWS.length = 47 := by decide
def starOk (d : UInt8) (i : Inf) : Bool := i.is (catOf d) && !(decide (d = 105) && (decide (i.k = 74) || decide (i.k = 75)))
theorem seq_star (l : List Inf) (d : UInt8) (r : List UInt8) : seqOk l (42 :: d :: r) = l.all (starOk d) := by
  unfold seqOk
  rw [if_pos rfl]
  rfl
theorem all_no {l : List Inf} {P : Inf → Bool} {i : Nat} {j : Inf} (hi : l[i]? = some j) (h : P j = false) : l.all P = false := by
  rw [List.all_eq_false]
  exact ⟨j, List.mem_of_getElem? hi, by rw [h]; decide⟩
theorem all_yes {l : List Inf} {P : Inf → Bool} (h : ∀ (i : Nat) (j : Inf), l[i]? = some j → P j = true) : l.all P = true := by
  rw [List.all_eq_true]
  intro j hj
  obtain ⟨i, hi⟩ := List.getElem?_of_mem hj
  exact h i j hi
theorem seq_A (l : List Inf) (r : List UInt8) : seqOk l (65 :: r) = (decide (0 < l.length) && l.all fun i => i.is 9) := by
  cases l <;> rfl
theorem seq_C (l : List Inf) (r : List UInt8) : seqOk l (67 :: r) = (decide (0 < l.length) && (l.all fun i => i.is 8) && apartA l) := by
  cases l <;> rfl
theorem seq_C_no1 {l : List Inf} {r : List UInt8} {i : Nat} {j : Inf} (hi : l[i]? = some j) (h : j.is 8 = false) : seqOk l (67 :: r) = false := by
  rw [seq_C, all_no hi h, Bool.and_false, Bool.false_and]
theorem seq_C_no2 {l : List Inf} {r : List UInt8} {i k : Nat} {a b : Inf} (hk : k < i) (ha : l[k]? = some a) (hb : l[i]? = some b) (h : a.a = b.a) : seqOk l (67 :: r) = false := by
  rw [seq_C]
  have : apartA l = false := by
    cases hp : apartA l with
    | false => rfl
    | true => exact absurd h (apart_iff.1 hp k i a b hk ha hb)
  rw [this, Bool.and_false]
theorem seq_C_yes {l : List Inf} {r : List UInt8} (h : ∀ (i : Nat) (j : Inf), l[i]? = some j → j.is 8 = true ∧ ∀ (k : Nat) (a : Inf), k < i → l[k]? = some a → a.a ≠ j.a) : seqOk l (67 :: r) = decide (0 < l.length) := by
  rw [seq_C, all_yes fun i j hi => (h i j hi).1, apart_iff.2 fun k i a b hk ha hb => (h i b hb).2 k a hk ha, Bool.and_true, Bool.and_true]
theorem seq_A_no {l : List Inf} {r : List UInt8} {i : Nat} {j : Inf} (hi : l[i]? = some j) (h : j.is 9 = false) : seqOk l (65 :: r) = false := by
  rw [seq_A, all_no hi h, Bool.and_false]
theorem seq_A_yes {l : List Inf} {r : List UInt8} (h : ∀ (i : Nat) (j : Inf), l[i]? = some j → j.is 9 = true) : seqOk l (65 :: r) = decide (0 < l.length) := by
  rw [seq_A, all_yes fun i j hi => h i j hi, Bool.and_true]
theorem seq_sign {l : List Inf} {c : UInt8} {r : List UInt8} (h1 : c ≠ 42) (h2 : c ≠ 67) (h3 : c ≠ 65) : seqOk l (c :: r) = (match l with | [] => false | i :: t => i.is (catOf c) && seqOk t r) := by
  conv => lhs; unfold seqOk
  rw [if_neg h1, if_neg h2, if_neg h3]
  all_goals (cases l <;> rfl)
def okS : Fr → Prop
  | .nil => True
  | .cons x k r => x.a.size ≤ 1000000000 ∧ x.m.size ≤ 1000000000 ∧ okS k ∧ okS r
def okST (t : Tr) : Prop := t.1.a.size ≤ 1000000000 ∧ t.1.m.size ≤ 1000000000 ∧ okS t.2
theorem okS_get : ∀ {f : Fr} {i : Nat} {t : Tr}, okS f → f.get i = some t → okST t
  | .nil, _, _, _, h => by cases h
  | .cons x k r, 0, t, h, hg => by injection hg with hg; subst hg; exact ⟨h.1, h.2.1, h.2.2.1⟩
  | .cons x k r, i + 1, t, h, hg => okS_get h.2.2.2 hg
end Go.Proofs.YthonaeigacfmbaaGreatDoor
