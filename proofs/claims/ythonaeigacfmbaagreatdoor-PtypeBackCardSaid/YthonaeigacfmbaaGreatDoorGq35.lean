/-
  Layer 6, the program's atom: mu.
-/
import Derived.Test.YthonaeigacfmbaaGreatDoorGq34
namespace Go.Proofs.YthonaeigacfmbaaGreatDoor
open Go.RowKit

def P2 (wb : World) (B2 Bm : Nat) (s : ByteArray) (RC : Rs Fr) (w : World) : Prop := Boxed w B2 24 (.pointer (some ⟨Bm, 0, none⟩)) ∧ ∀ f j, RC = .inl (f, j) → InT w (fun q => NewS wb w q ∧ q ≠ B2) (.pointer (some ⟨Bm, 0, none⟩)) (nd 7 s f)
set_option maxHeartbeats 6400000 in
set_option maxRecDepth 100000 in
theorem lit2_any (wb : World) (b : Nat) (v : Value) (B1 B2 Bm : Nat) (s : ByteArray) (RC : Rs Fr) (w : World) (h1 : b ≠ B2) (h2 : b ≠ Bm) (h3 : B2 ≠ Bm) (h4 : B1 ≠ b) (h5 : wb.heap.size ≤ Bm) (h6 : B1 ≠ Bm)
    (c1 : w.cell? ⟨B1, 0, none⟩ = some (.pointer (some ⟨b, 0, none⟩))) (b2 : Boxed w B2 24 (.pointer (some ⟨Bm, 0, none⟩))) (nb : Nb w Bm ⟨7, 0, s, nob⟩ (.slice none 0 0))
    (cC : ∀ w', Up w w' → Calls Tryz.prog 52 #[.agg #[.pointer (some ⟨b, 0, none⟩)]] w' (RowP (On b) b v RC (fun _ _ => True) w')) :
    Calls Tryz.prog 216 #[.pointer (some ⟨B1, 0, none⟩), .pointer (some ⟨B2, 0, none⟩)] w (InL (Two b Bm) b v (rI RC) (rE RC) (P2 wb B2 Bm s RC) w) := by
  have HB := Lib.hid b2
  have HNB := Lib.hid nb
  have HC := Lib.hid cC
  have c2 := b2.cell
  have hb2 := b2.lt
  have hb1 := cell_lt c1
  have hbm := heap_lt nb
  clear b2 nb cC
  go_enter Tryz.func216, Tryz.ntmps216
  go_wp2_with fail
  go_region_held3 (fun w' => w'.cell? ⟨B2, 0, none⟩ = some (.pointer (some ⟨Bm, 0, none⟩)) ∧ w'.cell? ⟨B1, 0, none⟩ = some (.pointer (some ⟨b, 0, none⟩))) (first | go_keep | (refine ⟨?_, ?_⟩ <;> (rw [cell_setCell _ _ _ (by simp only; omega)]; assumption)))
    ((go_at_call 52; refine (HC.out _ (by first | exact Below.refl _ _ | exact below_drewN' (Below.refl _ _) 1)).mono ?_; rintro e w2 ⟨vo, ps, rfl, ⟨hoR, hpt⟩, hp0, hpl, g2, hR⟩; obtain ⟨g, cp, rfl, hbg, hltg⟩ := hoR.form hp0; have g2 : Gs (On b) w w2 := ⟨g2.os, g2.tape, g2.output, g2.size, g2.block⟩; have nb2 : Nb w2 Bm ⟨7, 0, s, nob⟩ (.slice none 0 0) := g2.row HNB.out (fun e => h2 e.symm); have c4 := nb2.cell.1; have f4 := nb2.cell.2; have b22 : Boxed w2 B2 24 (.pointer (some ⟨Bm, 0, none⟩)) := g2.row HB.out (fun e => h1 e.symm); have k2 := b22.cell; have k1 := g2.cell c1 (fun e => h4 e); have HOW := Lib.hid hoR; have HR := Lib.hid hR; have G2 := Lib.hid g2; have N2 := Lib.hid nb2; have B22 := Lib.hid b22; clear hoR hpt hR g2 nb2 b22))
  go_wp2_with fail
  go_end0
  obtain ⟨WF, hWF⟩ : ∃ WF, w2.setCell ⟨Bm, 4, none⟩ (.slice (some ⟨g, 0, none⟩) ps.length cp) = WF := ⟨_, rfl⟩
  have nF : Nb WF Bm ⟨7, 0, s, nob⟩ (.slice (some ⟨g, 0, none⟩) ps.length cp) := by rw [← hWF]; exact N2.out.store _
  have hne : ∀ q, q ≠ Bm → WF.heap[q]? = w2.heap[q]? := fun q hq => by rw [← hWF]; exact Below.heap_setCell _ _ _ _ hq
  have hs : WF.heap.size = w2.heap.size := by rw [← hWF]; simp [World.setCell]
  have hbg : w.heap.size ≤ g := hbg
  have oF : WF.ownsRow w.drew.heap.size 24 1 (.slice (some ⟨g, 0, none⟩) ps.length cp) ps.length ps := by rw [← hWF]; exact own_setCell HOW.out _ _ fun g' e => by injection e with e; subst e; simp only; omega
  have gF : Gs (Two b Bm) w WF := by rw [← hWF]; exact G2.out.two.set _ _ (.inl (.inr rfl))
  have hz2 := G2.out.size
  rw [hWF]
  refine ⟨⟨_, rfl⟩, gF, ?_, (hne _ h3).trans B22.out, fun f j hf => ?_⟩
  · have h := HR.out
    cases RC with
    | inl e => exact (hne b h2).trans h.2.1
    | inr e => exact (hne b h2).trans h
  · have h := HR.out
    rw [hf] at h
    have hT : RwT w.drew w2 (.slice (some ⟨g, 0, none⟩) ps.length cp) ps f := h.1
    have hl := hT.len
    rw [hl] at oF
    have hd : w.drew.heap.size = w.heap.size := rfl
    refine OwnT.tree (x := ⟨7, 0, s, nob⟩) ⟨ps, oF, PtF.keep (fun q hq => ?_) (fun q hq => hne q ?_) hT⟩ (by rw [← hl]; exact nF) ⟨⟨h5, by omega⟩, fun e => h3 e.symm⟩ fun g' e => ?_
    · have h7 := hq.1.1
      have h8 := hq.1.2
      exact ⟨⟨by omega, by omega⟩, by omega⟩
    · have h7 := hq.1.1
      omega
    · injection e with e
      have e : g = g' := e
      subst e
      exact ⟨⟨by omega, by omega⟩, by omega⟩
section
variable {nk lg : ByteArray → Bool}
def muE (l : List Tk) (o : Option ByteArray) (i : Nat) : Nat × Int := (neI (nmI o i 0) (tkB l (nmI o i 0) (nmE o 0) kLeft), neE (nmE o 0) (tkB l (nmI o i 0) (nmE o 0) kLeft))
def muR (l : List Tk) (s : ByteArray) (RC : Rs Fr) : Rs Tr := match RC with
  | .inr e => .inr e
  | .inl (c, j) => if key l j kRight then .inl (nd 7 s c, j + 1) else .inr (j, 6)
theorem node_end {w w3 : World} {b : Nat} {v : Value} {i : Nat} {e : Int} (k : Int) (s : ByteArray) (hb : b < w.heap.size) (g : Gs (On b) w w3) (h : Psr w3 b v i e) (r1 : w3.heap[w.heap.size]? = some (.cells #[.pointer (some ⟨b, 0, none⟩)] 70 (0, 0))) (r : w3.heap[w.heap.size + 1]? = some (.cells #[.pointer none] 24 (0, 0)))
    (WF : World) (hWF : (w3.setCell ⟨w.heap.size + 1, 0, none⟩ (.pointer (some ⟨w3.heap.size, 0, none⟩))).alloc (.cells #[.int .i64 k, .int .i64 0, .string s, .string ⟨#[]⟩, .slice none 0 0] 66) = WF) :
    WF.heap[w.heap.size]? = some (.cells #[.pointer (some ⟨b, 0, none⟩)] 70 (0, 0)) ∧ Boxed WF (w.heap.size + 1) 24 (.pointer (some ⟨w3.heap.size, 0, none⟩)) ∧ Gs (On b) w WF ∧ Psr WF b v i e ∧ Nb WF w3.heap.size ⟨k, 0, s, nob⟩ (.slice none 0 0) ∧ Gs (Two b (w.heap.size + 1)) w3 WF := by
  obtain ⟨Ws, hWs⟩ : ∃ Ws, w3.setCell ⟨w.heap.size + 1, 0, none⟩ (.pointer (some ⟨w3.heap.size, 0, none⟩)) = Ws := ⟨_, rfl⟩
  have zs : Ws.heap.size = w3.heap.size := by rw [← hWs]; simp [World.setCell]
  have bs : Boxed Ws (w.heap.size + 1) 24 (.pointer (some ⟨w3.heap.size, 0, none⟩)) := by rw [← hWs]; exact Boxed.set _ r
  have gs : Gs (On b) w Ws := by rw [← hWs]; exact g.set _ _ (.inr (by simp))
  have g3 : Gs (Two b (w.heap.size + 1)) w3 Ws := by rw [← hWs]; exact (Gs.refl _ _).set _ _ (.inl (.inr rfl))
  have hs : Psr Ws b v i e := by rw [← hWs]; exact (Below.heap_setCell _ _ _ _ (by simp only; omega)).trans h
  have h1 : Ws.heap[w.heap.size]? = some (.cells #[.pointer (some ⟨b, 0, none⟩)] 70 (0, 0)) := by rw [← hWs]; exact (Below.heap_setCell _ _ _ _ (by simp only; omega)).trans r1
  rw [hWs] at hWF
  have uf : Up Ws WF := by rw [← hWF]; exact (Up.refl Ws).alloc _
  have nf : WF.heap[w3.heap.size]? = some (.cells #[.int .i64 k, .int .i64 0, .string s, .string ⟨#[]⟩, .slice none 0 0] 66 (0, 0)) := by rw [← hWF, ← zs]; exact heap_alloc_new Ws _
  exact ⟨uf.row h1, uf.row bs, gs.trans (Gs.of uf), hs.up uf, nf, g3.trans (Gs.of uf)⟩
set_option maxHeartbeats 12800000 in
set_option maxRecDepth 100000 in
theorem atom_mu {V0 : World} {l : List Tk} (b : Nat) (v : Value) (i : Nat) (RC : Rs Fr) (hR : LeOk l.length RC) (hl : l.length ≤ 100000) (w : World) (T : Toks nk lg V0 v l) (h : Psr w b v i 0) (hu : Up V0 w) (hbW : V0.heap.size ≤ b) (hP : Pl w) (hi : i ≤ l.length) (hn : ∀ k, k < 3 → tkB l i 0 (plS k) = false) (hy : tkB l i 0 kOpen = false) (hm : tkB l i 0 kMu = true)
    (cC : ∀ w', Gs (On b) w w' → Psr w' b v (muE l (nam nk l (i + 1)) (i + 1)).1 (muE l (nam nk l (i + 1)) (i + 1)).2 → Calls Tryz.prog 52 #[.agg #[.pointer (some ⟨b, 0, none⟩)]] w' (RowP (On b) b v RC (fun _ _ => True) w')) :
    Calls Tryz.prog 163 #[.agg #[.pointer (some ⟨b, 0, none⟩)]] w (PaT (On b) b v (muR l (nmS (nam nk l (i + 1)) 0) RC) (fun _ _ => True) w) := by
  have HY := Lib.hid hy
  have HM := Lib.hid hm
  have HCC := Lib.hid cC
  have HLE := Lib.hid hR
  have hi : i ≤ 100000 := by omega
  clear hy hm cC hR
  obtain ⟨tp, zp, hpl⟩ := hP
  have hb : b < w.heap.size := heap_lt h
  have hpw : 0 < w.heap.size := heap_lt hpl
  have H := Lib.hid h
  have HPL := Lib.hid hpl
  have HU := Lib.hid hu
  have HT := Lib.hid T
  have HN := Lib.hid hn
  have hpl2 : ((w.alloc (.cells #[.pointer (some ⟨b, 0, none⟩)] 70)).alloc (.cells #[.pointer none] 24)).heap[0]? = some (.cells plV tp zp) := (((Up.refl w).alloc _).alloc _).row hpl
  clear h hpl hu T hn
  go_enter Tryz.func163, Tryz.ntmps163
  go_wp2_with (refine wpList_load_row rfl 182 (.global 0) rfl 0 rfl tp plV zp _ hpl2 Tryz.underlying182 rfl (by kernel_rfl) ?_)
  generalize hA : plV = AR
  have HAR := Lib.hid hA
  obtain ⟨W0, hW0⟩ : ∃ W0, (w.alloc (.cells #[.pointer (some ⟨b, 0, none⟩)] 70)).alloc (.cells #[.pointer none] 24) = W0 := ⟨_, rfl⟩
  have z0 : W0.heap.size = w.heap.size + 2 := by rw [← hW0]; simp
  have b1 : W0.heap[w.heap.size]? = some (.cells #[.pointer (some ⟨b, 0, none⟩)] 70 (0, 0)) := by rw [← hW0]; exact old_row _ (heap_alloc_new w _)
  have b2 : W0.heap[w.heap.size + 1]? = some (.cells #[.pointer none] 24 (0, 0)) := by rw [← hW0]; exact new_at _ _ (by simp)
  have u0 : Up w W0 := by rw [← hW0]; exact ((Up.refl w).alloc _).alloc _
  have B1 := Lib.hid b1
  have B2 := Lib.hid b2
  have UZ := Lib.hid u0
  rw [hW0]
  clear hA hpl2 hW0 b1 b2 u0
  go_loopw [6] (fun x wr => ∃ k : Nat, k ≤ 3 ∧ x = .int .i64 (k : Int) ∧ Gs (On b) W0 wr ∧ Psr wr b v i 0) (fun x _ => 4 - (intOf x).toNat)
  case atStart => exact ⟨0, Nat.zero_le _, rfl, Gs.refl _ _, H.out.up UZ.out⟩
  case round =>
    obtain ⟨k, hk, rfl, hg, ps⟩ := hrel
    have hgs := hg.size
    have hur : Up V0 wr := hg.up (HU.out.trans UZ.out) (fun q hq => by rw [hq]; exact hbW)
    have r1 : wr.heap[w.heap.size]? = some (.cells #[.pointer (some ⟨b, 0, none⟩)] 70 (0, 0)) := hg.row B1.out (by unfold On; omega)
    have r2 : wr.heap[w.heap.size + 1]? = some (.cells #[.pointer none] 24 (0, 0)) := hg.row B2.out (by unfold On; omega)
    have c1 : wr.cell? ⟨w.heap.size, 0, none⟩ = some (.pointer (some ⟨b, 0, none⟩)) := cell_of_row wr w.heap.size 0 _ _ _ r1
    have hbw : w.heap.size < wr.heap.size := by omega
    by_cases hlt : k < 3
    · have hix : ∀ W, (Instr.index 182 (.agg AR) (.int .i64 (k : Int))).run Tryz.prog W = .ok (.agg #[.string (plS k), .int .i64 ((k + 1 : Nat) : Int)]) W := fun W => by rw [← HAR.out]; exact pl_idx k (by omega) W
      have hw : IntKind.i64.wrap ((k : Int) + 1) = ((k + 1 : Nat) : Int) := by rw [IntKind.wrap_i64]; omega
      have hkz : (k : Int) < 3 := by omega
      obtain ⟨X, hX⟩ : ∃ X, plS k = X := ⟨_, rfl⟩
      obtain ⟨ka, hka⟩ : ∃ ka, ((k + 1 : Nat) : Int) = ka := ⟨_, rfl⟩
      rw [hX, hka] at hix
      have HX := Lib.hid hX
      have HKA := Lib.hid hka
      rw [hka] at hw
      obtain ⟨Wr, hWr⟩ : ∃ Wr, wr.alloc (.cells #[.string X, .int .i64 ka] 181) = Wr := ⟨_, rfl⟩
      have ur : Up wr Wr := by rw [← hWr]; exact (Up.refl wr).alloc _
      have cT : Calls Tryz.prog 135 #[.pointer (some ⟨b, 0, none⟩), .string X] Wr (TaP b v i 0 (tkB l i 0 X) Wr) := takes_any b v i 0 X Wr HT.out (ps.up ur) (hur.trans ur) (by omega)
      rw [← hX] at cT
      rw [HN.out k (by omega), hX] at cT
      have HG := Lib.hid hg
      have WRD := Lib.hid hWr
      have UR := Lib.hid ur
      clear hX hka hWr ur hg ps hur r1 r2
      go_wp2_with fail
      rw [WRD.out]
      refine cT.mono ?_
      rintro en w2 ⟨rfl, g2, h2⟩
      go_wp2_with fail
      go_roundw
      case rel => exact ⟨k + 1, by omega, i64_eq (by have := HKA.out; omega), (HG.out.trans (Gs.of UR.out)).trans g2, h2⟩
      case measure => simp [intOf]; have := HKA.out; omega
    · obtain rfl : k = 3 := by omega
      have hSee : Calls Tryz.prog 196 #[.pointer (some ⟨b, 0, none⟩), .string kOpen] wr (BoU false wr) := by have h := sees_any b v i 0 kOpen wr HT.out ps hur; rw [HY.out] at h; exact h
      have HG := Lib.hid hg
      have HPS := Lib.hid ps
      have HR1 := Lib.hid r1
      have HR2 := Lib.hid r2
      have HUR := Lib.hid hur
      clear hg ps r1 r2 hur
      go_wp2_with fail
      refine hSee.mono ?_
      rintro en w1 ⟨rfl, u1⟩
      have hps1 := HPS.out.up u1
      have hTak : Calls Tryz.prog 135 #[.pointer (some ⟨b, 0, none⟩), .string kMu] w1 (TaP b v i 0 true w1) := by have h := takes_any b v i 0 kMu w1 HT.out hps1 (HUR.out.trans u1) (by omega); rw [HM.out] at h; exact h
      have c1b := (show Up wr w1 from u1).cell c1
      have U1 := Lib.hid u1
      clear u1 hps1 hSee
      go_wp2_with fail
      refine hTak.mono ?_
      rintro en w2 ⟨rfl, g2, h2⟩
      have c1c : w2.cell? ⟨w.heap.size, 0, none⟩ = some (.pointer (some ⟨b, 0, none⟩)) := g2.cell c1b (by unfold On; simp only; omega)
      have u02 : Up V0 w2 := g2.up (HUR.out.trans U1.out) (fun q hq => by rw [hq]; exact hbW)
      have cNm := named_N b v (i + 1) 0 (nam nk l (i + 1)) w2 (fun w' u => HT.out.name (i + 1) w' (u02.trans u)) h2 (by omega)
      obtain ⟨o, ho⟩ : ∃ o, nam nk l (i + 1) = o := ⟨_, rfl⟩
      have HO := Lib.hid ho
      rw [ho] at cNm
      have G2 := Lib.hid g2
      have U02 := Lib.hid u02
      clear g2 h2 u02 hTak c1b c1 ho
      go_wp2_with fail
      refine cNm.mono ?_
      rintro en w3 ⟨rfl, g3, h3⟩
      have hgA : Gs (On b) w w3 := ((((Gs.of UZ.out).trans HG.out).trans (Gs.of U1.out)).trans G2.out).trans g3
      have r1b : w3.heap[w.heap.size]? = some (.cells #[.pointer (some ⟨b, 0, none⟩)] 70 (0, 0)) := ((Gs.of U1.out : Gs (On b) wr w1).trans (G2.out.trans g3)).row HR1.out (by unfold On; omega)
      have r2b : w3.heap[w.heap.size + 1]? = some (.cells #[.pointer none] 24 (0, 0)) := ((Gs.of U1.out : Gs (On b) wr w1).trans (G2.out.trans g3)).row HR2.out (by unfold On; omega)
      have c2 : w3.cell? ⟨w.heap.size + 1, 0, none⟩ = some (.pointer none) := cell_of_row w3 _ 0 _ _ _ r2b
      have c1d : w3.cell? ⟨w.heap.size, 0, none⟩ = some (.pointer (some ⟨b, 0, none⟩)) := cell_of_row w3 _ 0 _ _ _ r1b
      have f2 := frozen_of_row w3 (w.heap.size + 1) 0 _ _ r2b
      have hb3 := heap_lt r2b
      have HGA := Lib.hid hgA
      have H3 := Lib.hid h3
      have R1B := Lib.hid r1b
      have R2B := Lib.hid r2b
      have U03 := Lib.hid (g3.up U02.out (fun q hq => by rw [hq]; exact hbW))
      clear hgA r1b r2b g3 h3 c1c
      obtain ⟨s, hs⟩ : ∃ s, nmS o 0 = s := ⟨_, rfl⟩
      have HS := Lib.hid hs
      rw [hs]
      clear hs
      obtain ⟨WF, hWF⟩ : ∃ WF, (w3.setCell ⟨w.heap.size + 1, 0, none⟩ (.pointer (some ⟨w3.heap.size, 0, none⟩))).alloc (.cells #[.int .i64 7, .int .i64 0, .string s, .string ⟨#[]⟩, .slice none 0 0] 66) = WF := ⟨_, rfl⟩
      obtain ⟨r1F, bF, gF, pF, nF, g3F⟩ := node_end 7 s hb HGA.out H3.out R1B.out R2B.out WF hWF
      have c1e : ((w3.setCell ⟨w.heap.size + 1, 0, none⟩ (.pointer (some ⟨w3.heap.size, 0, none⟩))).alloc (.cells #[.int .i64 7, .int .i64 0, .string s, .string ⟨#[]⟩, .slice none 0 0] 66)).cell? ⟨w.heap.size, 0, none⟩ = some (.pointer (some ⟨b, 0, none⟩)) := by rw [hWF]; exact cell_of_row WF _ 0 _ _ _ r1F
      have HRF := Lib.hid r1F
      have HBF := Lib.hid bF
      have HGF := Lib.hid gF
      have HNF := Lib.hid nF
      have hzF := gF.size
      have hzF3 := heap_lt nF
      have hEE : Hid (muE l (nam nk l (i + 1)) (i + 1) = (neI (nmI o (i + 1) 0) (tkB l (nmI o (i + 1) 0) (nmE o 0) kLeft), neE (nmE o 0) (tkB l (nmI o (i + 1) 0) (nmE o 0) kLeft))) := Lib.hid (by rw [HO.out]; rfl)
      have hio : nmI o (i + 1) 0 ≤ 1000000 := by cases o <;> (simp only [nmI, if_pos]; omega)
      have cB := between_any b v (nmI o (i + 1) 0) (nmE o 0) kLeft kRight 216 #[.pointer (some ⟨w.heap.size, 0, none⟩), .pointer (some ⟨w.heap.size + 1, 0, none⟩)] (fun _ _ => by kernel_rfl) (Two b w3.heap.size) (fun q hq => by have := HU.out.size; have := HGA.out.size; rcases hq with hq | hq <;> omega) hbW (rI RC) (rE RC) (P2 w (w.heap.size + 1) w3.heap.size s RC) WF
        HT.out pF (gF.up HU.out (fun q hq => by rw [hq]; exact hbW)) hio (by have h := HLE.out.1; cases RC <;> (simp only [rI]; simp only [pl] at h; omega)) (fun w5 g5 h5 => by
          have h5' := h5
          have hE := hEE.out
          refine lit2_any w b v w.heap.size (w.heap.size + 1) w3.heap.size s RC w5 (by omega) (by omega) (by omega) (by omega) (by omega) (by omega) (cell_of_row w5 _ 0 _ _ _ (g5.row HRF.out (by unfold On; omega))) (g5.row HBF.out (by unfold On; omega)) (g5.row HNF.out (by unfold On; omega)) fun w' u' => HCC.out w' ((HGF.out.trans g5).trans (Gs.of u')) ?_
          rw [hE]
          exact h5'.up u')
      have HWF := Lib.hid hWF
      clear r1F bF gF pF nF g3F c1d hWF
      go_wp2_with fail
      rw [HWF.out]
      refine cB.mono ?_
      rintro en w4 ⟨⟨u, rfl⟩, w5, w6, g5, g6, ⟨b6, hT⟩, g4, h4⟩
      have b4 : Boxed w4 (w.heap.size + 1) 24 (.pointer (some ⟨w3.heap.size, 0, none⟩)) := g4.row b6 (by unfold On; omega)
      have c4 := b4.cell
      have f4 := b4.frozen
      have hb4 := b4.lt
      have hgF : Gs (On b) w w4 := ((HGF.out.trans g5).out2 g6 (by omega)).trans g4
      have HGF4 := Lib.hid hgF
      have HTT : Hid (∀ f j, RC = .inl (f, j) → InT w4 (fun q => NewS w w4 q ∧ q ≠ w.heap.size + 1) (.pointer (some ⟨w3.heap.size, 0, none⟩)) (nd 7 s f)) := Lib.hid fun t j hR => InT.keep (hT t j hR) (fun q hq => ⟨⟨hq.1.1, Nat.lt_of_lt_of_le hq.1.2 g4.size⟩, hq.2⟩) fun q hq => g4.block q hq.1.2 (by have := hq.1.1; unfold On; omega)
      have H4 := Lib.hid h4
      have B4 := Lib.hid b4
      clear cB b4 hgF h4 g5 g6 g4 b6 hT
      go_wp2_with fail
      obtain ⟨WG, hWG⟩ : ∃ WG, w4.setCell ⟨w.heap.size + 1, 0, none⟩ (.pointer (some ⟨w3.heap.size, 0, none⟩)) = WG := ⟨_, rfl⟩
      have bG : Boxed WG (w.heap.size + 1) 24 (.pointer (some ⟨w3.heap.size, 0, none⟩)) := by rw [← hWG]; exact B4.out.set _
      have r0 := bG.cell
      have hsG : WG.heap.size = w4.heap.size := by rw [← hWG]; simp [World.setCell]
      have hne : ∀ q, q ≠ w.heap.size + 1 → WG.heap[q]? = w4.heap[q]? := fun q hq => by rw [← hWG]; exact Below.heap_setCell _ _ _ _ hq
      have gG : Gs (On b) w WG := by rw [← hWG]; exact HGF4.out.set _ _ (.inr (by simp))
      have pG : Psr WG b v (neI (rI RC) (tkB l (rI RC) (rE RC) kRight)) (neE (rE RC) (tkB l (rI RC) (rE RC) kRight)) := (hne b (by omega)).trans H4.out
      have hle := HLE.out
      rw [hWG]
      refine bodyPost_ret (v := .pointer (some ⟨w3.heap.size, 0, none⟩)) (by simp [results, Tryz.results163, go_sem, r0]) rfl ⟨_, rfl, gG, ?_⟩
      rw [HO.out, HS.out]
      cases RC with
      | inr e =>
        obtain ⟨p, r⟩ := e
        have hr : ¬ r = 0 := hle.2 p r rfl
        simp only [rI, rE] at pG
        rw [tk_err hr, ne_err hr] at pG
        exact pG
      | inl e =>
        obtain ⟨f, j⟩ := e
        simp only [rI, rE] at pG
        rw [tk_ok] at pG
        unfold muR
        simp only
        cases hk : key l j kRight with
        | false => rw [hk] at pG; exact pG
        | true =>
          rw [hk] at pG
          exact ⟨InT.keep (HTT.out f j rfl) (fun q hq => ⟨hq.1.1, by rw [hsG]; exact hq.1.2⟩) (fun q hq => hne q hq.2), pG, trivial⟩
end
end Go.Proofs.YthonaeigacfmbaaGreatDoor
