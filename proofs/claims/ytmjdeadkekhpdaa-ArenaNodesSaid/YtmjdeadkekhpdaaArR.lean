/-
  The program's Paths: what its closure tells of trees.
-/
import Derived.Test.YtmjdeadkekhpdaaArQ
import Derived.Test.YtmjdeadkekhpdaaRtJ
import Derived.Deep.DeepCutAuto
namespace Go.Proofs.Ytmjdeadkekhpdaa
open Go.RowKit

theorem own_cap {w : World} {base : Nat} {e : TypeId} {g n cap : Nat} {xs : List Value} (h : w.ownsRow base e 1 (.slice (some ⟨g, 0, none⟩) n cap) n xs) : n ≤ cap := by
  rcases h.2 with ⟨h1, _⟩ | ⟨g', cap', cur, h1, _, _, h2, _⟩
  · simp at h1
  · injection h1 with _ _ h1
    rw [h1]
    exact h2
theorem kept_none {w w' : World} {base s n : Nat} {e : TypeId} {v : Value} {xs : List Value} (h : w.ownsRow base e s v n xs) (hg : w.grownBy w' none) : w'.ownsRow base e s v n xs := h.kept hg (by
  cases v.ownBlock with
  | none => exact .inl rfl
  | some g => exact .inr (by simp))
theorem PaSt.drew {w : World} {kb lb pb wb B : Nat} {kind : Int} {vo vp : Value} {L : List (List Int)} {P : List Int} (h : PaSt w kb lb pb wb B kind vo L vp P) (n : Nat) : PaSt (w.drewN n) kb lb pb wb B kind vo L vp P := by
  obtain ⟨a, b, c, d, ⟨ps, e, f⟩, g, i⟩ := h
  exact ⟨a, b, c, d, ⟨ps, e, PpF.keepB (w := w) (w' := w.drewN n) (S := Sq2 B w vo vp) (S' := Sq2 B (w.drewN n) vo vp) (fun _ h => h) (fun _ _ => rfl) f⟩, g, i⟩
def WaPost (kb lb pb wb B0 B : Nat) (kind : Int) (L : List (List Int)) (P : List Int) (t : Tr) (w : World) (e : Ending) (w' : World) : Prop :=
  e = .returned (.tuple #[]) ∧ ∃ vo' vp', PaSt w' kb lb pb wb B kind vo' (L ++ (pathsT kind t).map fun p => P ++ p) vp' P ∧ Below B0 w w'
/-- The contract, for trees of up to so many nodes. -/
def WalkAt (n : Nat) : Prop := ∀ (t : Tr), szT t ≤ n → ∀ (w : World) (Sq : Nat → Prop) (v : Value) (kb lb pb wb B0 B : Nat) (kind : Int) (vo vp : Value) (L : List (List Int)) (P : List Int), Four kb lb pb wb B0 B → B ≤ w.heap.size → Bel Sq B0 → InT w Sq v t →
    PaSt w kb lb pb wb B kind vo L vp P → (P = [] → vp = .slice none 0 0) → L.length + szT t ≤ 1000000 → P.length + szT t ≤ 1000000 →
    Calls Try.prog 42 #[v, .pointer (some ⟨kb, 0, none⟩), .pointer (some ⟨lb, 0, none⟩), .pointer (some ⟨pb, 0, none⟩), .pointer (some ⟨wb, 0, none⟩)] w (WaPost kb lb pb wb B0 B kind L P t w)
set_option maxHeartbeats 12800000 in
set_option maxRecDepth 100000 in
theorem walk_all : ∀ n, n ≤ 1000000 → WalkAt n
  | 0, _ => fun t h => absurd h (by unfold szT; omega)
  | n + 1, hbig => by
    have ih := walk_all n (by omega)
    rintro ⟨x, ks⟩ hn w Sq v kb lb pb wb B0 B kind vo vp L P h4 hB hS hin hst hP0 hLn hPn
    obtain ⟨q, p, A, c, rfl, hq1, c0, c1, c2, c3, c4, hc, hkid⟩ := hin.open
    have hqB := hS q hq1
    have hnil := ptr_nil2 w ⟨q, p, none⟩
    have hsz : szT (x, ks) = 1 + ks.sz := rfl
    have hll := Fr.len_le ks
    obtain ⟨N, hN⟩ : ∃ N, ks.len = N := ⟨_, rfl⟩
    rw [hN] at c4 hll
    have hN1 : N ≤ 1000000 := by omega
    have hst' := hst
    obtain ⟨gk, gl, gp, gw, ⟨ps, hr, hf⟩, path, ap⟩ := hst'
    have ck : w.cell? ⟨kb, 0, none⟩ = some (.int .i64 kind) := cell_of_row w kb 0 _ _ _ gk
    have cl : w.cell? ⟨lb, 0, none⟩ = some vo := cell_of_row w lb 0 _ _ _ gl
    have fl := frozen_of_row w lb 0 _ _ gl
    have cl2 : ∀ n ob, ((w.drewN n).alloc ob).cell? ⟨lb, 0, none⟩ = some vo := fun n ob => (((Below.refl w.heap.size (w.drewN n)).alloc (Nat.le_refl _) ob).cell (p := ⟨lb, 0, none⟩) (heap_lt gl)).trans cl
    have cp : w.cell? ⟨pb, 0, none⟩ = some vp := cell_of_row w pb 0 _ _ _ gp
    have hkw := heap_lt gk
    have hlw := heap_lt gl
    have hpw := heap_lt gp
    have hqw : q < w.heap.size := by have := h4.1.1; omega
    have hcase : kind < 0 ∨ (¬ kind < 0 ∧ x.k = kind ∧ (x.k == kind) = true) ∨ (¬ kind < 0 ∧ x.k ≠ kind ∧ (x.k == kind) = false) := by
      by_cases h1 : kind < 0
      · exact .inl h1
      · by_cases h2 : x.k = kind
        · exact .inr (.inl ⟨h1, h2, by simpa using h2⟩)
        · exact .inr (.inr ⟨h1, h2, by simpa using h2⟩)
    have hvp : (vp = .slice none 0 0 ∧ P = []) ∨ ∃ g cap, vp = .slice (some ⟨g, 0, none⟩) P.length cap ∧ 0 < P.length := by
      rcases path.2 with ⟨h1, h2⟩ | ⟨g, cap, cur, h1, _⟩
      · exact .inl ⟨h1, List.length_eq_zero_iff.1 h2⟩
      · rcases Nat.eq_zero_or_pos P.length with h | h
        · have := hP0 (List.length_eq_zero_iff.1 h)
          rw [this] at h1
          cases h1
        · exact .inr ⟨g, cap, h1, h⟩
    obtain ⟨⟨B1x, B2x, B3x, B4x⟩, ⟨D1x, D2x, D3x, D4x⟩, -⟩ := id h4
    have hopt : (kind < 0 ∨ x.k = kind → optT kind x = [[]]) ∧ (¬ (kind < 0 ∨ x.k = kind) → optT kind x = []) := ⟨fun h => if_pos h, fun h => if_neg h⟩
    have HOPT := Lib.hid hopt
    have HPT := Lib.hid (show pathsT kind (x, ks) = optT kind x ++ pathsF kind ks 0 from rfl)
    have HST := Lib.hid hst
    have HIH := Lib.hid ih
    have HS := Lib.hid hS
    have HR := Lib.hid hr
    have HF := Lib.hid hf
    have HPA := Lib.hid path
    have HAP := Lib.hid ap
    have HKID := Lib.hid hkid
    have HNN := Lib.hid hN
    have HSZ := Lib.hid hsz
    have HN0 := Lib.hid hn
    have HP0 := Lib.hid hP0
    have H4 := Lib.hid h4
    have hLn2 : L.length + 1 ≤ 1000000 := by omega
    have hPn2 : P.length ≤ 1000000 := by omega
    have HLN := Lib.hid hLn
    have HPN := Lib.hid hPn
    have hor := hr.lt
    have HOR := Lib.hid hor
    obtain ⟨i0, hi, hz0, hz1, hz2⟩ := info_parts infoSl
    obtain ⟨j0, hj0', hy0, hy1, hy2⟩ := info_parts infoI
    clear hin hkid hst ih hS hr hf path ap hN hsz hn hP0 h4 hLn hPn gk gl gp gw hc hor hopt
    rcases hcase with hk0 | ⟨hk0, hk1, hk2⟩ | ⟨hk0, hk1, hk2⟩
    · have e1 : decide (kind < 0) = true := by simpa using hk0
      go_enter Try.func42, Try.ntmps42
      go_wp2_with fail
      go_quiet (fail)
      go_upto_if 19 with (fail)
      go_cut [] (fun wx => ∃ vo1, PaSt wx kb lb pb wb B kind vo1 (L ++ (optT kind x).map fun p => P ++ p) vp P ∧ Below B0 w wx)
      case first =>
        rcases hvp with ⟨hv, hPe⟩ | ⟨gp', cap', hv, hPp⟩
        · subst hv
          have HPE := Lib.hid hPe
          clear hPe
          go_wp2_with fail
          go_region_law (first
            | (refine step_copy_nil (by rfl) _ _ (by rfl) (by rfl) (by rfl) ?_)
            | (refine step_append_lies _ (by rfl) _ _ _ (by rfl) B 45 i0 _ 1 24 Try.underlying51 hi hz0 hz1 hz2 rfl (by omega) vo L.length ps (by rfl) (by exact World.ownsRow.alloc (by exact HR.out) _) ⟨w.heap.size, 0, none⟩ 1 1 [.slice none 0 0] (by rfl) (by rfl) (by exact cell_one_new _ _ _) (fun x hx => by simp at hx; subst hx; rfl) (by omega) (by unfold maxLen; omega) (by omega) (by simp; omega) (w.heap.size + 1) (by simp) ?_; intro g4 cap4 w4 hown4 hgrow4 hat4 hlt4; have hgrow4 : (w.alloc (.cells #[.slice none 0 0] 45)).grownBy w4 vo.ownBlock := ⟨hgrow4.os, hgrow4.tape, hgrow4.output, hgrow4.size, hgrow4.block⟩; have HOWN4 := Lib.hid hown4; have HG4 := Lib.hid hgrow4; have HAT4 := Lib.hid hat4; have kl4 := (hgrow4.cell_far ⟨lb, 0, none⟩ (by simp; omega) (fun e => by have := (HOR.out lb e.symm).1; omega)).trans ((((Below.refl w.heap.size w).alloc (Nat.le_refl _) _).cell (p := ⟨lb, 0, none⟩) hlw).trans cl); have fl4 := (hgrow4.frozen_far ⟨lb, 0, none⟩ (by simp; omega) (fun e => by have := (HOR.out lb e.symm).1; omega)).trans ((((Below.refl w.heap.size w).alloc (Nat.le_refl _) _).frozen (p := ⟨lb, 0, none⟩) hlw).trans fl); clear hown4 hgrow4 hat4))
          all_goals
            go_wp2_with fail
            go_meet
            have hput := PaSt.put (w1 := w) (u := .slice none 0 0) HST.out H4.out hB HR.out HF.out (gb_refl w none) (.inl ⟨HPE.out, rfl⟩) HOWN4.out HG4.out (by
              rcases HAT4.out with h | h
              · exact .inl h.symm
              · exact .inr (by rw [← h]; rfl))
            rw [HOPT.out.1 (.inl (by omega))]
            exact ⟨_, by simpa using hput.1, hput.2⟩
        · subst hv
          go_wp2_with fail
          go_region_law (first
            | (refine step_copy (by rfl) _ _ (by rfl) B gp' cap' P (by rfl) (by rfl) (by exact HPA.out) (by omega) hPp ?_; intro b1 c1' w1 hu1 hg1; have hu1 : Sl1 w1 (fun q => w.heap.size ≤ q ∧ q < w1.heap.size) (.slice (some ⟨b1, 0, none⟩) P.length c1') P := hu1; have hg1 : w.grownBy w1 none := ⟨hg1.os, hg1.tape, hg1.output, hg1.size, hg1.block⟩; have HU1 := Lib.hid hu1; have HG1 := Lib.hid hg1; have hs1 := hg1.size; have cl1 := (hg1.cell_far ⟨lb, 0, none⟩ hlw (by simp)).trans cl; have fl1 := (hg1.frozen_far ⟨lb, 0, none⟩ hlw (by simp)).trans fl; have hlw1 : lb < w1.heap.size := (by omega); have cl3 : ∀ n ob, ((w1.drewN n).alloc ob).cell? ⟨lb, 0, none⟩ = some vo := fun n ob => (((Below.refl w1.heap.size (w1.drewN n)).alloc (Nat.le_refl _) ob).cell (p := ⟨lb, 0, none⟩) hlw1).trans cl1; have cl4 : ∀ ob, (w1.alloc ob).cell? ⟨lb, 0, none⟩ = some vo := fun ob => (((Below.refl w1.heap.size w1).alloc (Nat.le_refl _) ob).cell (p := ⟨lb, 0, none⟩) hlw1).trans cl1; have HR1 := Lib.hid (kept_none HR.out hg1); clear hu1 hg1)
            | (refine step_append_lies _ (by rfl) _ _ _ (by rfl) B 45 i0 _ 1 24 Try.underlying51 hi hz0 hz1 hz2 rfl (by omega) vo L.length ps (by rfl) (by exact World.ownsRow.alloc (by exact HR1.out) _) ⟨w1.heap.size, 0, none⟩ 1 1 [.slice (some ⟨b1, 0, none⟩) P.length c1'] (by rfl) (by rfl) (by exact cell_one_new _ _ _) (fun x hx => by simp at hx; subst hx; rfl) (by omega) (by unfold maxLen; omega) (by omega) (by simp; omega) (w1.heap.size + 1) (by simp) ?_; intro g4 cap4 w4 hown4 hgrow4 hat4 hlt4; have hgrow4 : (w1.alloc (.cells #[.slice (some ⟨b1, 0, none⟩) P.length c1'] 45)).grownBy w4 vo.ownBlock := ⟨hgrow4.os, hgrow4.tape, hgrow4.output, hgrow4.size, hgrow4.block⟩; have HOWN4 := Lib.hid hown4; have HG4 := Lib.hid hgrow4; have HAT4 := Lib.hid hat4; have kl4 := (hgrow4.cell_far ⟨lb, 0, none⟩ (by simp; omega) (fun e => by have := (HOR.out lb e.symm).1; omega)).trans ((((Below.refl w1.heap.size w1).alloc (Nat.le_refl _) _).cell (p := ⟨lb, 0, none⟩) hlw1).trans cl1); have fl4 := (hgrow4.frozen_far ⟨lb, 0, none⟩ (by simp; omega) (fun e => by have := (HOR.out lb e.symm).1; omega)).trans ((((Below.refl w1.heap.size w1).alloc (Nat.le_refl _) _).frozen (p := ⟨lb, 0, none⟩) hlw1).trans fl1); clear hown4 hgrow4 hat4))
          all_goals
            go_wp2_with fail
            go_meet
            have hput := PaSt.put (w1 := w1) HST.out H4.out hB HR.out HF.out HG1.out HU1.out HOWN4.out HG4.out (by
              rcases HAT4.out with h | h
              · exact .inl h.symm
              · exact .inr (by rw [← h]; rfl))
            rw [HOPT.out.1 (.inl (by omega))]
            exact ⟨_, by simpa using hput.1, hput.2⟩
      case rest =>
        obtain ⟨vo1, hst1, hb1⟩ := hcut
        obtain ⟨L1, hL1⟩ : ∃ L1, (L ++ (optT kind x).map fun p => P ++ p) = L1 := ⟨_, rfl⟩
        rw [hL1] at hst1
        have hL1n : L1.length ≤ L.length + 1 := by
          rw [← hL1, List.length_append, List.length_map]
          unfold optT
          split <;> simp
        have c4w := (hb1.cell (p := ⟨q, p + 4, none⟩) hqB).trans c4
        have hwc := hb1.size
        have hqc : q < wc.heap.size := by omega
        have HL1 := Lib.hid hL1
        have HST1 := Lib.hid hst1
        have HB1 := Lib.hid hb1
        have hini : Hid (Kid wc Sq A ks 0) := Lib.hid (HKID.out.keep (fun _ h => h) fun b hb => HB1.out.block b (HS.out b hb))
        clear hL1 hst1 hb1 c0 c1 c2 c3 c4 ck cl fl cp cl2
        go_wp2_with fail
        go_loopw [6, 7, 32] (fun _ _ i wr => ∃ (j : Nat) (done rest : Fr) (vo2 vp2 : Value), i = .int .i64 j ∧ j = done.len ∧ ks = done.app rest ∧ Kid wr Sq A rest j ∧ PaSt wr kb lb pb wb B kind vo2 (L1 ++ (pathsF kind done 0).map fun p => P ++ p) vp2 P ∧ Below B0 w wr) (fun _ _ i _ => N - (intOf i).toNat)
        case atStart => exact ⟨0, .nil, ks, vo1, vp, rfl, rfl, rfl, hini.out, by simpa [pathsF] using HST1.out, HB1.out⟩
        case round =>
          obtain ⟨j, done, rest, vo2, vp2, rfl, hj, hks, hkid, hst2, hbw⟩ := hrel
          have hl : N = done.len + rest.len := by rw [← HNN.out, hks, Fr.len_app]
          have hss : ks.sz = done.sz + rest.sz := by rw [hks, Fr.sz_app]
          have hsz := HSZ.out
          have hn := HN0.out
          have hln := HLN.out
          have hpn := HPN.out
          have hwr := hbw.size
          have hpd := (pathsF_num kind done 0).1
          have HKS := Lib.hid hks
          have HST2 := Lib.hid hst2
          have HBW := Lib.hid hbw
          obtain ⟨gk, gl, gp, gw, ⟨ps2, hr2, hf2⟩, path2, ap2⟩ := hst2
          have cp2 : wr.cell? ⟨pb, 0, none⟩ = some vp2 := cell_of_row wr pb 0 _ _ _ gp
          have fp2 := frozen_of_row wr pb 0 _ _ gp
          have cw2 : wr.cell? ⟨wb, 0, none⟩ = some (.func (.func 42) #[] #[.pointer (some ⟨kb, 0, none⟩), .pointer (some ⟨lb, 0, none⟩), .pointer (some ⟨pb, 0, none⟩), .pointer (some ⟨wb, 0, none⟩)]) := cell_of_row wr wb 0 _ _ _ gw
          have hpr := heap_lt gp
          have hwr2 := heap_lt gw
          have h4 := H4.out
          obtain ⟨⟨b1, b2, b3, b4⟩, ⟨d1, d2, d3, d4⟩, e1', e2', e3', e4', e5'⟩ := h4
          have hpl2 := path2.lt
          by_cases hlt : 0 < rest.len
          · obtain ⟨y, l, r, rfl⟩ := Fr.cut hlt
            obtain ⟨kb2, ko, u, rfl, hkb, hcell, hu, hnext⟩ := hkid.next
            have hyl : szT (y, l) = 1 + l.sz := rfl
            have hsr : (Fr.cons y l r).sz = 1 + l.sz + r.sz := rfl
            have hlr2 : (Fr.cons y l r).len = r.len + 1 := rfl
            have hjN : j < N := by omega
            have hjz : (j : Int) < (N : Int) := by omega
            have hkbr : kb2 < wr.heap.size := by have := HS.out kb2 hkb; omega
            obtain ⟨q1, o1, rfl⟩ := hu.ptr
            obtain ⟨PN, hPN⟩ : ∃ PN, P.length = PN := ⟨_, rfl⟩
            rw [hPN] at path2 hpn
            obtain ⟨PAd, PC, rfl⟩ := own_slice path2
            have hPNb : PN ≤ 1000000 := by omega
            have hBr : B ≤ wr.heap.size := by omega
            have HIHY := Lib.hid (HIH.out (y, l) (by omega))
            have HU := Lib.hid hu
            have HN := Lib.hid hnext
            have HLL : Hid ((L1 ++ (pathsF kind done 0).map fun p => P ++ p).length + szT (y, l) ≤ 1000000) := Lib.hid (by rw [List.length_append, List.length_map]; omega)
            have HPP : Hid ((P ++ [(j : Int)]).length + szT (y, l) ≤ 1000000) := Lib.hid (by rw [List.length_append, hPN]; simp only [List.length_singleton]; omega)
            have HPA2 := Lib.hid path2
            have HPN2 := Lib.hid hPN
            have HPL2 := Lib.hid hpl2
            have HLEN : Hid (j + 1 = (done.app (.cons y l .nil)).len) := Lib.hid (by rw [Fr.len_app]; simp only [Fr.len]; omega)
            have HJ := Lib.hid hj
            have HGW := Lib.hid gw
            have HNX := Lib.hid (pathsF_snoc kind y l done 0)
            clear hkid hks hj hl hss hsz hn hln hpn hpd hu hnext hsr hlr2 hyl hPN gk gl gp gw hr2 hf2 path2 ap2 hpl2 hbw
            go_wp2_with (at_builtin; (refine wpList_append_own_at _ rfl _ _ 45 rfl B 3 j0 _ 1 8 Try.underlying45 hj0' hy0 hy1 hy2 rfl (by decide) (.slice PAd PN PC) PN (ints P) rfl (HPA2.out.alloc _) ⟨wr.heap.size, 0, none⟩ 1 1 [.int .i64 (j : Int)] rfl rfl (cell_one_new _ _ _) (fun x hx => by simp at hx; subst hx; rfl) (by unfold maxLen; omega) (by omega) (by simp; omega) ?_); intro v4 w4 hown4 hgrow4 _ hat4; obtain ⟨g4, cap4, hv4, _, _⟩ := hown4.form (by omega); subst hv4; have HOWN4 := Lib.hid hown4; have HG4 := Lib.hid hgrow4; have HAT4 := Lib.hid hat4; have kp4 := (hgrow4.cell_far ⟨pb, 0, none⟩ (by simp; omega) (fun e => by have := (HPL2.out pb e.symm).1; omega)).trans ((((Below.refl wr.heap.size wr).alloc (Nat.le_refl _) _).cell (p := ⟨pb, 0, none⟩) hpr).trans cp2); have fp4 := (hgrow4.frozen_far ⟨pb, 0, none⟩ (by simp; omega) (fun e => by have := (HPL2.out pb e.symm).1; omega)).trans ((((Below.refl wr.heap.size wr).alloc (Nat.le_refl _) _).frozen (p := ⟨pb, 0, none⟩) hpr).trans fp2); have kw4 := (hgrow4.cell_far ⟨wb, 0, none⟩ (by simp; omega) (fun e => by have := (HPL2.out wb e.symm).1; omega)).trans ((((Below.refl wr.heap.size wr).alloc (Nat.le_refl _) _).cell (p := ⟨wb, 0, none⟩) hwr2).trans cw2); clear hown4 hgrow4 hat4)
            have hpush := PaSt.push HST2.out H4.out hBr (by rw [HPN2.out]; exact HOWN4.out) HG4.out (by have := HAT4.out; simpa using this)
            obtain ⟨hst5, hb5⟩ := hpush
            have HST5 := Lib.hid hst5
            have HB5 := Lib.hid hb5
            have hs5 := hb5.size
            have hbw5 := HBW.out.trans hb5
            have cI := HIHY.out (w4.setCell ⟨pb, 0, none⟩ (.slice (some ⟨g4, 0, none⟩) (PN + 1) cap4)) Sq (.pointer (some ⟨q1, o1, none⟩)) kb lb pb wb B0 B kind vo2 (.slice (some ⟨g4, 0, none⟩) (PN + 1) cap4) (L1 ++ (pathsF kind done 0).map fun p => P ++ p) (P ++ [(j : Int)]) H4.out (by omega) HS.out (HU.out.keep (fun _ h => h) fun b hb => hb5.block b (HS.out b hb)) hst5 (fun e => by simp at e) HLL.out HPP.out
            clear hst5 hb5 hbw5 kp4 fp4 kw4
            refine cI.mono ?_
            rintro e w6 ⟨rfl, vo3, vp3, hst6, hb6⟩
            have HST6 := Lib.hid hst6
            have HB6 := Lib.hid hb6
            obtain ⟨fk, fl', fp, fw, -, path6, -⟩ := hst6
            have hlen6 : (P ++ [(j : Int)]).length = PN + 1 := by rw [List.length_append, HPN2.out]; rfl
            rw [hlen6] at path6
            obtain ⟨g6, cap6, hv6, _, _⟩ := path6.form (by omega)
            subst hv6
            have hcap6 := own_cap path6
            have cp6 : w6.cell? ⟨pb, 0, none⟩ = some (.slice (some ⟨g6, 0, none⟩) (PN + 1) cap6) := cell_of_row w6 pb 0 _ _ _ fp
            have fp6 := frozen_of_row w6 pb 0 _ _ fp
            have hpr6 := heap_lt fp
            clear cI hb6 fk fl' fp fw path6 hlen6
            go_wp2_with fail
            go_roundw
            case rel =>
              have hst7 := HST6.out
              rw [← HPN2.out] at hst7
              obtain ⟨hst8, hb8⟩ := PaSt.pop hst7 H4.out
              rw [HPN2.out] at hst8 hb8
              have hball := HB5.out.trans (HB6.out.trans hb8)
              refine ⟨j + 1, done.app (.cons y l .nil), r, vo3, .slice (some ⟨g6, 0, none⟩) PN cap6, by go_num, HLEN.out, by rw [HKS.out, Fr.app_cons], HN.out.keep (fun _ h => h) fun b hb => hball.block b (HS.out b hb), ?_, HBW.out.trans hball⟩
              have hE : (L1 ++ (pathsF kind (done.app (.cons y l .nil)) 0).map fun p => P ++ p) = (L1 ++ (pathsF kind done 0).map fun p => P ++ p) ++ (pathsT kind (y, l)).map fun p => (P ++ [(j : Int)]) ++ p := by
                rw [HNX.out, List.map_append, List.map_map, List.append_assoc]
                congr 2
                refine List.map_congr_left fun p _ => ?_
                have := HJ.out
                simp [this]
              rw [hE]
              exact hst8
            case measure => simp [intOf]; omega
          · have h0 : rest = .nil := by
              cases rest with
              | nil => rfl
              | cons y l r => exact absurd (Nat.succ_pos _) hlt
            subst h0
            have hjz : ¬ (j : Int) < (N : Int) := by have : (Fr.nil).len = 0 := rfl; omega
            have hfin : ks = done := by rw [hks, Fr.app_nil]
            have HFIN := Lib.hid hfin
            clear hkid hks hj hl hss hsz hn hln hpn hpd gk gl gp gw hr2 hf2 path2 ap2 hpl2 hbw hfin
            go_wp2_with fail
            go_end0
            refine ⟨rfl, vo2, vp2, ?_, HBW.out⟩
            have hE : (L ++ (pathsT kind (x, ks)).map fun p => P ++ p) = L1 ++ (pathsF kind done 0).map fun p => P ++ p := by
              rw [HPT.out, HFIN.out, List.map_append, ← List.append_assoc, HL1.out]
            rw [hE]
            exact HST2.out
    · have e1 : decide (kind < 0) = false := by simp; omega
      go_enter Try.func42, Try.ntmps42
      go_wp2_with fail
      go_quiet (fail)
      go_upto_if 19 with (fail)
      go_cut [] (fun wx => ∃ vo1, PaSt wx kb lb pb wb B kind vo1 (L ++ (optT kind x).map fun p => P ++ p) vp P ∧ Below B0 w wx)
      case first =>
        rcases hvp with ⟨hv, hPe⟩ | ⟨gp', cap', hv, hPp⟩
        · subst hv
          have HPE := Lib.hid hPe
          clear hPe
          go_wp2_with fail
          go_region_law (first
            | (refine step_copy_nil (by rfl) _ _ (by rfl) (by rfl) (by rfl) ?_)
            | (refine step_append_lies _ (by rfl) _ _ _ (by rfl) B 45 i0 _ 1 24 Try.underlying51 hi hz0 hz1 hz2 rfl (by omega) vo L.length ps (by rfl) (by exact World.ownsRow.alloc (by exact HR.out) _) ⟨w.heap.size, 0, none⟩ 1 1 [.slice none 0 0] (by rfl) (by rfl) (by exact cell_one_new _ _ _) (fun x hx => by simp at hx; subst hx; rfl) (by omega) (by unfold maxLen; omega) (by omega) (by simp; omega) (w.heap.size + 1) (by simp) ?_; intro g4 cap4 w4 hown4 hgrow4 hat4 hlt4; have hgrow4 : (w.alloc (.cells #[.slice none 0 0] 45)).grownBy w4 vo.ownBlock := ⟨hgrow4.os, hgrow4.tape, hgrow4.output, hgrow4.size, hgrow4.block⟩; have HOWN4 := Lib.hid hown4; have HG4 := Lib.hid hgrow4; have HAT4 := Lib.hid hat4; have kl4 := (hgrow4.cell_far ⟨lb, 0, none⟩ (by simp; omega) (fun e => by have := (HOR.out lb e.symm).1; omega)).trans ((((Below.refl w.heap.size w).alloc (Nat.le_refl _) _).cell (p := ⟨lb, 0, none⟩) hlw).trans cl); have fl4 := (hgrow4.frozen_far ⟨lb, 0, none⟩ (by simp; omega) (fun e => by have := (HOR.out lb e.symm).1; omega)).trans ((((Below.refl w.heap.size w).alloc (Nat.le_refl _) _).frozen (p := ⟨lb, 0, none⟩) hlw).trans fl); clear hown4 hgrow4 hat4))
          all_goals
            go_wp2_with fail
            go_meet
            have hput := PaSt.put (w1 := w) (u := .slice none 0 0) HST.out H4.out hB HR.out HF.out (gb_refl w none) (.inl ⟨HPE.out, rfl⟩) HOWN4.out HG4.out (by
              rcases HAT4.out with h | h
              · exact .inl h.symm
              · exact .inr (by rw [← h]; rfl))
            rw [HOPT.out.1 (.inr hk1)]
            exact ⟨_, by simpa using hput.1, hput.2⟩
        · subst hv
          go_wp2_with fail
          go_region_law (first
            | (refine step_copy (by rfl) _ _ (by rfl) B gp' cap' P (by rfl) (by rfl) (by exact HPA.out) (by omega) hPp ?_; intro b1 c1' w1 hu1 hg1; have hu1 : Sl1 w1 (fun q => w.heap.size ≤ q ∧ q < w1.heap.size) (.slice (some ⟨b1, 0, none⟩) P.length c1') P := hu1; have hg1 : w.grownBy w1 none := ⟨hg1.os, hg1.tape, hg1.output, hg1.size, hg1.block⟩; have HU1 := Lib.hid hu1; have HG1 := Lib.hid hg1; have hs1 := hg1.size; have cl1 := (hg1.cell_far ⟨lb, 0, none⟩ hlw (by simp)).trans cl; have fl1 := (hg1.frozen_far ⟨lb, 0, none⟩ hlw (by simp)).trans fl; have hlw1 : lb < w1.heap.size := (by omega); have cl3 : ∀ n ob, ((w1.drewN n).alloc ob).cell? ⟨lb, 0, none⟩ = some vo := fun n ob => (((Below.refl w1.heap.size (w1.drewN n)).alloc (Nat.le_refl _) ob).cell (p := ⟨lb, 0, none⟩) hlw1).trans cl1; have cl4 : ∀ ob, (w1.alloc ob).cell? ⟨lb, 0, none⟩ = some vo := fun ob => (((Below.refl w1.heap.size w1).alloc (Nat.le_refl _) ob).cell (p := ⟨lb, 0, none⟩) hlw1).trans cl1; have HR1 := Lib.hid (kept_none HR.out hg1); clear hu1 hg1)
            | (refine step_append_lies _ (by rfl) _ _ _ (by rfl) B 45 i0 _ 1 24 Try.underlying51 hi hz0 hz1 hz2 rfl (by omega) vo L.length ps (by rfl) (by exact World.ownsRow.alloc (by exact HR1.out) _) ⟨w1.heap.size, 0, none⟩ 1 1 [.slice (some ⟨b1, 0, none⟩) P.length c1'] (by rfl) (by rfl) (by exact cell_one_new _ _ _) (fun x hx => by simp at hx; subst hx; rfl) (by omega) (by unfold maxLen; omega) (by omega) (by simp; omega) (w1.heap.size + 1) (by simp) ?_; intro g4 cap4 w4 hown4 hgrow4 hat4 hlt4; have hgrow4 : (w1.alloc (.cells #[.slice (some ⟨b1, 0, none⟩) P.length c1'] 45)).grownBy w4 vo.ownBlock := ⟨hgrow4.os, hgrow4.tape, hgrow4.output, hgrow4.size, hgrow4.block⟩; have HOWN4 := Lib.hid hown4; have HG4 := Lib.hid hgrow4; have HAT4 := Lib.hid hat4; have kl4 := (hgrow4.cell_far ⟨lb, 0, none⟩ (by simp; omega) (fun e => by have := (HOR.out lb e.symm).1; omega)).trans ((((Below.refl w1.heap.size w1).alloc (Nat.le_refl _) _).cell (p := ⟨lb, 0, none⟩) hlw1).trans cl1); have fl4 := (hgrow4.frozen_far ⟨lb, 0, none⟩ (by simp; omega) (fun e => by have := (HOR.out lb e.symm).1; omega)).trans ((((Below.refl w1.heap.size w1).alloc (Nat.le_refl _) _).frozen (p := ⟨lb, 0, none⟩) hlw1).trans fl1); clear hown4 hgrow4 hat4))
          all_goals
            go_wp2_with fail
            go_meet
            have hput := PaSt.put (w1 := w1) HST.out H4.out hB HR.out HF.out HG1.out HU1.out HOWN4.out HG4.out (by
              rcases HAT4.out with h | h
              · exact .inl h.symm
              · exact .inr (by rw [← h]; rfl))
            rw [HOPT.out.1 (.inr hk1)]
            exact ⟨_, by simpa using hput.1, hput.2⟩
      case rest =>
        obtain ⟨vo1, hst1, hb1⟩ := hcut
        obtain ⟨L1, hL1⟩ : ∃ L1, (L ++ (optT kind x).map fun p => P ++ p) = L1 := ⟨_, rfl⟩
        rw [hL1] at hst1
        have hL1n : L1.length ≤ L.length + 1 := by
          rw [← hL1, List.length_append, List.length_map]
          unfold optT
          split <;> simp
        have c4w := (hb1.cell (p := ⟨q, p + 4, none⟩) hqB).trans c4
        have hwc := hb1.size
        have hqc : q < wc.heap.size := by omega
        have HL1 := Lib.hid hL1
        have HST1 := Lib.hid hst1
        have HB1 := Lib.hid hb1
        have hini : Hid (Kid wc Sq A ks 0) := Lib.hid (HKID.out.keep (fun _ h => h) fun b hb => HB1.out.block b (HS.out b hb))
        clear hL1 hst1 hb1 c0 c1 c2 c3 c4 ck cl fl cp cl2
        go_wp2_with fail
        go_loopw [6, 7, 32] (fun _ _ i wr => ∃ (j : Nat) (done rest : Fr) (vo2 vp2 : Value), i = .int .i64 j ∧ j = done.len ∧ ks = done.app rest ∧ Kid wr Sq A rest j ∧ PaSt wr kb lb pb wb B kind vo2 (L1 ++ (pathsF kind done 0).map fun p => P ++ p) vp2 P ∧ Below B0 w wr) (fun _ _ i _ => N - (intOf i).toNat)
        case atStart => exact ⟨0, .nil, ks, vo1, vp, rfl, rfl, rfl, hini.out, by simpa [pathsF] using HST1.out, HB1.out⟩
        case round =>
          obtain ⟨j, done, rest, vo2, vp2, rfl, hj, hks, hkid, hst2, hbw⟩ := hrel
          have hl : N = done.len + rest.len := by rw [← HNN.out, hks, Fr.len_app]
          have hss : ks.sz = done.sz + rest.sz := by rw [hks, Fr.sz_app]
          have hsz := HSZ.out
          have hn := HN0.out
          have hln := HLN.out
          have hpn := HPN.out
          have hwr := hbw.size
          have hpd := (pathsF_num kind done 0).1
          have HKS := Lib.hid hks
          have HST2 := Lib.hid hst2
          have HBW := Lib.hid hbw
          obtain ⟨gk, gl, gp, gw, ⟨ps2, hr2, hf2⟩, path2, ap2⟩ := hst2
          have cp2 : wr.cell? ⟨pb, 0, none⟩ = some vp2 := cell_of_row wr pb 0 _ _ _ gp
          have fp2 := frozen_of_row wr pb 0 _ _ gp
          have cw2 : wr.cell? ⟨wb, 0, none⟩ = some (.func (.func 42) #[] #[.pointer (some ⟨kb, 0, none⟩), .pointer (some ⟨lb, 0, none⟩), .pointer (some ⟨pb, 0, none⟩), .pointer (some ⟨wb, 0, none⟩)]) := cell_of_row wr wb 0 _ _ _ gw
          have hpr := heap_lt gp
          have hwr2 := heap_lt gw
          have h4 := H4.out
          obtain ⟨⟨b1, b2, b3, b4⟩, ⟨d1, d2, d3, d4⟩, e1', e2', e3', e4', e5'⟩ := h4
          have hpl2 := path2.lt
          by_cases hlt : 0 < rest.len
          · obtain ⟨y, l, r, rfl⟩ := Fr.cut hlt
            obtain ⟨kb2, ko, u, rfl, hkb, hcell, hu, hnext⟩ := hkid.next
            have hyl : szT (y, l) = 1 + l.sz := rfl
            have hsr : (Fr.cons y l r).sz = 1 + l.sz + r.sz := rfl
            have hlr2 : (Fr.cons y l r).len = r.len + 1 := rfl
            have hjN : j < N := by omega
            have hjz : (j : Int) < (N : Int) := by omega
            have hkbr : kb2 < wr.heap.size := by have := HS.out kb2 hkb; omega
            obtain ⟨q1, o1, rfl⟩ := hu.ptr
            obtain ⟨PN, hPN⟩ : ∃ PN, P.length = PN := ⟨_, rfl⟩
            rw [hPN] at path2 hpn
            obtain ⟨PAd, PC, rfl⟩ := own_slice path2
            have hPNb : PN ≤ 1000000 := by omega
            have hBr : B ≤ wr.heap.size := by omega
            have HIHY := Lib.hid (HIH.out (y, l) (by omega))
            have HU := Lib.hid hu
            have HN := Lib.hid hnext
            have HLL : Hid ((L1 ++ (pathsF kind done 0).map fun p => P ++ p).length + szT (y, l) ≤ 1000000) := Lib.hid (by rw [List.length_append, List.length_map]; omega)
            have HPP : Hid ((P ++ [(j : Int)]).length + szT (y, l) ≤ 1000000) := Lib.hid (by rw [List.length_append, hPN]; simp only [List.length_singleton]; omega)
            have HPA2 := Lib.hid path2
            have HPN2 := Lib.hid hPN
            have HPL2 := Lib.hid hpl2
            have HLEN : Hid (j + 1 = (done.app (.cons y l .nil)).len) := Lib.hid (by rw [Fr.len_app]; simp only [Fr.len]; omega)
            have HJ := Lib.hid hj
            have HGW := Lib.hid gw
            have HNX := Lib.hid (pathsF_snoc kind y l done 0)
            clear hkid hks hj hl hss hsz hn hln hpn hpd hu hnext hsr hlr2 hyl hPN gk gl gp gw hr2 hf2 path2 ap2 hpl2 hbw
            go_wp2_with (at_builtin; (refine wpList_append_own_at _ rfl _ _ 45 rfl B 3 j0 _ 1 8 Try.underlying45 hj0' hy0 hy1 hy2 rfl (by decide) (.slice PAd PN PC) PN (ints P) rfl (HPA2.out.alloc _) ⟨wr.heap.size, 0, none⟩ 1 1 [.int .i64 (j : Int)] rfl rfl (cell_one_new _ _ _) (fun x hx => by simp at hx; subst hx; rfl) (by unfold maxLen; omega) (by omega) (by simp; omega) ?_); intro v4 w4 hown4 hgrow4 _ hat4; obtain ⟨g4, cap4, hv4, _, _⟩ := hown4.form (by omega); subst hv4; have HOWN4 := Lib.hid hown4; have HG4 := Lib.hid hgrow4; have HAT4 := Lib.hid hat4; have kp4 := (hgrow4.cell_far ⟨pb, 0, none⟩ (by simp; omega) (fun e => by have := (HPL2.out pb e.symm).1; omega)).trans ((((Below.refl wr.heap.size wr).alloc (Nat.le_refl _) _).cell (p := ⟨pb, 0, none⟩) hpr).trans cp2); have fp4 := (hgrow4.frozen_far ⟨pb, 0, none⟩ (by simp; omega) (fun e => by have := (HPL2.out pb e.symm).1; omega)).trans ((((Below.refl wr.heap.size wr).alloc (Nat.le_refl _) _).frozen (p := ⟨pb, 0, none⟩) hpr).trans fp2); have kw4 := (hgrow4.cell_far ⟨wb, 0, none⟩ (by simp; omega) (fun e => by have := (HPL2.out wb e.symm).1; omega)).trans ((((Below.refl wr.heap.size wr).alloc (Nat.le_refl _) _).cell (p := ⟨wb, 0, none⟩) hwr2).trans cw2); clear hown4 hgrow4 hat4)
            have hpush := PaSt.push HST2.out H4.out hBr (by rw [HPN2.out]; exact HOWN4.out) HG4.out (by have := HAT4.out; simpa using this)
            obtain ⟨hst5, hb5⟩ := hpush
            have HST5 := Lib.hid hst5
            have HB5 := Lib.hid hb5
            have hs5 := hb5.size
            have hbw5 := HBW.out.trans hb5
            have cI := HIHY.out (w4.setCell ⟨pb, 0, none⟩ (.slice (some ⟨g4, 0, none⟩) (PN + 1) cap4)) Sq (.pointer (some ⟨q1, o1, none⟩)) kb lb pb wb B0 B kind vo2 (.slice (some ⟨g4, 0, none⟩) (PN + 1) cap4) (L1 ++ (pathsF kind done 0).map fun p => P ++ p) (P ++ [(j : Int)]) H4.out (by omega) HS.out (HU.out.keep (fun _ h => h) fun b hb => hb5.block b (HS.out b hb)) hst5 (fun e => by simp at e) HLL.out HPP.out
            clear hst5 hb5 hbw5 kp4 fp4 kw4
            refine cI.mono ?_
            rintro e w6 ⟨rfl, vo3, vp3, hst6, hb6⟩
            have HST6 := Lib.hid hst6
            have HB6 := Lib.hid hb6
            obtain ⟨fk, fl', fp, fw, -, path6, -⟩ := hst6
            have hlen6 : (P ++ [(j : Int)]).length = PN + 1 := by rw [List.length_append, HPN2.out]; rfl
            rw [hlen6] at path6
            obtain ⟨g6, cap6, hv6, _, _⟩ := path6.form (by omega)
            subst hv6
            have hcap6 := own_cap path6
            have cp6 : w6.cell? ⟨pb, 0, none⟩ = some (.slice (some ⟨g6, 0, none⟩) (PN + 1) cap6) := cell_of_row w6 pb 0 _ _ _ fp
            have fp6 := frozen_of_row w6 pb 0 _ _ fp
            have hpr6 := heap_lt fp
            clear cI hb6 fk fl' fp fw path6 hlen6
            go_wp2_with fail
            go_roundw
            case rel =>
              have hst7 := HST6.out
              rw [← HPN2.out] at hst7
              obtain ⟨hst8, hb8⟩ := PaSt.pop hst7 H4.out
              rw [HPN2.out] at hst8 hb8
              have hball := HB5.out.trans (HB6.out.trans hb8)
              refine ⟨j + 1, done.app (.cons y l .nil), r, vo3, .slice (some ⟨g6, 0, none⟩) PN cap6, by go_num, HLEN.out, by rw [HKS.out, Fr.app_cons], HN.out.keep (fun _ h => h) fun b hb => hball.block b (HS.out b hb), ?_, HBW.out.trans hball⟩
              have hE : (L1 ++ (pathsF kind (done.app (.cons y l .nil)) 0).map fun p => P ++ p) = (L1 ++ (pathsF kind done 0).map fun p => P ++ p) ++ (pathsT kind (y, l)).map fun p => (P ++ [(j : Int)]) ++ p := by
                rw [HNX.out, List.map_append, List.map_map, List.append_assoc]
                congr 2
                refine List.map_congr_left fun p _ => ?_
                have := HJ.out
                simp [this]
              rw [hE]
              exact hst8
            case measure => simp [intOf]; omega
          · have h0 : rest = .nil := by
              cases rest with
              | nil => rfl
              | cons y l r => exact absurd (Nat.succ_pos _) hlt
            subst h0
            have hjz : ¬ (j : Int) < (N : Int) := by have : (Fr.nil).len = 0 := rfl; omega
            have hfin : ks = done := by rw [hks, Fr.app_nil]
            have HFIN := Lib.hid hfin
            clear hkid hks hj hl hss hsz hn hln hpn hpd gk gl gp gw hr2 hf2 path2 ap2 hpl2 hbw hfin
            go_wp2_with fail
            go_end0
            refine ⟨rfl, vo2, vp2, ?_, HBW.out⟩
            have hE : (L ++ (pathsT kind (x, ks)).map fun p => P ++ p) = L1 ++ (pathsF kind done 0).map fun p => P ++ p := by
              rw [HPT.out, HFIN.out, List.map_append, ← List.append_assoc, HL1.out]
            rw [hE]
            exact HST2.out
    · have e1 : decide (kind < 0) = false := by simp; omega
      go_enter Try.func42, Try.ntmps42
      go_wp2_with fail
      go_quiet (fail)
      go_upto_if 19 with (fail)
      go_cut [] (fun wx => ∃ vo1, PaSt wx kb lb pb wb B kind vo1 (L ++ (optT kind x).map fun p => P ++ p) vp P ∧ Below B0 w wx)
      case first =>
        go_wp2_with fail
        go_meet
        rw [HOPT.out.2 (by omega)]
        exact ⟨vo, by simpa using HST.out.drew _, below_drewN' (Below.refl _ _) _⟩
      case rest =>
        obtain ⟨vo1, hst1, hb1⟩ := hcut
        obtain ⟨L1, hL1⟩ : ∃ L1, (L ++ (optT kind x).map fun p => P ++ p) = L1 := ⟨_, rfl⟩
        rw [hL1] at hst1
        have hL1n : L1.length ≤ L.length + 1 := by
          rw [← hL1, List.length_append, List.length_map]
          unfold optT
          split <;> simp
        have c4w := (hb1.cell (p := ⟨q, p + 4, none⟩) hqB).trans c4
        have hwc := hb1.size
        have hqc : q < wc.heap.size := by omega
        have HL1 := Lib.hid hL1
        have HST1 := Lib.hid hst1
        have HB1 := Lib.hid hb1
        have hini : Hid (Kid wc Sq A ks 0) := Lib.hid (HKID.out.keep (fun _ h => h) fun b hb => HB1.out.block b (HS.out b hb))
        clear hL1 hst1 hb1 c0 c1 c2 c3 c4 ck cl fl cp cl2
        go_wp2_with fail
        go_loopw [6, 7, 32] (fun _ _ i wr => ∃ (j : Nat) (done rest : Fr) (vo2 vp2 : Value), i = .int .i64 j ∧ j = done.len ∧ ks = done.app rest ∧ Kid wr Sq A rest j ∧ PaSt wr kb lb pb wb B kind vo2 (L1 ++ (pathsF kind done 0).map fun p => P ++ p) vp2 P ∧ Below B0 w wr) (fun _ _ i _ => N - (intOf i).toNat)
        case atStart => exact ⟨0, .nil, ks, vo1, vp, rfl, rfl, rfl, hini.out, by simpa [pathsF] using HST1.out, HB1.out⟩
        case round =>
          obtain ⟨j, done, rest, vo2, vp2, rfl, hj, hks, hkid, hst2, hbw⟩ := hrel
          have hl : N = done.len + rest.len := by rw [← HNN.out, hks, Fr.len_app]
          have hss : ks.sz = done.sz + rest.sz := by rw [hks, Fr.sz_app]
          have hsz := HSZ.out
          have hn := HN0.out
          have hln := HLN.out
          have hpn := HPN.out
          have hwr := hbw.size
          have hpd := (pathsF_num kind done 0).1
          have HKS := Lib.hid hks
          have HST2 := Lib.hid hst2
          have HBW := Lib.hid hbw
          obtain ⟨gk, gl, gp, gw, ⟨ps2, hr2, hf2⟩, path2, ap2⟩ := hst2
          have cp2 : wr.cell? ⟨pb, 0, none⟩ = some vp2 := cell_of_row wr pb 0 _ _ _ gp
          have fp2 := frozen_of_row wr pb 0 _ _ gp
          have cw2 : wr.cell? ⟨wb, 0, none⟩ = some (.func (.func 42) #[] #[.pointer (some ⟨kb, 0, none⟩), .pointer (some ⟨lb, 0, none⟩), .pointer (some ⟨pb, 0, none⟩), .pointer (some ⟨wb, 0, none⟩)]) := cell_of_row wr wb 0 _ _ _ gw
          have hpr := heap_lt gp
          have hwr2 := heap_lt gw
          have h4 := H4.out
          obtain ⟨⟨b1, b2, b3, b4⟩, ⟨d1, d2, d3, d4⟩, e1', e2', e3', e4', e5'⟩ := h4
          have hpl2 := path2.lt
          by_cases hlt : 0 < rest.len
          · obtain ⟨y, l, r, rfl⟩ := Fr.cut hlt
            obtain ⟨kb2, ko, u, rfl, hkb, hcell, hu, hnext⟩ := hkid.next
            have hyl : szT (y, l) = 1 + l.sz := rfl
            have hsr : (Fr.cons y l r).sz = 1 + l.sz + r.sz := rfl
            have hlr2 : (Fr.cons y l r).len = r.len + 1 := rfl
            have hjN : j < N := by omega
            have hjz : (j : Int) < (N : Int) := by omega
            have hkbr : kb2 < wr.heap.size := by have := HS.out kb2 hkb; omega
            obtain ⟨q1, o1, rfl⟩ := hu.ptr
            obtain ⟨PN, hPN⟩ : ∃ PN, P.length = PN := ⟨_, rfl⟩
            rw [hPN] at path2 hpn
            obtain ⟨PAd, PC, rfl⟩ := own_slice path2
            have hPNb : PN ≤ 1000000 := by omega
            have hBr : B ≤ wr.heap.size := by omega
            have HIHY := Lib.hid (HIH.out (y, l) (by omega))
            have HU := Lib.hid hu
            have HN := Lib.hid hnext
            have HLL : Hid ((L1 ++ (pathsF kind done 0).map fun p => P ++ p).length + szT (y, l) ≤ 1000000) := Lib.hid (by rw [List.length_append, List.length_map]; omega)
            have HPP : Hid ((P ++ [(j : Int)]).length + szT (y, l) ≤ 1000000) := Lib.hid (by rw [List.length_append, hPN]; simp only [List.length_singleton]; omega)
            have HPA2 := Lib.hid path2
            have HPN2 := Lib.hid hPN
            have HPL2 := Lib.hid hpl2
            have HLEN : Hid (j + 1 = (done.app (.cons y l .nil)).len) := Lib.hid (by rw [Fr.len_app]; simp only [Fr.len]; omega)
            have HJ := Lib.hid hj
            have HGW := Lib.hid gw
            have HNX := Lib.hid (pathsF_snoc kind y l done 0)
            clear hkid hks hj hl hss hsz hn hln hpn hpd hu hnext hsr hlr2 hyl hPN gk gl gp gw hr2 hf2 path2 ap2 hpl2 hbw
            go_wp2_with (at_builtin; (refine wpList_append_own_at _ rfl _ _ 45 rfl B 3 j0 _ 1 8 Try.underlying45 hj0' hy0 hy1 hy2 rfl (by decide) (.slice PAd PN PC) PN (ints P) rfl (HPA2.out.alloc _) ⟨wr.heap.size, 0, none⟩ 1 1 [.int .i64 (j : Int)] rfl rfl (cell_one_new _ _ _) (fun x hx => by simp at hx; subst hx; rfl) (by unfold maxLen; omega) (by omega) (by simp; omega) ?_); intro v4 w4 hown4 hgrow4 _ hat4; obtain ⟨g4, cap4, hv4, _, _⟩ := hown4.form (by omega); subst hv4; have HOWN4 := Lib.hid hown4; have HG4 := Lib.hid hgrow4; have HAT4 := Lib.hid hat4; have kp4 := (hgrow4.cell_far ⟨pb, 0, none⟩ (by simp; omega) (fun e => by have := (HPL2.out pb e.symm).1; omega)).trans ((((Below.refl wr.heap.size wr).alloc (Nat.le_refl _) _).cell (p := ⟨pb, 0, none⟩) hpr).trans cp2); have fp4 := (hgrow4.frozen_far ⟨pb, 0, none⟩ (by simp; omega) (fun e => by have := (HPL2.out pb e.symm).1; omega)).trans ((((Below.refl wr.heap.size wr).alloc (Nat.le_refl _) _).frozen (p := ⟨pb, 0, none⟩) hpr).trans fp2); have kw4 := (hgrow4.cell_far ⟨wb, 0, none⟩ (by simp; omega) (fun e => by have := (HPL2.out wb e.symm).1; omega)).trans ((((Below.refl wr.heap.size wr).alloc (Nat.le_refl _) _).cell (p := ⟨wb, 0, none⟩) hwr2).trans cw2); clear hown4 hgrow4 hat4)
            have hpush := PaSt.push HST2.out H4.out hBr (by rw [HPN2.out]; exact HOWN4.out) HG4.out (by have := HAT4.out; simpa using this)
            obtain ⟨hst5, hb5⟩ := hpush
            have HST5 := Lib.hid hst5
            have HB5 := Lib.hid hb5
            have hs5 := hb5.size
            have hbw5 := HBW.out.trans hb5
            have cI := HIHY.out (w4.setCell ⟨pb, 0, none⟩ (.slice (some ⟨g4, 0, none⟩) (PN + 1) cap4)) Sq (.pointer (some ⟨q1, o1, none⟩)) kb lb pb wb B0 B kind vo2 (.slice (some ⟨g4, 0, none⟩) (PN + 1) cap4) (L1 ++ (pathsF kind done 0).map fun p => P ++ p) (P ++ [(j : Int)]) H4.out (by omega) HS.out (HU.out.keep (fun _ h => h) fun b hb => hb5.block b (HS.out b hb)) hst5 (fun e => by simp at e) HLL.out HPP.out
            clear hst5 hb5 hbw5 kp4 fp4 kw4
            refine cI.mono ?_
            rintro e w6 ⟨rfl, vo3, vp3, hst6, hb6⟩
            have HST6 := Lib.hid hst6
            have HB6 := Lib.hid hb6
            obtain ⟨fk, fl', fp, fw, -, path6, -⟩ := hst6
            have hlen6 : (P ++ [(j : Int)]).length = PN + 1 := by rw [List.length_append, HPN2.out]; rfl
            rw [hlen6] at path6
            obtain ⟨g6, cap6, hv6, _, _⟩ := path6.form (by omega)
            subst hv6
            have hcap6 := own_cap path6
            have cp6 : w6.cell? ⟨pb, 0, none⟩ = some (.slice (some ⟨g6, 0, none⟩) (PN + 1) cap6) := cell_of_row w6 pb 0 _ _ _ fp
            have fp6 := frozen_of_row w6 pb 0 _ _ fp
            have hpr6 := heap_lt fp
            clear cI hb6 fk fl' fp fw path6 hlen6
            go_wp2_with fail
            go_roundw
            case rel =>
              have hst7 := HST6.out
              rw [← HPN2.out] at hst7
              obtain ⟨hst8, hb8⟩ := PaSt.pop hst7 H4.out
              rw [HPN2.out] at hst8 hb8
              have hball := HB5.out.trans (HB6.out.trans hb8)
              refine ⟨j + 1, done.app (.cons y l .nil), r, vo3, .slice (some ⟨g6, 0, none⟩) PN cap6, by go_num, HLEN.out, by rw [HKS.out, Fr.app_cons], HN.out.keep (fun _ h => h) fun b hb => hball.block b (HS.out b hb), ?_, HBW.out.trans hball⟩
              have hE : (L1 ++ (pathsF kind (done.app (.cons y l .nil)) 0).map fun p => P ++ p) = (L1 ++ (pathsF kind done 0).map fun p => P ++ p) ++ (pathsT kind (y, l)).map fun p => (P ++ [(j : Int)]) ++ p := by
                rw [HNX.out, List.map_append, List.map_map, List.append_assoc]
                congr 2
                refine List.map_congr_left fun p _ => ?_
                have := HJ.out
                simp [this]
              rw [hE]
              exact hst8
            case measure => simp [intOf]; omega
          · have h0 : rest = .nil := by
              cases rest with
              | nil => rfl
              | cons y l r => exact absurd (Nat.succ_pos _) hlt
            subst h0
            have hjz : ¬ (j : Int) < (N : Int) := by have : (Fr.nil).len = 0 := rfl; omega
            have hfin : ks = done := by rw [hks, Fr.app_nil]
            have HFIN := Lib.hid hfin
            clear hkid hks hj hl hss hsz hn hln hpn hpd gk gl gp gw hr2 hf2 path2 ap2 hpl2 hbw hfin
            go_wp2_with fail
            go_end0
            refine ⟨rfl, vo2, vp2, ?_, HBW.out⟩
            have hE : (L ++ (pathsT kind (x, ks)).map fun p => P ++ p) = L1 ++ (pathsF kind done 0).map fun p => P ++ p := by
              rw [HPT.out, HFIN.out, List.map_append, ← List.append_assoc, HL1.out]
            rw [hE]
            exact HST2.out
end Go.Proofs.Ytmjdeadkekhpdaa
