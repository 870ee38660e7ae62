/-
  The program's Open: what it tells.
-/
import Derived.Test.YthonaeigacfmbaaGreatDoorGq30
import Derived.Test.YthonaeigacfmbaaGreatDoorGq31
import Derived.Test.YthonaeigacfmbaaGreatDoorGq32
import Derived.ArgAppend
import Derived.Deep.DeepCutAuto
namespace Go.Proofs.YthonaeigacfmbaaGreatDoor
open Go.RowKit

theorem rowOf_get : ∀ (l : List Tr) (i : Nat), (rowOf l).get i = l[i]?
  | [], _ => rfl
  | t :: r, 0 => rfl
  | t :: r, i + 1 => by
    show (rowOf r).get i = _
    rw [rowOf_get r i]
    simp
def firstT (cs : List Cel) (N I : Nat) : Fr := rowOf ((List.range I).map (gr cs N))
theorem firstT_next (cs : List Cel) (N I : Nat) : firstT cs N (I + 1) = (firstT cs N I).app (.cons (gr cs N I).1 (gr cs N I).2 .nil) := by
  unfold firstT
  rw [List.range_succ, List.map_append]
  exact rowOf_snoc _ _
theorem firstT_get {cs : List Cel} {N I m : Nat} (h : m < I) : (firstT cs N I).get m = some (gr cs N m) := by
  unfold firstT
  rw [rowOf_get]
  simp [h]
theorem node_at {w : World} {S : Nat → Prop} : ∀ {vs : List Value} {f : Fr} {m : Nat} {t : Tr}, PtF w S vs f → f.get m = some t → ∃ v, vs[m]? = some v ∧ InT w S v t
  | [], .nil, _, _, _, h => by cases h
  | [], .cons _ _ _, _, _, h, _ => h.elim
  | _ :: _, .nil, _, _, h, _ => h.elim
  | v :: _, .cons _ _ _, 0, _, h, hg => by injection hg with hg; subst hg; exact ⟨v, rfl, h.1⟩
  | _ :: vs, .cons _ _ rs, m + 1, _, h, hg => node_at (vs := vs) (f := rs) (m := m) h.2 hg
theorem node_more {wa w4 : World} {H : Nat} {vo v' u : Value} {f : Fr} {t : Tr} {ps : List Value} {ob : Obj} (hp : PtF wa (So H wa vo) ps f) (hu : InT wa (So H wa vo) u t)
    (hg : (wa.alloc ob).grownBy w4 vo.ownBlock) (hat : v'.ownBlock = vo.ownBlock ∨ v'.ownBlock = some (wa.heap.size + 1)) : PtF w4 (So H w4 v') (ps ++ [u]) (f.app (.cons t.1 t.2 .nil)) := by
  have hasz : (wa.alloc ob).heap.size = wa.heap.size + 1 := by simp
  have hs4 := hg.size
  have hk : ∀ b, So H wa vo b → w4.heap[b]? = wa.heap[b]? := by
    rintro b ⟨h1, h2, h3⟩
    rw [hg.block b (by omega) (fun e => h3 e.symm)]
    exact ((Below.refl wa.heap.size wa).alloc (Nat.le_refl _) ob).block b h2
  have hS : ∀ q, So H wa vo q → So H w4 v' q := by
    rintro q ⟨h1, h2, h3⟩
    refine ⟨h1, by omega, ?_⟩
    rcases hat with h | h
    · rw [h]; exact h3
    · rw [h]; intro e; injection e with e; omega
  exact PtF.snoc (hu.keep hS hk) (hp.keep hS hk)
theorem two_blocks (w : World) (o1 o2 : Obj) : ((w.alloc o1).alloc o2).heap[w.heap.size + 1]? = some o2 ∧ Below w.heap.size w ((w.alloc o1).alloc o2) ∧ ((w.alloc o1).alloc o2).heap.size = w.heap.size + 2 := by
  have s1 : (w.alloc o1).heap.size = w.heap.size + 1 := by simp
  refine ⟨?_, ((Below.refl _ _).alloc (Nat.le_refl _) _).alloc (by simp) _, by simp⟩
  rw [← s1]
  exact heap_alloc_new _ o2
theorem gb_ofdrew {w w' : World} {ob : Obj} {r : Option Nat} {n : Nat} (h : ((w.drewN n).alloc ob).grownBy w' r) : (w.alloc ob).grownBy w' r := ⟨h.os, h.tape, h.output, h.size, h.block⟩
theorem grow_more2 {WN w2 w4 : World} {H g4 cap4 k : Nat} {e : TypeId} {S : Nat → Prop} {vk u : Value} {new : Fr} {x : Nod} {T : Tr} {ps : List Value} {ob : Obj} (hS : Bel S H) (hbw : Below H WN w2) (hpt : PtF w2 (Sk S H w2 vk) ps new) (hlen : new.len = k)
    (hnb2 : Nb w2 H x vk) (hvH : vk.ownBlock ≠ some H) (hvl : ∀ g, vk.ownBlock = some g → H + 1 ≤ g) (hu : InT w2 (Sk S H w2 vk) u T)
    (ho4 : w4.ownsRow (H + 1) e 1 (.slice (some ⟨g4, 0, none⟩) (k + 1) cap4) (k + 1) (ps ++ [u])) (hg4 : (w2.alloc ob).grownBy w4 vk.ownBlock) (hat4 : vk.ownBlock = some g4 ∨ g4 = w2.heap.size + 1) :
    ∃ ps', (w4.setCell ⟨H, 4, none⟩ (.slice (some ⟨g4, 0, none⟩) (k + 1) cap4)).ownsRow (H + 1) e 1 (.slice (some ⟨g4, 0, none⟩) (k + 1) cap4) (k + 1) ps' ∧
      PtF (w4.setCell ⟨H, 4, none⟩ (.slice (some ⟨g4, 0, none⟩) (k + 1) cap4)) (Sk S H (w4.setCell ⟨H, 4, none⟩ (.slice (some ⟨g4, 0, none⟩) (k + 1) cap4)) (.slice (some ⟨g4, 0, none⟩) (k + 1) cap4)) ps' (new.app (.cons T.1 T.2 .nil)) ∧
      Nb (w4.setCell ⟨H, 4, none⟩ (.slice (some ⟨g4, 0, none⟩) (k + 1) cap4)) H x (.slice (some ⟨g4, 0, none⟩) (k + 1) cap4) ∧ Below H WN (w4.setCell ⟨H, 4, none⟩ (.slice (some ⟨g4, 0, none⟩) (k + 1) cap4)) ∧
      (Value.slice (some ⟨g4, 0, none⟩) (k + 1) cap4).ownBlock ≠ some H ∧ (∀ g, (Value.slice (some ⟨g4, 0, none⟩) (k + 1) cap4).ownBlock = some g → H + 1 ≤ g) := by
  have hm := kid_more (w := WN) (t := T) hS hbw hnb2 hpt hvH hu (by rw [hlen]; exact ho4) hg4 (by
    rcases hat4 with h | h
    · exact .inl h.symm
    · exact .inr (by rw [← h]; rfl)) hvl
  obtain ⟨⟨ps', ho', hp'⟩, hn', hb', hv1, hv2'⟩ := hm
  rw [Fr.len_app, hlen] at ho'
  exact ⟨ps', ho', hp', hn', hb', hv1, hv2'⟩
set_option maxHeartbeats 6400000 in
set_option maxRecDepth 100000 in
theorem arOpen (cs : List Cel) (w : World) (cv : Value) (hcl : Cls w w.heap.size cv cs) (hkl : ∀ (j : Nat) (c : Cel), cs[j]? = some c → c.ks.length ≤ 1000000) (hlen : cs.length ≤ 1000000000) :
    Calls Tryz.prog 34 #[.agg #[cv]] w (TePost No (opR cs).1 (opR cs).2 w) := by
  have HCL := Lib.hid hcl
  have HKL := Lib.hid hkl
  obtain ⟨A, c, rfl, hc, hcell⟩ := hcl
  have HCELL := Lib.hid hcell
  obtain ⟨N, hN⟩ : ∃ N, cs.length = N := ⟨_, rfl⟩
  have hN0 := op_nil (cs := cs)
  have hN1 := op_long (cs := cs)
  have hbad := op_bad (cs := cs)
  have hgood := op_good (cs := cs)
  obtain ⟨R, hR⟩ : ∃ R, opR cs = R := ⟨_, rfl⟩
  rw [hR] at hN0 hN1 hbad hgood ⊢
  rw [hN] at hN0 hN1 hbad hgood hc hlen ⊢
  have HNN := Lib.hid hN
  have HBAD := Lib.hid hbad
  have HGOOD := Lib.hid hgood
  clear hcell hkl hR hbad hgood
  have hb := (Below.refl w.heap.size w).alloc (Nat.le_refl _) (.cells #[.slice A N c] 46)
  by_cases h0 : N = 0
  · have HU := Lib.hid (hN0 h0)
    have hz : ((N : Int) == 0) = true := by rw [beq_iff_eq]; omega
    clear hN0 hN1 h0 hN
    go_enter Tryz.func34, Tryz.ntmps34
    go_wp2_with fail
    go_ret2
    exact te_two HU.out rfl hb
  · have hz : ((N : Int) == 0) = false := by rw [beq_eq_false_iff_ne]; omega
    by_cases h1 : 8192 < N
    · have HU := Lib.hid (hN1 h1)
      have hz1 : (8192 : Int) < (N : Int) := by omega
      clear hN0 hN1 hN
      go_enter Tryz.func34, Tryz.ntmps34
      go_wp2_with fail
      go_ret2
      exact te_two HU.out rfl hb
    · have hz1 : ¬ (8192 : Int) < (N : Int) := by omega
      have hbr := bool_of (okK cs ∧ okC cs)
      obtain ⟨b, hbb⟩ := hbr
      have hs0 : (w.alloc (.cells #[.slice A N c] 46)).heap.size = w.heap.size + 1 := by simp
      have cG := grown_any cs (w.alloc (.cells #[.slice A N c] 46)) (.slice A N c) (by rw [← hN]; rw [← hN] at hb; exact HCL.out.keep (by simp) fun p hp => ((Below.refl w.heap.size w).alloc (Nat.le_refl _) _).cell hp) HKL.out (by omega) (by omega) b hbb
      have HB := Lib.hid hb
      have HS0 := Lib.hid hs0
      have H0 := Lib.hid h0
      have H1 := Lib.hid h1
      have HBB := Lib.hid hbb
      have hbx := cell_of_row _ w.heap.size 0 _ _ _ (heap_alloc_new w (.cells #[.slice A N c] 46))
      have HBX := Lib.hid (show (w.alloc (.cells #[.slice A N c] 46)).cell? ⟨w.heap.size, 0, none⟩ = some (.slice A N c) from hbx)
      clear hN0 hN1 h0 hN hb hbb hbx hs0
      cases b with
      | false =>
        have HU := Lib.hid (HBAD.out H0.out H1.out fun h => (by have := HBB.out.2 h; cases this))
        go_enter Tryz.func34, Tryz.ntmps34
        go_wp2_with fail
        refine cG.mono ?_
        rintro e w1 ⟨rfl, hb1⟩
        have hb2 := HB.out.trans (hb1.mono (by rw [HS0.out]; omega))
        have HB2 := Lib.hid hb2
        clear hb1 hb2
        go_wp2_with fail
        go_ret2
        exact te_two HU.out rfl HB2.out
      | true =>
        have HU := Lib.hid (HGOOD.out H0.out H1.out (HBB.out.1 rfl))
        have HOK := Lib.hid (HBB.out.1 rfl).1
        obtain ⟨i0, hi0, hz0, hz1', hz2⟩ := info_parts infoPtr
        go_enter Tryz.func34, Tryz.ntmps34
        go_wp2_with fail
        refine cG.mono ?_
        rintro e w1 ⟨rfl, hb1⟩
        obtain ⟨H, hH⟩ : ∃ H, w.heap.size = H := ⟨_, rfl⟩
        have hbw1 := HB.out.trans (hb1.mono (by rw [HS0.out]; omega))
        have hs1 := hb1.size
        rw [HS0.out, hH] at hs1
        have hbx1 := (hb1.cell (p := ⟨w.heap.size, 0, none⟩) (by rw [HS0.out]; simp only; omega)).trans HBX.out
        obtain ⟨wm, hrun, hown, hgr⟩ := run_make_own (P := Tryz.prog) w1 H 30 24 i0 (.pointer none) 1 Tryz.underlying30 hi0 hz0 hz1' .i64 .i64 N (by rw [hz2]; omega) (by unfold maxLen; omega) (by omega)
        have hbwm : Below H w wm := (hH ▸ hbw1).grown hgr (by omega) (fun k hk => by cases hk)
        have hbxm := hgr.cell hbx1 (by simp)
        have HH := Lib.hid hH
        have HBWM := Lib.hid hbwm
        have HOWN := Lib.hid hown
        clear cG hb1 hbw1 hH hown hgr hbwm
        go_wp2_with fail
        rw [HH.out]
        have hown0 : ∃ vn, vn = Value.slice (some ⟨w1.heap.size, 0, none⟩) 0 N := ⟨_, rfl⟩
        obtain ⟨vn0, hvn0⟩ := hown0
        have HVN0 := Lib.hid hvn0
        clear hrun hbxm hbx1 hvn0
        go_loopw [4, 6, 7, 9, 32, 49] (fun vn _ _ _ i _ wr => ∃ (I : Nat) (ps : List Value), i = .int .i64 I ∧ I ≤ N ∧ wr.ownsRow H 24 1 vn I ps ∧ PtF wr (So H wr vn) ps (firstT cs N I) ∧ Below H w wr) (fun _ _ _ _ i _ _ => N - (intOf i).toNat)
        case atStart => exact ⟨0, [], rfl, Nat.zero_le _, HOWN.out, trivial, HBWM.out⟩
        case round =>
          rename World => wa
          obtain ⟨I, ps, rfl, hI, hown, hpt, hbw⟩ := hrel
          have hHa := hbw.size
          rw [HH.out] at hHa
          have HOWNA := Lib.hid hown
          have HPTA := Lib.hid hpt
          have HBWA := Lib.hid hbw
          obtain ⟨NA, NC, hvn⟩ := own_slice hown
          by_cases hlt : I < N
          · subst hvn
            have hIz : (I : Int) < (N : Int) := by omega
            have hci := cel_lt (cs := cs) (i := I) (by rw [HNN.out]; exact hlt)
            obtain ⟨b2, o, hA, hbb, g0', g1', g2', g3', kv, g4', hkv⟩ := HCELL.out I _ hci
            subst hA
            rw [HH.out] at hbb
            obtain ⟨KA, kc, rfl, hkc, hkcl⟩ := hkv
            have hml := HKL.out I _ hci
            have hokI := HOK.out I _ hci
            obtain ⟨⟨x, ks⟩, hx⟩ : ∃ u, cel cs I = u := ⟨_, rfl⟩
            have hgrI : gr cs N I = (x, rowOf (ks.map fun z => gr cs N z.toNat)) := by
              have h := gr_eq HOK.out (i := I) (by rw [HNN.out]; exact hlt)
              rw [HNN.out, hx] at h
              exact h
            rw [hx] at g0' g1' g2' g3' g4' hkc hkcl hml hokI
            simp only at g0' g1' g2' g3' g4' hkc hkcl hml hokI
            obtain ⟨M, hM⟩ : ∃ M, ks.length = M := ⟨_, rfl⟩
            rw [hM] at hkc g4' hml
            have g0 := (hbw.cell (p := ⟨b2, o + I * 5, none⟩) hbb).trans g0'
            have g1 := (hbw.cell (p := ⟨b2, o + I * 5 + 1, none⟩) hbb).trans g1'
            have g2 := (hbw.cell (p := ⟨b2, o + I * 5 + 2, none⟩) hbb).trans g2'
            have g3 := (hbw.cell (p := ⟨b2, o + I * 5 + 3, none⟩) hbb).trans g3'
            have g4 := (hbw.cell (p := ⟨b2, o + I * 5 + 4, none⟩) hbb).trans g4'
            have hM1 : M ≤ 1000000 := hml
            obtain ⟨XK, hXK⟩ : ∃ z, x.k = z := ⟨_, rfl⟩
            obtain ⟨XN, hXN⟩ : ∃ z, x.n = z := ⟨_, rfl⟩
            obtain ⟨XA, hXA⟩ : ∃ z, x.a = z := ⟨_, rfl⟩
            obtain ⟨XM, hXM⟩ : ∃ z, x.m = z := ⟨_, rfl⟩
            rw [hXK] at g0
            rw [hXN] at g1
            rw [hXA] at g2
            rw [hXM] at g3
            have t2 := two_blocks wa (.cells #[.int .i64 XK, .int .i64 XN, .string XA, .string XM, .slice KA M kc] 89) (.cells #[.int .i64 XK, .int .i64 XN, .string XA, .string XM, .slice none 0 0] 66)
            obtain ⟨WN, hWN⟩ : ∃ WN, WN = (wa.alloc (.cells #[.int .i64 XK, .int .i64 XN, .string XA, .string XM, .slice KA M kc] 89)).alloc (.cells #[.int .i64 XK, .int .i64 XN, .string XA, .string XM, .slice none 0 0] 66) := ⟨_, rfl⟩
            rw [← hWN] at t2
            obtain ⟨tn, tb, ts⟩ := t2
            have hnbN : Nb WN (wa.heap.size + 1) x (.slice none 0 0) := by unfold Nb; rw [hXK, hXN, hXA, hXM]; exact tn
            obtain ⟨B1, hB1⟩ : ∃ B1, wa.heap.size = B1 := ⟨_, rfl⟩
            rw [hB1] at tb ts hnbN
            have HWN := Lib.hid hWN
            have HB1 := Lib.hid hB1
            have HTB := Lib.hid tb
            have HTS := Lib.hid ts
            have HNBN := Lib.hid hnbN
            have HMM := Lib.hid hM
            have HKC := Lib.hid hkcl
            have HOKI := Lib.hid hokI
            have HGRI := Lib.hid hgrI
            clear hci hkcl hM g0' g1' g2' g3' g4' hXK hXN hXA hXM hx hokI hgrI hWN hB1 tn tb ts hnbN hown hpt hbw
            go_wp2_with fail
            rw [← HWN.out, HB1.out]
            have hinn : Hid (∃ (K : Nat) (vk : Value) (qs : List Value), Value.int .i64 0 = .int .i64 K ∧ K ≤ M ∧ WN.ownsRow (B1 + 1 + 1) 24 1 vk K qs ∧ PtF WN (Sk (So H wa (.slice NA I NC)) (B1 + 1) WN vk) qs (rowOf ((ks.take K).map fun z => gr cs N z.toNat)) ∧ Nb WN (B1 + 1) x vk ∧ Below (B1 + 1) WN WN ∧ vk.ownBlock ≠ some (B1 + 1) ∧ (∀ g, vk.ownBlock = some g → B1 + 1 + 1 ≤ g)) := Lib.hid ⟨0, .slice none 0 0, [], rfl, Nat.zero_le _, World.ownsRow_nil _ _ _ _, trivial, HNBN.out, Below.refl _ _, by simp [Value.ownBlock], by intro g hg; simp [Value.ownBlock] at hg⟩
            clear g0 g1 g2 g3 g4
            go_loopw [9, 49] (fun _ k w2 => ∃ (K : Nat) (vk : Value) (qs : List Value), k = .int .i64 K ∧ K ≤ M ∧ w2.ownsRow (B1 + 1 + 1) 24 1 vk K qs ∧ PtF w2 (Sk (So H wa (.slice NA I NC)) (B1 + 1) w2 vk) qs (rowOf ((ks.take K).map fun z => gr cs N z.toNat)) ∧ Nb w2 (B1 + 1) x vk ∧ Below (B1 + 1) WN w2 ∧ vk.ownBlock ≠ some (B1 + 1) ∧ (∀ g, vk.ownBlock = some g → B1 + 1 + 1 ≤ g)) (fun _ k _ => M - (intOf k).toNat)
            case atStart => exact hinn.out
            case round =>
              obtain ⟨K, vk, qs, rfl, hK, hown2, hpt2, hnb2, hbw2, hvH, hvl⟩ := hrel
              have hNr : B1 + 1 < wr.heap.size := heap_lt hnb2
              have hba : Below B1 wa wr := HTB.out.trans (hbw2.mono (by omega))
              have HOWN2 := Lib.hid hown2
              have HPT2 := Lib.hid hpt2
              have HNB2 := Lib.hid hnb2
              have HBW2 := Lib.hid hbw2
              have HVH := Lib.hid hvH
              have HVL := Lib.hid hvl
              have HBA := Lib.hid hba
              have hBelS : Bel (So H wa (.slice NA I NC)) (B1 + 1) := fun q h => by have := h.2.1; rw [HB1.out] at this; omega
              have HBELS := Lib.hid hBelS
              have hHB : H ≤ B1 := by rw [← HB1.out]; exact hHa
              have cn : wr.cell? ⟨B1 + 1, 4, none⟩ = some vk := hnb2.cell.1
              have cf : wr.frozen? ⟨B1 + 1, 4, none⟩ = false := hnb2.cell.2
              clear hown2 hpt2 hnb2 hbw2 hvH hvl hba hBelS
              by_cases hlt2 : K < M
              · obtain ⟨z, hz⟩ : ∃ z, ks[K]? = some z := ⟨_, List.getElem?_eq_getElem (by rw [HMM.out]; exact hlt2)⟩
                have HROW := Lib.hid (row_next (fun z => gr cs N z.toNat) hz)
                obtain ⟨kb, ko, rfl, hkb2, hkcell0⟩ := HKC.out K z hz
                rw [HH.out] at hkb2
                have hxr := (HBA.out.cell (p := ⟨kb, ko + K, none⟩) (by simp only; omega)).trans ((HBWA.out.cell (p := ⟨kb, ko + K, none⟩) hkb2).trans hkcell0)
                obtain ⟨hz0', hz1'⟩ := HOKI.out z (List.mem_of_getElem? hz)
                obtain ⟨m, rfl⟩ : ∃ m : Nat, z = (m : Int) := ⟨z.toNat, by omega⟩
                have hmI : m < I := by omega
                have hmz : (m : Int) < (I : Int) := by omega
                obtain ⟨gn, capn, hvn, -, hgn⟩ := HOWNA.out.form (by omega)
                injection hvn with hvn _ hcn
                subst hvn hcn
                rw [HB1.out] at hgn
                obtain ⟨pv, hpv, hinp⟩ := node_at HPTA.out (firstT_get (cs := cs) (N := N) hmI)
                obtain ⟨q2, o2, rfl⟩ := hinp.ptr
                have kg : wr.cell? ⟨gn, m, none⟩ = some (.pointer (some ⟨q2, o2, none⟩)) := by
                  rw [HBA.out.cell (p := ⟨gn, m, none⟩) hgn, HOWNA.out.cellAt m (by omega)]
                  exact hpv
                have hgnr : gn < wr.heap.size := by omega
                have hgB : gn ≠ B1 + 1 := by omega
                have HINP : Hid (InT wr (Sk (So H wa (.slice (some ⟨gn, 0, none⟩) I NC)) (B1 + 1) wr vk) (.pointer (some ⟨q2, o2, none⟩)) (gr cs N m)) := Lib.hid (hinp.keep (fun q h => .inl h) fun b hb => HBA.out.block b (by have := hb.2.1; rw [HB1.out] at this; exact this))
                have hkz : (K : Int) < (M : Int) := by omega
                clear hz hkcell0 hz0' hz1' hpv hinp
                go_wp2_with fail
                go_region_law ((refine step_append_lies _ (by rfl) _ _ _ (by rfl) (B1 + 1 + 1) 24 i0 _ 1 8 Tryz.underlying30 hi0 hz0 hz1' hz2 rfl (by omega) vk K qs (by rfl) (by exact World.ownsRow.alloc (by exact HOWN2.out) _) ⟨wr.heap.size, 0, none⟩ 1 1 [.pointer (some ⟨q2, o2, none⟩)] (by rfl) (by rfl) (by exact cell_one_new _ _ _) (fun x hx => by simp at hx; subst hx; rfl) (by omega) (by unfold maxLen; omega) (by omega) (by simp; omega) (wr.heap.size + 1) (by simp) ?_); intro g4 cap4 w4 hown4 hgrow4 hat4 hlt4; have hgrow4 := gb_ofdrew hgrow4; have HOWN4 := Lib.hid hown4; have HG4 := Lib.hid hgrow4; have HAT4 := Lib.hid hat4; have hn4 := HNB2.out.far HG4.out HVH.out; have hc4 : w4.cell? ⟨B1 + 1, 4, none⟩ = some vk := hn4.cell.1; have hf4 : w4.frozen? ⟨B1 + 1, 4, none⟩ = false := hn4.cell.2; clear hown4 hgrow4 hat4 hn4)
                all_goals
                  have HMORE := Lib.hid (grow_more2 HBELS.out HBW2.out HPT2.out (by rw [rowOf_len, List.length_map, List.length_take]; have := HMM.out; omega) HNB2.out HVH.out HVL.out HINP.out HOWN4.out HG4.out HAT4.out)
                  go_wp2_with fail
                  go_roundw
                  case rel =>
                    obtain ⟨ps', r1, r2, r3, r4, r5, r6⟩ := HMORE.out
                    exact ⟨K + 1, _, ps', by go_num, by omega, r1, by rw [HROW.out, Int.toNat_natCast]; exact r2, r3, r4, r5, r6⟩
                  case measure => simp [intOf]; omega
              · have hkz : ¬ (K : Int) < (M : Int) := by omega
                have hKM : K = M := by omega
                have HFIN : Hid (ks.take K = ks) := Lib.hid (List.take_of_length_le (by rw [HMM.out]; omega))
                have hlenr : (rowOf ((ks.take K).map fun z => gr cs N z.toNat)).len = K := by rw [rowOf_len, List.length_map, List.length_take]; have := HMM.out; omega
                have hownK := HOWN2.out
                rw [← hlenr] at hownK
                have hHr : H ≤ B1 := hHB
                have hvnB : ∀ g, (Value.slice NA I NC).ownBlock = some g → g < B1 := fun g hg => by have := (HOWNA.out.lt g hg).2; rw [HB1.out] at this; exact this
                have hltK := hownK.lt
                have htree := OwnT.tree (x := x) (b := B1 + 1) ⟨qs, hownK, HPT2.out.keep (S' := So H wr (.slice NA I NC)) (by
                  rintro q' (⟨a1, a2, a3⟩ | ⟨a1, a2, a3⟩)
                  · exact ⟨a1, by rw [HB1.out] at a2; omega, a3⟩
                  · exact ⟨by omega, a2, fun e => by have := hvnB q' e; omega⟩) fun _ _ => rfl⟩ HNB2.out ⟨by omega, hNr, fun e => by have := hvnB _ e; omega⟩ (fun g he => ⟨by have := HVL.out g he; omega, (hltK g he).2, fun e => by have := hvnB _ e; have := HVL.out g he; omega⟩)
                rw [HFIN.out, ← HGRI.out] at htree
                have HTREE := Lib.hid htree
                have hown3 : wr.ownsRow H 24 1 (.slice NA I NC) I ps := own_below HOWNA.out (by rw [HB1.out]; exact HBA.out)
                have HOWN3 := Lib.hid hown3
                have hBr : B1 ≤ wr.heap.size := by omega
                clear hKM hlenr hownK hltK htree hvnB hown3
                go_wp2_with (at_builtin; (refine wpList_append_own_at _ rfl _ _ 30 rfl H 24 i0 (.pointer none) 1 8 Tryz.underlying30 hi0 hz0 hz1' hz2 rfl (by decide) (.slice NA I NC) I ps rfl (HOWN3.out.alloc _) ⟨wr.heap.size, 0, none⟩ 1 1 [.pointer (some ⟨B1 + 1, 0, none⟩)] rfl rfl (cell_one_new _ _ _) (fun x hx => by simp at hx; subst hx; rfl) (by unfold maxLen; omega) (by omega) (by simp; omega) ?_); intro v6 w6 hown6 hgrow6 _ hat6; have HOWN6 := Lib.hid hown6; have HG6 := Lib.hid hgrow6; have HAT6 := Lib.hid hat6; clear hown6 hgrow6 hat6)
                go_roundw
                case rel =>
                  have hat := HAT6.out
                  have hpt3 : PtF wr (So H wr (.slice NA I NC)) ps (firstT cs N I) := HPTA.out.keep (by
                    rintro q ⟨a1, a2, a3⟩
                    exact ⟨a1, by rw [HB1.out] at a2; omega, a3⟩) fun b hb => HBA.out.block b (by have := hb.2.1; rw [HB1.out] at this; exact this)
                  refine ⟨I + 1, ps ++ [.pointer (some ⟨B1 + 1, 0, none⟩)], by go_num, by omega, HOWN6.out, ?_, ?_⟩
                  · rw [firstT_next]
                    exact node_more hpt3 HTREE.out HG6.out (by simpa using hat)
                  · exact ((HBWA.out.trans (HBA.out.mono hHB)).alloc (by omega) _).grown HG6.out (by simp; omega) (fun g hg => (HOWN3.out.lt g hg).1)
                case measure => simp [intOf]; omega
          · have hIN : I = N := by omega
            subst hIN
            have hI0 : 0 < I := by have := H0.out; omega
            obtain ⟨gn, capn, hvn2, -, hgn⟩ := hown.form hI0
            subst hvn2
            obtain ⟨pv, hpv, hinp⟩ := node_at hpt (firstT_get (cs := cs) (N := I) (m := I - 1) (by omega))
            obtain ⟨q2, o2, rfl⟩ := hinp.ptr
            have kg : wa.cell? ⟨gn, I - 1, none⟩ = some (.pointer (some ⟨q2, o2, none⟩)) := by
              rw [hown.cellAt (I - 1) (by omega)]
              exact hpv
            have hIz : ¬ (I : Int) < (I : Int) := by omega
            have hI1 : (0 : Int) ≤ (I : Int) - 1 ∧ (I : Int) - 1 < (I : Int) := by omega
            have htn : ((I : Int) - 1).toNat = I - 1 := by omega
            have HIN := Lib.hid hinp
            clear hown hpt hbw hpv hinp hvn
            go_wp2_with fail
            go_ret2
            exact te_two HU.out (InT.keep HIN.out (fun q h => .inr ⟨by rw [HH.out]; exact h.1, h.2.1⟩) fun _ _ => rfl) (by rw [HH.out]; exact HBWA.out)
end Go.Proofs.YthonaeigacfmbaaGreatDoor
namespace Go.Proofs.YthonaeigacfmbaaGreatDoor
open Go.RowKit

theorem Sp.up {W w : World} {v : Value} {l : List Int} (h : Sp W W.heap.size v l) (u : Up W w) : Sp w w.heap.size v l := Sp.keep h u.size fun _ hp => Below.cell u hp
theorem Spp.up {W w : World} {v : Value} {l : List (List Int)} (h : Spp W W.heap.size v l) (u : Up W w) : Spp w w.heap.size v l := Spp.keep h u.size fun _ hp => Below.cell u hp
theorem Cls.upp {W w : World} {v : Value} {cs : List Cel} (h : Cls W W.heap.size v cs) (u : Up W w) : Cls w w.heap.size v cs := Cls.keep h u.size fun _ hp => Below.cell u hp
/-! ### the program's calls -/
def TrP (o : Option Tr) (z : Int) (W : World) (e : Ending) (w' : World) : Prop := ∃ v, e = .returned (.tuple #[v, .int .i64 z]) ∧ HasT w' v o ∧ Up W w'
theorem TePost.trp {o : Option Tr} {z : Int} {W w : World} {e : Ending} {w' : World} {S : Nat → Prop} (hS : Bel S w.heap.size) (u : Up W w) (h : TePost S o z w e w') : TrP o z W e w' := by
  obtain ⟨v, he, hi, hb⟩ := h
  exact ⟨v, he, HasT.of hi (sin_bel' hS hb.size), u.of hb⟩
theorem uSame (o o' : Option Tr) {W w : World} {v v' : Value} (h : HasT W v o) (h' : HasT W v' o') (hz : szO o ≤ 65536) (b : Bool) (hb : b = true ↔ o = o') (u : Up W w) :
    Calls Tryz.prog 36 #[v, v'] w (BoP b W) :=
  (arSame o o' w _ _ v v' HasT.bel HasT.bel (h.up u) (h'.up u) hz b hb).mono fun _ _ k => ⟨k.1, u.of k.2⟩
theorem uDeep (o : Option Tr) {W w : World} {v : Value} (h : HasT W v o) (hz : szO o ≤ 65536) (u : Up W w) : Calls Tryz.prog 129 #[v] w (NuP (dpO o) W) :=
  (arDeep o w _ v HasT.bel (h.up u) hz).mono fun _ _ k => ⟨k.1, u.of k.2⟩
theorem AtPost.trp {o : Option Tr} {z : Int} {W w : World} {e : Ending} {w' : World} (u : Up W w) (h : AtPost (fun q => q < w.heap.size) o z w e w') : TrP o z W e w' := by
  obtain ⟨v, he, hi, q, rfl⟩ := h
  exact ⟨v, he, hi, u.drewN q⟩
theorem uPack (t : Tr) {W w : World} {v : Value} (h : HasT W v (some t)) (hz : szT t ≤ 8192) (u : Up W w) :
    Calls Tryz.prog 128 #[v] w fun e w' => ∃ v', e = .returned (.tuple #[.agg #[v'], .int .i64 0]) ∧ Cls w' w'.heap.size v' (celT t 0) ∧ Up W w' :=
  (arPack t hz w _ v HasT.bel (h.up u)).mono fun _ _ k => by obtain ⟨p, k1, k2, k3⟩ := k; exact ⟨p, k1, k2, u.of k3⟩
theorem uOpen (cs : List Cel) {W w : World} {v : Value} (h : Cls W W.heap.size v cs) (hk : ∀ (j : Nat) (c : Cel), cs[j]? = some c → c.ks.length ≤ 1000000) (hl : cs.length ≤ 1000000) (u : Up W w) :
    Calls Tryz.prog 34 #[.agg #[v]] w (TrP (opR cs).1 (opR cs).2 W) :=
  (arOpen cs w v (h.upp u) hk (by omega)).mono fun _ _ k => TePost.trp (no_bel _) u k
theorem rOpen (cs : List Cel) {W w : World} {v : Value} (h : Cls W W.heap.size v cs) (hk : ∀ (j : Nat) (c : Cel), cs[j]? = some c → c.ks.length ≤ 1000000) (hl : cs.length ≤ 1000000) (u : Up W w) :
    Calls Tryz.prog 30 #[.agg #[v]] w (TrP (opR cs).1 (opR cs).2 W) :=
  (refOpen cs w v (h.upp u) hk (by omega)).mono fun _ _ k => TePost.trp (no_bel _) u k
end Go.Proofs.YthonaeigacfmbaaGreatDoor
namespace Go.Proofs.YthonaeigacfmbaaGreatDoor
open Go.RowKit

def MrPost (gp : Bool) (w : World) (e : Ending) (w' : World) : Prop := ∃ s d : Nat, e = .returned (.agg #[.int .i64 (s : Int), .int .i64 (d : Int), .bool gp]) ∧ s ≤ 100000 ∧ (gp = false → 8192 < s) ∧ Below w.heap.size w w'
def PnPost (z : Int) (w : World) (e : Ending) (w' : World) : Prop := e = .returned (.tuple #[.agg #[.slice none 0 0], .int .i64 z]) ∧ Up w w'
set_option maxHeartbeats 3200000 in
set_option maxRecDepth 100000 in
theorem pack_no (gp : Bool) (v : Value) (w : World) (cM : Calls Tryz.prog 191 #[v] (w.alloc (.cells #[.slice none 0 0] 46)) (MrPost gp (w.alloc (.cells #[.slice none 0 0] 46)))) :
    Calls Tryz.prog 128 #[v] w (PnPost (if gp then 1 else 3) w) := by
  have hb := (Below.refl w.heap.size w).alloc (Nat.le_refl _) (.cells #[.slice none 0 0] 46)
  have hs : (w.alloc (.cells #[.slice none 0 0] 46)).heap.size = w.heap.size + 1 := by simp
  have hbx : (w.alloc (.cells #[.slice none 0 0] 46)).heap[w.heap.size]? = some (.cells #[.slice none 0 0] 46 (0, 0)) := heap_alloc_new w _
  obtain ⟨H, hH⟩ : ∃ H, w.heap.size = H := ⟨_, rfl⟩
  rw [hH] at hb hs hbx
  have HS := Lib.hid hs
  have HB := Lib.hid hb
  have HBX := Lib.hid hbx
  have HH := Lib.hid hH
  clear hs hb hbx hH
  cases gp
  · go_enter Tryz.func128, Tryz.ntmps128
    go_wp2_with fail
    refine cM.mono ?_
    rintro e w1 ⟨S, D, rfl, hS, hg, hb1⟩
    rw [HS.out] at hb1
    have hbx1 := (hb1.block H (by omega)).trans HBX.out
    have cz := cell_of_row w1 H 0 _ _ _ hbx1
    have fz := frozen_of_row w1 H 0 _ _ hbx1
    have HB1 := Lib.hid hb1
    have HX1 := Lib.hid hbx1
    have hH1 := heap_lt hbx1
    have hzz : (8192 : Int) < (S : Int) := by have := hg rfl; omega
    clear hbx1 hb1 cM hg
    rw [HH.out]
    go_wp2_with fail
    have r0 : ((w1.setCell ⟨H, 0, none⟩ (.slice none 0 0)).alloc (.cells #[.int .i64 (S : Int), .int .i64 (D : Int), .bool false] 194)).cell? ⟨H, 0, none⟩ = some (.slice none 0 0) := cell_of_row _ H 0 _ _ _ (block_alloc _ (block_set _ HX1.out))
    have hbF : Below H w ((w1.setCell ⟨H, 0, none⟩ (.slice none 0 0)).alloc (.cells #[.int .i64 (S : Int), .int .i64 (D : Int), .bool false] 194)) :=
      Below.alloc (Below.setCell (HB.out.trans (HB1.out.mono (by omega))) (Nat.le_refl _) _) (by simp [World.setCell]; omega) _
    exact bodyPost_ret (v := .tuple #[.agg #[.slice none 0 0], .int .i64 3]) (by simp [results, Tryz.results128, go_sem, r0]) rfl ⟨rfl, by show Below w.heap.size _ _; rw [HH.out]; exact hbF⟩
  · go_enter Tryz.func128, Tryz.ntmps128
    go_wp2_with fail
    refine cM.mono ?_
    rintro e w1 ⟨S, D, rfl, hS, hg, hb1⟩
    rw [HS.out] at hb1
    have hbx1 := (hb1.block H (by omega)).trans HBX.out
    have cz := cell_of_row w1 H 0 _ _ _ hbx1
    have fz := frozen_of_row w1 H 0 _ _ hbx1
    have HB1 := Lib.hid hb1
    have HX1 := Lib.hid hbx1
    have hH1 := heap_lt hbx1
    clear hbx1 hb1 cM hg
    rw [HH.out]
    go_wp2_with fail
    have r0 : ((w1.setCell ⟨H, 0, none⟩ (.slice none 0 0)).alloc (.cells #[.int .i64 (S : Int), .int .i64 (D : Int), .bool true] 194)).cell? ⟨H, 0, none⟩ = some (.slice none 0 0) := cell_of_row _ H 0 _ _ _ (block_alloc _ (block_set _ HX1.out))
    have hbF : Below H w ((w1.setCell ⟨H, 0, none⟩ (.slice none 0 0)).alloc (.cells #[.int .i64 (S : Int), .int .i64 (D : Int), .bool true] 194)) :=
      Below.alloc (Below.setCell (HB.out.trans (HB1.out.mono (by omega))) (Nat.le_refl _) _) (by simp [World.setCell]; omega) _
    exact bodyPost_ret (v := .tuple #[.agg #[.slice none 0 0], .int .i64 1]) (by simp [results, Tryz.results128, go_sem, r0]) rfl ⟨rfl, by show Below w.heap.size _ _; rw [HH.out]; exact hbF⟩
theorem pack_nil (w : World) (v : Value) (hv : HasT w v none) : Calls Tryz.prog 128 #[v] w (PnPost 1 w) :=
  pack_no true v w ((measured_any none _ (fun q => q < (w.alloc (.cells #[.slice none 0 0] 46)).heap.size) v (fun _ h => h) (hv.up ((Up.refl w).alloc _)) (by show (0 : Nat) ≤ 65536; omega)).mono fun e w' h => ⟨0, 0, h.1, by omega, (fun h => by cases h), h.2⟩)
theorem pack_big (t : Tr) (w : World) (v : Value) (hv : HasT w v (some t)) (hz : szT t ≤ 60000) (hb : 8192 < szT t) : Calls Tryz.prog 128 #[v] w (PnPost 3 w) :=
  pack_no false v w ((measured_any (some t) _ (fun q => q < (w.alloc (.cells #[.slice none 0 0] 46)).heap.size) v (fun _ h => h) (hv.up ((Up.refl w).alloc _)) (by show szT t ≤ 65536; omega)).mono fun e w' h => ⟨szT t, dpO (some t), h.1, by omega, fun _ => hb, h.2⟩)
set_option maxHeartbeats 1600000 in
set_option maxRecDepth 100000 in
theorem asked_no (k : FuncId) (z : Int) (hz : ¬ z = 0) (v : Value) (w : World) (cP : Calls Tryz.prog 128 #[v] w (PnPost z w)) : Calls Tryz.prog 75 #[v, .func (.func k) #[] #[]] w (InP z w) := by
  go_enter Tryz.func75, Tryz.ntmps75
  go_wp2_with fail
  refine cP.mono ?_
  rintro e w1 ⟨rfl, u1⟩
  go_wp2_with fail
  go_ret
  exact in_ret rfl (u1.alloc _)
set_option maxHeartbeats 3200000 in
set_option maxRecDepth 100000 in
theorem asked_ok (k : FuncId) (ek : Ent k) (t : Tr) (b : Bool) (v : Value) (w : World) (hx : B.Nx w) (hv : HasT w v (some t)) (hz : szT t ≤ 8192) (cT : TelAt k b t) :
    Calls Tryz.prog 75 #[v, .func (.func k) #[] #[]] w (InP (if 60 < dpT t then 7 else if b then 0 else 16) w) := by
  have cP := uPack t hv hz (Up.refl w)
  have cD : ∀ w', Up w w' → Calls Tryz.prog 129 #[v] w' (NuP (dpT t) w) := fun w' u => uDeep (some t) hv (by show szT t ≤ 65536; omega) u
  have cK : ∀ w', Up w w' → Calls Tryz.prog k #[v] w' (TelB b w') := fun w' u => cT w' v (Nx.up hx u) (hv.up u)
  obtain ⟨D, hD⟩ : ∃ D, dpT t = D := ⟨_, rfl⟩
  rw [hD] at cD ⊢
  clear hx hv hz cT hD
  by_cases hd : 60 < D
  · have hd' : (60 : Int) < (D : Int) := by omega
    rw [if_pos hd]
    go_enter Tryz.func75, Tryz.ntmps75
    go_wp2_with fail
    refine cP.mono ?_
    rintro e w1 ⟨v', rfl, hcl, u1⟩
    obtain ⟨A6, C6, rfl, -⟩ := id hcl
    clear hcl cP cK
    go_wp2_with fail
    refine (cD _ (u1.alloc _)).mono ?_
    rintro e w2 ⟨rfl, u2⟩
    go_wp2_with fail
    go_ret
    exact in_ret rfl u2
  · have hd' : ¬ (60 : Int) < (D : Int) := by omega
    rw [if_neg hd]
    cases b
    all_goals
      go_enter Tryz.func75, Tryz.ntmps75
      go_wp2_with fail
      refine cP.mono ?_
      rintro e w1 ⟨v', rfl, hcl, u1⟩
      obtain ⟨A6, C6, rfl, -⟩ := id hcl
      clear hcl cP
      go_wp2_with fail
      refine (cD _ (u1.alloc _)).mono ?_
      rintro e w2 ⟨rfl, u2⟩
      go_wp2_with fail
      rw [ek, Oper.upon_enter]
      refine (cK _ u2).mono ?_
      rintro e w3 ⟨rfl, u3⟩
      go_wp2_with fail
      go_ret
      exact in_ret rfl (u2.trans u3)
theorem in_up {z : Int} {W w : World} {P : Program} {k : FuncId} {args : Array Value} (u : Up W w) (h : Calls P k args w (InP z w)) : Calls P k args w (InP z W) := h.mono fun _ _ h => ⟨h.1, u.trans h.2⟩
theorem asked_any (k : FuncId) (ek : Ent k) (c : Int) (cT : ∀ t, szT t ≤ 60000 → okST t → TelAt k (isT B.nck B.long t c) t) (o : Option Tr) (hz : szO o ≤ 60000) (hs : okSO o) (W w : World) (v : Value) (hx : B.Nx W) (hv : HasT W v o) (hu : Up W w) :
    Calls Tryz.prog 75 #[v, .func (.func k) #[] #[]] w (InP (chk B.nck B.long o c) W) := by
  refine in_up hu ?_
  have hv' := hv.up hu
  have hx' := Nx.up hx hu
  cases o with
  | none => exact asked_no k 1 (by omega) v w (pack_nil w v hv')
  | some t =>
    have hz' : szT t ≤ 60000 := hz
    unfold chk
    simp only
    by_cases hb : 8192 < szT t
    · rw [if_pos hb]
      exact asked_no k 3 (by omega) v w (pack_big t w v hv' hz' hb)
    · rw [if_neg hb]
      exact asked_ok k ek t _ v w hx' hv' (by omega) (cT t hz' (hs t rfl))
theorem callType {z : Int} {W w : World} {v : Value} (h : Calls Tryz.prog 75 #[v, .func (.func 76) #[] #[]] w (InP z W)) : Calls Tryz.prog 37 #[v] w (InP z W) := by
  go_enter Tryz.func37, Tryz.ntmps37
  go_wp2_with fail
  refine h.mono ?_
  rintro e w1 ⟨rfl, u1⟩
  go_wp2_with fail
  go_ret
  exact in_ret rfl u1
theorem shpType : ShpAt 37 1 := fun o hz hs W w v hx hv hu => callType (asked_any 76 (fun _ _ => by kernel_rfl) 1 (fun t h hs => (nd_all _ t (Nat.le_refl _) h hs).1.a1) o hz hs W w v hx hv hu)
end Go.Proofs.YthonaeigacfmbaaGreatDoor
