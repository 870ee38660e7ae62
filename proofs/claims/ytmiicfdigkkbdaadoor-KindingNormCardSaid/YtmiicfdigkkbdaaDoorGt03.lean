/-
  The document's grow: what it tells.
-/
import Derived.Test.YtmiicfdigkkbdaaDoorGt02
import Derived.Deep.RegionLaw
namespace Go.Proofs.YtmiicfdigkkbdaaDoor
open Go.RowKit

theorem gr_eq {cs : List Cel} (h : okK cs) {i : Nat} (hi : i < cs.length) : gr cs cs.length i = ((cel cs i).x, rowOf ((cel cs i).ks.map fun x => gr cs cs.length x.toNat)) := by
  obtain ⟨n, hn⟩ : ∃ n, cs.length = n + 1 := ⟨cs.length - 1, by omega⟩
  have e : gr cs cs.length i = ((cel cs i).x, rowOf ((cel cs i).ks.map fun x => gr cs n x.toNat)) := by rw [hn]; rfl
  rw [e]
  congr 2
  refine List.map_congr_left fun x hx => ?_
  have hx' := h i _ (cel_lt hi) x hx
  exact gr_fuel h n cs.length x.toNat (by omega) (by omega) (by omega)
theorem three_blocks (w : World) (o1 o2 o3 : Obj) {H : Nat} (hH : w.heap.size = H) : (((w.alloc o1).alloc o2).alloc o3).heap[H]? = some o1 ∧ (((w.alloc o1).alloc o2).alloc o3).heap[H + 1]? = some o2 ∧ (((w.alloc o1).alloc o2).alloc o3).heap[H + 2]? = some o3 ∧
    Below H w (((w.alloc o1).alloc o2).alloc o3) ∧ (((w.alloc o1).alloc o2).alloc o3).heap.size = H + 3 := by
  have s1 : (w.alloc o1).heap.size = H + 1 := by simp; omega
  have s2 : ((w.alloc o1).alloc o2).heap.size = H + 2 := by simp; omega
  have a1 : (w.alloc o1).heap[H]? = some o1 := by rw [← hH]; exact heap_alloc_new w o1
  have a2 : ((w.alloc o1).alloc o2).heap[H + 1]? = some o2 := by rw [← s1]; exact heap_alloc_new _ o2
  have a3 : (((w.alloc o1).alloc o2).alloc o3).heap[H + 2]? = some o3 := by rw [← s2]; exact heap_alloc_new _ o3
  refine ⟨?_, ?_, a3, ((((Below.refl H w).alloc (by omega) o1).alloc (by omega) o2).alloc (by omega) o3), by simp; omega⟩
  · rw [Below.heap_alloc _ _ _ (by omega), Below.heap_alloc _ _ _ (by omega)]; exact a1
  · rw [Below.heap_alloc _ _ _ (by omega)]; exact a2
def No : Nat → Prop := fun _ => False
theorem grow_more {W1 wr w2 w4 : World} {H g4 cap4 k : Nat} {e : TypeId} {vk u : Value} {new : Fr} {x : Nod} {T : Tr} {ps : List Value} {ob : Obj} (hbw : Below (H + 2) W1 wr) (hb2 : Below wr.heap.size wr w2) (hHr : H + 2 < wr.heap.size)
    (hown : wr.ownsRow (H + 3) e 1 vk k ps) (hpt : PtF wr (Sk No (H + 2) wr vk) ps new) (hlen : new.len = k) (hnb2 : Nb w2 (H + 2) x vk) (hvH : vk.ownBlock ≠ some (H + 2)) (hvl : ∀ g, vk.ownBlock = some g → H + 3 ≤ g) (hv2 : InT w2 (Sin No wr w2) u T)
    (ho4 : w4.ownsRow (H + 3) e 1 (.slice (some ⟨g4, 0, none⟩) (k + 1) cap4) (k + 1) (ps ++ [u])) (hg4 : (w2.alloc ob).grownBy w4 vk.ownBlock) (hat4 : vk.ownBlock = some g4 ∨ g4 = w2.heap.size + 1) :
    ∃ ps', (w4.setCell ⟨H + 2, 4, none⟩ (.slice (some ⟨g4, 0, none⟩) (k + 1) cap4)).ownsRow (H + 3) e 1 (.slice (some ⟨g4, 0, none⟩) (k + 1) cap4) (k + 1) ps' ∧
      PtF (w4.setCell ⟨H + 2, 4, none⟩ (.slice (some ⟨g4, 0, none⟩) (k + 1) cap4)) (Sk No (H + 2) (w4.setCell ⟨H + 2, 4, none⟩ (.slice (some ⟨g4, 0, none⟩) (k + 1) cap4)) (.slice (some ⟨g4, 0, none⟩) (k + 1) cap4)) ps' (new.app (.cons T.1 T.2 .nil)) ∧
      Nb (w4.setCell ⟨H + 2, 4, none⟩ (.slice (some ⟨g4, 0, none⟩) (k + 1) cap4)) (H + 2) x (.slice (some ⟨g4, 0, none⟩) (k + 1) cap4) ∧ Below (H + 2) W1 (w4.setCell ⟨H + 2, 4, none⟩ (.slice (some ⟨g4, 0, none⟩) (k + 1) cap4)) ∧
      (Value.slice (some ⟨g4, 0, none⟩) (k + 1) cap4).ownBlock ≠ some (H + 2) ∧ (∀ g, (Value.slice (some ⟨g4, 0, none⟩) (k + 1) cap4).ownBlock = some g → H + 3 ≤ g) := by
  have hs2 := hb2.size
  have hpt2 : PtF w2 (Sk No (H + 2) w2 vk) ps new := hpt.keep (by
    rintro q' (h | ⟨h1, h2, h3⟩)
    · exact h.elim
    · exact .inr ⟨h1, by omega, h3⟩) fun pp hp => hb2.block _ (by
    rcases hp with h | h
    · exact h.elim
    · exact h.2.1)
  have hu2 : InT w2 (Sk No (H + 2) w2 vk) u T := hv2.keep (by
    rintro q' (h | ⟨h1, h2⟩)
    · exact h.elim
    · refine .inr ⟨by omega, h2, fun he => ?_⟩
      have := (hown.lt q' he).2
      omega) fun _ _ => rfl
  have hm := kid_more (w := W1) (t := T) (S := No) (fun q h => h.elim) (hbw.trans (hb2.mono (by omega))) hnb2 hpt2 hvH hu2 (by rw [hlen]; exact ho4) hg4 (by
    rcases hat4 with h | h
    · exact .inl h.symm
    · exact .inr (by rw [← h]; rfl)) hvl
  obtain ⟨⟨ps', ho', hp'⟩, hn', hb', hv1, hv2'⟩ := hm
  rw [Fr.len_app, hlen] at ho'
  exact ⟨ps', ho', hp', hn', hb', hv1, hv2'⟩
theorem row_next {ks : List Int} {k : Nat} {z : Int} (f : Int → Tr) (h : ks[k]? = some z) : rowOf ((ks.take (k + 1)).map f) = (rowOf ((ks.take k).map f)).app (.cons (f z).1 (f z).2 .nil) := by
  rw [List.take_add_one, h, List.map_append]
  exact rowOf_snoc _ _
set_option maxHeartbeats 6400000 in
set_option maxRecDepth 100000 in
theorem refGrow : ∀ (n : Nat) (cs : List Cel) (i : Nat), okK cs → i < cs.length → cs.length ≤ 8192 → (∀ (j : Nat) (c : Cel), cs[j]? = some c → c.ks.length ≤ 1000000) → i < n → ∀ (w : World) (C : Nat) (cv : Value), Cls w C cv cs → C ≤ w.heap.size →
    Calls Tryd.prog 37 #[.agg #[cv], .int .i64 (i : Int)] w (WiPost (gr cs cs.length i) No w)
  | 0, _, i, _, _, _, _, h, _, _, _, _, _ => absurd h (Nat.not_lt_zero _)
  | n + 1, cs, i, hok, hi, hN, hkl, hin, w, C, cv, hcl, hC => by
    have ih := refGrow n cs
    rw [gr_eq hok hi]
    have hkb := hok i _ (cel_lt hi)
    have hml := hkl i _ (cel_lt hi)
    have HKL := Lib.hid hkl
    clear hkl
    have HCL := Lib.hid hcl
    obtain ⟨A, c, rfl, hc, hcell⟩ := hcl
    obtain ⟨b, o, rfl, hb, h0, h1, h2, h3, kv, h4, hkv⟩ := hcell i _ (cel_lt hi)
    obtain ⟨⟨x, ks⟩, hx⟩ : ∃ u, cel cs i = u := ⟨_, rfl⟩
    rw [hx] at h0 h1 h2 h3 hkb hkv hml ⊢
    simp only at h0 h1 h2 h3 hkb hkv hml ⊢
    obtain ⟨KA, kc, rfl, hkc, hkcl⟩ := hkv
    obtain ⟨N, hN'⟩ : ∃ N, cs.length = N := ⟨_, rfl⟩
    rw [hN'] at hi hN hc ih ⊢
    have HOK := Lib.hid hok
    have HKB := Lib.hid hkb
    have HKC := Lib.hid hkcl
    have hiz : (i : Int) < (N : Int) := by omega
    have hbw : b < w.heap.size := by omega
    clear hcell hx hok hkb hkcl
    go_enter Tryd.func37, Tryd.ntmps37
    go_wp2_with fail
    obtain ⟨i0, hi0, hz0, hz1, hz2⟩ := info_parts infoPtr
    obtain ⟨H, hH⟩ : ∃ H, w.heap.size = H := ⟨_, rfl⟩
    obtain ⟨M, hM⟩ : ∃ M, ks.length = M := ⟨_, rfl⟩
    rw [hM] at hkc hml ⊢
    obtain ⟨CV, hCV⟩ : ∃ CV, Value.slice (some ⟨b, o, none⟩) N c = CV := ⟨_, rfl⟩
    obtain ⟨KV, hKV⟩ : ∃ KV, Value.slice KA M kc = KV := ⟨_, rfl⟩
    rw [hN', hCV] at HCL
    obtain ⟨t1, t2, t3, hb1, hs1⟩ := three_blocks w (.cells #[CV] 24) (.cells #[.int .i64 x.k, .int .i64 x.n, .string x.a, .string x.m, KV] 47) (.cells #[.int .i64 x.k, .int .i64 x.n, .string x.a, .string x.m, .slice none 0 0] 40) hH
    obtain ⟨W1, hW1⟩ : ∃ W1, W1 = (((w.alloc (.cells #[CV] 24)).alloc (.cells #[.int .i64 x.k, .int .i64 x.n, .string x.a, .string x.m, KV] 47)).alloc (.cells #[.int .i64 x.k, .int .i64 x.n, .string x.a, .string x.m, .slice none 0 0] 40)) := ⟨_, rfl⟩
    rw [← hW1] at t1 t2 t3 hb1 hs1
    have hcv := cell_of_row W1 H 0 _ _ _ t1
    have hkvc := cell_of_row W1 (H + 1) 4 _ _ _ t2
    have hnb1 : Nb W1 (H + 2) x (.slice none 0 0) := t3
    clear t1 t2 t3
    rw [hCV, hKV, ← hW1]
    rw [hH]
    have hCH : C ≤ H := by omega
    have HKV := Lib.hid hKV
    have HCV := Lib.hid hCV
    have HB1 := Lib.hid hb1
    have HH := Lib.hid hH
    have HMM := Lib.hid hM
    have HCV0 := Lib.hid hcv
    have HKV0 := Lib.hid hkvc
    have hM1 : M ≤ 1000000000 := by omega
    clear hW1 hb1 hCV hKV h0 h1 h2 h3 h4 hH hM hcv hkvc
    go_loopw [7] (fun j wr => ∃ (k : Nat) (vk : Value) (ps : List Value), j = .int .i64 k ∧ k ≤ M ∧ wr.ownsRow (H + 3) 25 1 vk k ps ∧ PtF wr (Sk No (H + 2) wr vk) ps (rowOf ((ks.take k).map fun x => gr cs N x.toNat)) ∧ Nb wr (H + 2) x vk ∧ Below (H + 2) W1 wr ∧ vk.ownBlock ≠ some (H + 2) ∧ (∀ g, vk.ownBlock = some g → H + 3 ≤ g)) (fun j _ => M - (intOf j).toNat)
    case atStart => exact ⟨0, .slice none 0 0, [], rfl, Nat.zero_le _, World.ownsRow_nil _ _ _ _, trivial, hnb1, Below.refl _ _, by simp [Value.ownBlock], by intro g hg; simp [Value.ownBlock] at hg⟩
    case round =>
      obtain ⟨k, vk, ps, rfl, hk, hown, hpt, hnb, hbw, hvH, hvl⟩ := hrel
      have hHr : H + 2 < wr.heap.size := heap_lt hnb
      have hcvr := (hbw.cell (p := ⟨H, 0, none⟩) (by simp only; omega)).trans HCV0.out
      have hkvr := (hbw.cell (p := ⟨H + 1, 4, none⟩) (by simp only; omega)).trans HKV0.out
      rw [← HKV.out] at hkvr
      have hbww : Below H w wr := HB1.out.trans (hbw.mono (by omega))
      have HOWN := Lib.hid hown
      have HPT := Lib.hid hpt
      have HNB := Lib.hid hnb
      have HBW := Lib.hid hbw
      have HBWW := Lib.hid hbww
      have HVH := Lib.hid hvH
      have HVL := Lib.hid hvl
      have cn : wr.cell? ⟨H + 1 + 1, 4, none⟩ = some vk := hnb.cell.1
      have cf : wr.frozen? ⟨H + 1 + 1, 4, none⟩ = false := hnb.cell.2
      clear hown hpt hbw hvH hvl hnb hbww
      by_cases hlt : k < M
      · obtain ⟨z, hz⟩ : ∃ z, ks[k]? = some z := ⟨_, List.getElem?_eq_getElem (by rw [HMM.out]; exact hlt)⟩
        have HROW := Lib.hid (row_next (fun x => gr cs N x.toNat) hz)
        obtain ⟨kb, ko, rfl, hkb2, hkcell0⟩ := HKC.out k z hz
        have hkcell := (HBWW.out.cell (p := ⟨kb, ko + k, none⟩) (by simp only; omega)).trans hkcell0
        obtain ⟨hz0', hz1'⟩ := HKB.out z (List.mem_of_getElem? hz)
        obtain ⟨m, rfl⟩ : ∃ m : Nat, z = (m : Int) := ⟨z.toNat, by omega⟩
        have hkz : (k : Int) < (M : Int) := by omega
        have hkz0 : (0 : Int) ≤ (k : Int) := by omega
        have cI := fun W (hW : Below wr.heap.size wr W) => ih m HOK.out (by omega) hN HKL.out (by omega) W C CV ((HCL.out.below (HBWW.out.mono hCH)).below (hW.mono (by omega))) (by have := hW.size; omega)
        clear hkcell0 hz0' hz1'
        go_wp2_with fail
        have l0 : H < wr.heap.size := by omega
        have l1 : H + 1 < wr.heap.size := by omega
        have l2 : kb < wr.heap.size := by omega
        have e0 : some H ≠ vk.ownBlock := fun e => by have := HVL.out H e.symm; omega
        have e1 : some (H + 1) ≠ vk.ownBlock := fun e => by have := HVL.out (H + 1) e.symm; omega
        have e2 : some kb ≠ vk.ownBlock := fun e => by have := HVL.out kb e.symm; omega
        go_region_law (first
            | (go_simp; go_at_call 37; refine (cI _ (by first | exact Below.refl _ _ | exact below_drewN' (Below.refl _ _) 1)).mono ?_; rintro e w2 ⟨v2, rfl, hv2, hb2'⟩; obtain ⟨q2, o2, rfl⟩ := hv2.ptr; have hv2 : InT w2 (Sin No wr w2) (.pointer (some ⟨q2, o2, none⟩)) (gr cs N m) := hv2; have hb2 : Below wr.heap.size wr w2 := (below_drewN' (Below.refl _ _) 1).trans hb2'; have HB2 := Lib.hid hb2; have hs2 := hb2.size; have HV2 := Lib.hid hv2; have HOWN2 := Lib.hid (own_below HOWN.out hb2); have HNB2 := Lib.hid (show Nb w2 (H + 2) x vk from heap_below HNB.out hb2); have hn2 : w2.cell? ⟨H + 1 + 1, 4, none⟩ = some vk := HNB2.out.cell.1; have hn3 : ∀ ob, (w2.alloc ob).cell? ⟨H + 1 + 1, 4, none⟩ = some vk := fun ob => (((Below.refl w2.heap.size w2).alloc (Nat.le_refl _) ob).cell (cell_lt hn2)).trans hn2; clear hv2 hb2 hb2')
            | (refine step_append_lies _ (by rfl) _ _ _ (by rfl) (H + 3) 25 i0 _ 1 8 Tryd.underlying33 hi0 hz0 hz1 hz2 rfl (by omega) vk k ps (by rfl) (HOWN2.out.alloc _) ⟨w2.heap.size, 0, none⟩ 1 1 [.pointer (some ⟨q2, o2, none⟩)] (by rfl) (by rfl) (cell_one_new _ _ _) (fun x hx => by simp at hx; subst hx; rfl) (by omega) (by unfold maxLen; omega) (by omega) (by simp; omega) (w2.heap.size + 1) (by simp) ?_; intro g4 cap4 w4 hown4 hgrow4 hat4 hlt4; have HOWN4 := Lib.hid hown4; have HG4 := Lib.hid hgrow4; have HAT4 := Lib.hid hat4; have hn4 := HNB2.out.far HG4.out HVH.out; have hc4 : w4.cell? ⟨H + 1 + 1, 4, none⟩ = some vk := hn4.cell.1; have hf4 : w4.frozen? ⟨H + 1 + 1, 4, none⟩ = false := hn4.cell.2; clear hown4 hgrow4 hat4 hn4))
        all_goals
          have HMORE := Lib.hid (grow_more HBW.out HB2.out hHr HOWN.out HPT.out (by rw [rowOf_len, List.length_map, List.length_take]; have := HMM.out; omega) HNB2.out HVH.out HVL.out HV2.out HOWN4.out HG4.out HAT4.out)
          go_wp2_with fail
          go_roundw
          case rel =>
            obtain ⟨ps', r1, r2, r3, r4, r5, r6⟩ := HMORE.out
            exact ⟨k + 1, _, ps', by go_num, by omega, r1, by rw [HROW.out, Int.toNat_natCast]; exact r2, r3, r4, r5, r6⟩
          case measure => simp [intOf]; omega
      · have hkM : k = M := by omega
        have hkz : ¬ (k : Int) < (M : Int) := by omega
        have HFIN : Hid (ks.take k = ks) := Lib.hid (List.take_of_length_le (by rw [HMM.out]; omega))
        have HLT := Lib.hid (fun g he => (HOWN.out.lt g he).2)
        have hlenr : (rowOf ((ks.take k).map fun x => gr cs N x.toNat)).len = k := by rw [rowOf_len, List.length_map, List.length_take]; have := HMM.out; omega
        have HLR := Lib.hid hlenr
        clear hkM hlenr
        go_wp2_with fail
        go_ret
        have hown := HOWN.out
        have hpt := HPT.out
        rw [← HLR.out] at hown
        have htree := OwnT.tree (x := x) (b := H + 2) ⟨ps, hown, hpt.keep (S' := Sin No w wr) (by
          rintro q' (h | ⟨h1, h2, h3⟩)
          · exact h.elim
          · exact .inr ⟨by rw [HH.out]; omega, h2⟩) fun _ _ => rfl⟩ HNB.out (.inr ⟨by rw [HH.out]; omega, hHr⟩) (fun g he => .inr ⟨by have := HVL.out g he; rw [HH.out]; omega, HLT.out g he⟩)
        rw [HFIN.out] at htree
        exact wi_ret htree (by rw [HH.out]; exact HBWW.out)
end Go.Proofs.YtmiicfdigkkbdaaDoor
