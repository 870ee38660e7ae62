/-
  A law's Few: cells cut, and opened (written by gfc.py out of XArF).
-/
import Derived.Test.YtmiicfdigkkbdaaDoorGt10
namespace Go.Proofs.YtmiicfdigkkbdaaDoor
open Go.RowKit

def cuA (s : ByteArray) : ByteArray := s.extract 0 (min s.size 165)
theorem two_blks (w : World) (o1 o2 : Obj) {H : Nat} (hH : w.heap.size = H) : ((w.alloc o1).alloc o2).heap[H]? = some o1 ∧ ((w.alloc o1).alloc o2).heap[H + 1]? = some o2 ∧ Below H w ((w.alloc o1).alloc o2) ∧ ((w.alloc o1).alloc o2).heap.size = H + 2 := by
  have s1 : (w.alloc o1).heap.size = H + 1 := by simp; omega
  have a1 : (w.alloc o1).heap[H]? = some o1 := by rw [← hH]; exact heap_alloc_new w o1
  have a2 : ((w.alloc o1).alloc o2).heap[H + 1]? = some o2 := by rw [← s1]; exact heap_alloc_new _ o2
  refine ⟨?_, a2, (((Below.refl H w).alloc (by omega) o1).alloc (by omega) o2), by simp; omega⟩
  rw [Below.heap_alloc _ _ _ (by omega)]; exact a1
def fwD10 (c : Cel) : Cel := ⟨⟨c.x.k, c.x.n, cuA c.x.a, trT c.x.m⟩, c.ks.take 12⟩
def fwL10 (cs : List Cel) : List Cel := (cs.take 60).map fwD10
theorem fwL10_len (cs : List Cel) : (fwL10 cs).length ≤ 60 := by unfold fwL10; rw [List.length_map, List.length_take]; omega
theorem fwL10_ks (cs : List Cel) : ∀ c ∈ fwL10 cs, c.ks.length ≤ 12 := by
  intro c hc
  obtain ⟨d, _, rfl⟩ := List.mem_map.1 hc
  show (d.ks.take 12).length ≤ 12
  rw [List.length_take]
  omega
theorem fwL10_next {cs : List Cel} {k : Nat} {c : Cel} (h : cs[k]? = some c) : (cs.take (k + 1)).map fwD10 = (cs.take k).map fwD10 ++ [fwD10 c] := by
  rw [List.take_add_one, h, List.map_append]
  rfl
theorem fwL10_end {cs : List Cel} {k : Nat} (h : k ≤ 60) (hk : k = cs.length ∨ k = 60) : fwL10 cs = (cs.take k).map fwD10 := by
  unfold fwL10
  rcases hk with rfl | rfl
  · rw [List.take_of_length_le h, List.take_of_length_le (Nat.le_refl _)]
  · rfl
theorem few_cut10 (wr : World) {CB MA MM : Nat} {x n : Int} {XA XM : ByteArray} {k : Value} (h1 : wr.heap.size = CB) (h2 : XA.extract 0 MA = cuA XA) (h3 : XM.extract 0 MM = trT XM) :
    (wr.alloc (.cells #[.int .i64 x, .int .i64 n, .string (XA.extract 0 MA), .string (XM.extract 0 MM), k] 47)).drew.heap[CB]? = some (.cells #[.int .i64 x, .int .i64 n, .string (cuA XA), .string (trT XM), k] 47 (0, 0)) ∧ Below wr.heap.size wr (wr.alloc (.cells #[.int .i64 x, .int .i64 n, .string (XA.extract 0 MA), .string (XM.extract 0 MM), k] 47)).drew := by
  rw [← h1, ← h2, ← h3]
  exact ⟨heap_alloc_new wr _, ((Below.refl _ _).alloc (Nat.le_refl _) _).drew⟩
def FcP10 (cs : List Cel) (W : World) (e : Ending) (w' : World) : Prop := ∃ v, e = .returned v ∧ InO w' (Nw W w') v (opR (fwL10 cs)).1 ∧ Up W w'
set_option maxHeartbeats 12800000 in
set_option maxRecDepth 100000 in
theorem few10 (cs : List Cel) (w : World) (cv : Value) (hcl : Cls w w.heap.size cv cs) (hz : ∀ c ∈ cs, c.x.a.size ≤ 9223372036854775807 ∧ c.x.m.size ≤ 9223372036854775807 ∧ c.ks.length ≤ 9223372036854775807) :
    Calls Tryd.prog 7 #[.agg #[cv]] w (FcP10 cs w) := by
  obtain ⟨A, c, rfl, hc, hcell⟩ := hcl
  have HCELL := Lib.hid hcell
  have HZ := Lib.hid hz
  obtain ⟨N, hN⟩ : ∃ N, cs.length = N := ⟨_, rfl⟩
  rw [hN]
  have HN := Lib.hid hN
  obtain ⟨H, hH⟩ : ∃ H, w.heap.size = H := ⟨_, rfl⟩
  have three := two_blks w (.cells #[.slice A N c] 24) (.cells #[.slice none 0 0] 24) hH
  have H3 := Lib.hid three
  have HH := Lib.hid hH
  obtain ⟨i0, hi, hz0, hz1, hz2⟩ := info_parts infoCel
  obtain ⟨j0, hj, hy0, hy1, hy2⟩ := info_parts infoI
  clear hcell hz hN hH three hc
  go_enter Tryd.func7, Tryd.ntmps7
  go_wp2_with fail
  rw [HH.out]
  go_loopw [4, 5] (fun i _ wr => ∃ (k : Nat) (vo : Value) (vs : List Value), i = .int .i64 k ∧ k ≤ N ∧ k ≤ 60 ∧ wr.ownsRow (H + 2) 47 5 vo k (flat ((cs.take k).map fwD10) vs) ∧ CsF wr (So (H + 2) wr vo) vs ((cs.take k).map fwD10) ∧ wr.heap[H + 1]? = some (.cells #[vo] 24 (0, 0)) ∧
    wr.heap[H]? = some (.cells #[.slice A N c] 24 (0, 0)) ∧ Below H w wr) (fun i _ _ => 61 - (intOf i).toNat)
  case atStart =>
    obtain ⟨t1, t3, hb1, hs1⟩ := H3.out
    exact ⟨0, .slice none 0 0, [], rfl, Nat.zero_le _, Nat.zero_le _, World.ownsRow_nil _ _ _ _, trivial, t3, t1, hb1⟩
  case round =>
    obtain ⟨k, vo, vs, rfl, hk, hk60, ho, hf, hx, hxH, hbw⟩ := hrel
    have hbs := hbw.size
    rw [HH.out] at hbs
    have hXr := heap_lt hx
    have cH : wr.cell? ⟨H, 0, none⟩ = some (.slice A N c) := cell_of_row wr H 0 _ _ _ hxH
    have cO : wr.cell? ⟨H + 1, 0, none⟩ = some vo := cell_of_row wr (H + 1) 0 _ _ _ hx
    have cO2 : wr.cell? ⟨H + 1, 0, none⟩ = some vo := cO
    have fO := frozen_of_row wr (H + 1) 0 _ _ hx
    have fO2 : wr.frozen? ⟨H + 1, 0, none⟩ = false := fO
    have hHr : H < wr.heap.size := by omega
    have HO := Lib.hid ho
    have HF := Lib.hid hf
    have HX := Lib.hid hx
    have HXH := Lib.hid hxH
    have HBW := Lib.hid hbw
    obtain ⟨VA, VC, rfl⟩ := own_slice5 ho
    clear ho hx hxH
    by_cases hlt : k < N
    · by_cases h60 : k < 60
      · obtain ⟨x, hx⟩ : ∃ x, cs[k]? = some x := ⟨_, List.getElem?_eq_getElem (by rw [HN.out]; exact hlt)⟩
        obtain ⟨b2, o, hA, hbb, hcel⟩ := HCELL.out k x hx
        subst hA
        rw [HH.out] at hbb
        obtain ⟨KA, kc, a0', a1', a2', a3', a4', hsp⟩ := hcel.open
        obtain ⟨z1, z2, z3⟩ := HZ.out x (List.mem_of_getElem? hx)
        have HNX := Lib.hid (fwL10_next hx)
        have a0 := (hbw.cell (p := ⟨b2, o + k * 5, none⟩) hbb).trans a0'
        have a1 := (hbw.cell (p := ⟨b2, o + k * 5 + 1, none⟩) hbb).trans a1'
        have a2 := (hbw.cell (p := ⟨b2, o + k * 5 + 2, none⟩) hbb).trans a2'
        have a3 := (hbw.cell (p := ⟨b2, o + k * 5 + 3, none⟩) hbb).trans a3'
        have a4 := (hbw.cell (p := ⟨b2, o + k * 5 + 4, none⟩) hbb).trans a4'
        obtain ⟨KA', kc', hkv, hkc, hkcl⟩ := hsp
        injection hkv with hq1 _ hq2
        subst hq1 hq2
        have HKC := Lib.hid hkcl
        obtain ⟨⟨XK, XN, XA, XM⟩, ks⟩ := x
        simp only at a0 a1 a2 a3 a4 z1 z2 z3 hkc hkcl
        have hkz : (k : Int) < (N : Int) := by omega
        have hk6z : (k : Int) < 60 := by omega
        have hb2r : b2 < wr.heap.size := by omega
        clear hx hcel a0' a1' a2' a3' a4' hf hbw hkcl
        obtain ⟨CB, hCB⟩ : ∃ CB, wr.heap.size = CB := ⟨_, rfl⟩
        have HCB := Lib.hid hCB
        obtain ⟨MA, hMA⟩ : ∃ MA : Nat, min XA.size 165 = MA := ⟨_, rfl⟩
        obtain ⟨MM, hMM⟩ : ∃ MM : Nat, min XM.size 20 = MM := ⟨_, rfl⟩
        have hma1 : (if (165 : Int) < (XA.size : Int) then (165 : Int) else (XA.size : Int)) = (MA : Int) := by split <;> omega
        have hmm1 : (if (20 : Int) < (XM.size : Int) then (20 : Int) else (XM.size : Int)) = (MM : Int) := by split <;> omega
        have hma2 : (MA : Int) ≤ (XA.size : Int) := by omega
        have hmm2 : (MM : Int) ≤ (XM.size : Int) := by omega
        have HTA : Hid (XA.extract 0 MA = cuA XA) := Lib.hid (by unfold cuA; rw [hMA])
        have HTM : Hid (XM.extract 0 MM = trT XM) := Lib.hid (by unfold trT; rw [hMM])
        clear hCB hMA hMM
        go_upto_region 6 with (fail)
        go_cut [] (fun wx => wx.heap[CB]? = some (.cells #[.int .i64 XK, .int .i64 XN, .string (cuA XA), .string (trT XM), .slice KA ks.length kc] 47 (0, 0)) ∧ Below wr.heap.size wr wx)
        case first =>
          clear cH cO cO2 fO fO2 a0 a1 a2 a3 a4 hkz hk6z hb2r z1 z2 z3 hkc HNX HKC HO HF HX HXH HBW hbb hk hk60 hXr hHr hbs hlt h60 hy0 hy1 hy2 hj hi hz0 hz1 hz2 H3 HZ HCELL
          refine wp_region_any (by kernel_rfl) ?_
          change wpAny _ _ _ _ _ _ _ (World.drew _)
          refine wtk (i := 0) rfl (by kernel_rfl) (by rfl) (v := ?_) ?_ ?_; rotate_left; · intro w; go_simp; try with_reducible rfl
          refine wtk (i := 2) rfl (by kernel_rfl) (by rfl) (v := ?_) ?_ ?_; rotate_left; · intro w; go_simp; try with_reducible rfl
          refine wtk (i := 7) rfl (by kernel_rfl) (by rfl) (v := ?_) ?_ ?_; rotate_left; · intro w; go_simp; try with_reducible rfl
          refine wtk (i := 9) rfl (by kernel_rfl) (by rfl) (v := ?_) ?_ ?_; rotate_left; · intro w; go_simp; try with_reducible rfl
          refine wpAny_ready (rs := [1, 3, 8, 10]) (by kernel_rfl) (by simp) <| AllReady.cons rfl (fun K hK => ?_) (AllReady.cons rfl (fun K hK => ?_) (AllReady.cons rfl (fun K hK => ?_) (AllReady.cons rfl (fun K hK => ?_) (AllReady.nil))))
          · go_simp
            refine hK _ _ ?_; clear hK K
            refine wpAny_ready (rs := [3, 8, 10]) (by kernel_rfl) (by simp) <| AllReady.cons rfl (fun K hK => ?_) (AllReady.cons rfl (fun K hK => ?_) (AllReady.cons rfl (fun K hK => ?_) (AllReady.nil)))
            · go_simp
              refine hK _ _ ?_; clear hK K
              refine wtk (i := 4) rfl (by kernel_rfl) (by rfl) (v := ?_) ?_ ?_; rotate_left; · intro w; go_simp; try with_reducible rfl
              refine wtk (i := 5) rfl (by kernel_rfl) (by rfl) (v := ?_) ?_ ?_; rotate_left; · intro w; go_simp; try with_reducible rfl
              refine wtk (i := 6) rfl (by kernel_rfl) (by rfl) (v := ?_) ?_ ?_; rotate_left; · intro w; go_simp; try with_reducible rfl
              refine wpAny_ready (rs := [8, 10]) (by kernel_rfl) (by simp) <| AllReady.cons rfl (fun K hK => ?_) (AllReady.cons rfl (fun K hK => ?_) (AllReady.nil))
              · go_simp
                refine hK _ _ ?_; clear hK K
                refine wpAny_ready (rs := [10]) (by kernel_rfl) (by simp) <| AllReady.cons rfl (fun K hK => ?_) (AllReady.nil)
                · go_simp
                  refine hK _ _ ?_; clear hK K
                  refine wtk (i := 11) rfl (by kernel_rfl) (by rfl) (v := ?_) ?_ ?_; rotate_left; · intro w; go_simp; try with_reducible rfl
                  refine wtk (i := 12) rfl (by kernel_rfl) (by rfl) (v := ?_) ?_ ?_; rotate_left; · intro w; go_simp; try with_reducible rfl
                  refine wtk (i := 13) rfl (by kernel_rfl) (by rfl) (v := ?_) ?_ ?_; rotate_left; · intro w; go_simp; try with_reducible rfl
                  refine wtk (i := 14) rfl (by kernel_rfl) (by rfl) (v := ?_) ?_ ?_; rotate_left; · intro w; go_simp; try with_reducible rfl
                  refine wpAny_ready (rs := [15]) (by kernel_rfl) (by simp) <| AllReady.cons rfl (fun K hK => ?_) (AllReady.nil)
                  · go_simp
                    refine hK _ _ ?_; clear hK K
                    refine wtk (i := 16) rfl (by kernel_rfl) (by rfl) (v := ?_) ?_ ?_; rotate_left; · intro w; go_simp; try with_reducible rfl
                    refine wpAny_ready (rs := [17]) (by kernel_rfl) (by simp) <| AllReady.cons rfl (fun K hK => ?_) (AllReady.nil)
                    · go_simp
                      refine hK _ _ ?_; clear hK K
                      refine wpAny_done (by kernel_rfl) ?_ _
                      go_wp2_with fail
                      go_meet
                      exact few_cut10 wr HCB.out HTA.out HTM.out
              · go_simp
                refine hK _ _ ?_; clear hK K
                refine wtk (i := 11) rfl (by kernel_rfl) (by rfl) (v := ?_) ?_ ?_; rotate_left; · intro w; go_simp; try with_reducible rfl
                refine wtk (i := 12) rfl (by kernel_rfl) (by rfl) (v := ?_) ?_ ?_; rotate_left; · intro w; go_simp; try with_reducible rfl
                refine wpAny_ready (rs := [8]) (by kernel_rfl) (by simp) <| AllReady.cons rfl (fun K hK => ?_) (AllReady.nil)
                · go_simp
                  refine hK _ _ ?_; clear hK K
                  refine wtk (i := 13) rfl (by kernel_rfl) (by rfl) (v := ?_) ?_ ?_; rotate_left; · intro w; go_simp; try with_reducible rfl
                  refine wtk (i := 14) rfl (by kernel_rfl) (by rfl) (v := ?_) ?_ ?_; rotate_left; · intro w; go_simp; try with_reducible rfl
                  refine wpAny_ready (rs := [15]) (by kernel_rfl) (by simp) <| AllReady.cons rfl (fun K hK => ?_) (AllReady.nil)
                  · go_simp
                    refine hK _ _ ?_; clear hK K
                    refine wtk (i := 16) rfl (by kernel_rfl) (by rfl) (v := ?_) ?_ ?_; rotate_left; · intro w; go_simp; try with_reducible rfl
                    refine wpAny_ready (rs := [17]) (by kernel_rfl) (by simp) <| AllReady.cons rfl (fun K hK => ?_) (AllReady.nil)
                    · go_simp
                      refine hK _ _ ?_; clear hK K
                      refine wpAny_done (by kernel_rfl) ?_ _
                      go_wp2_with fail
                      go_meet
                      exact few_cut10 wr HCB.out HTA.out HTM.out
            · go_simp
              refine hK _ _ ?_; clear hK K
              refine wpAny_ready (rs := [3, 10]) (by kernel_rfl) (by simp) <| AllReady.cons rfl (fun K hK => ?_) (AllReady.cons rfl (fun K hK => ?_) (AllReady.nil))
              · go_simp
                refine hK _ _ ?_; clear hK K
                refine wtk (i := 4) rfl (by kernel_rfl) (by rfl) (v := ?_) ?_ ?_; rotate_left; · intro w; go_simp; try with_reducible rfl
                refine wtk (i := 5) rfl (by kernel_rfl) (by rfl) (v := ?_) ?_ ?_; rotate_left; · intro w; go_simp; try with_reducible rfl
                refine wtk (i := 6) rfl (by kernel_rfl) (by rfl) (v := ?_) ?_ ?_; rotate_left; · intro w; go_simp; try with_reducible rfl
                refine wpAny_ready (rs := [10]) (by kernel_rfl) (by simp) <| AllReady.cons rfl (fun K hK => ?_) (AllReady.nil)
                · go_simp
                  refine hK _ _ ?_; clear hK K
                  refine wtk (i := 11) rfl (by kernel_rfl) (by rfl) (v := ?_) ?_ ?_; rotate_left; · intro w; go_simp; try with_reducible rfl
                  refine wtk (i := 12) rfl (by kernel_rfl) (by rfl) (v := ?_) ?_ ?_; rotate_left; · intro w; go_simp; try with_reducible rfl
                  refine wtk (i := 13) rfl (by kernel_rfl) (by rfl) (v := ?_) ?_ ?_; rotate_left; · intro w; go_simp; try with_reducible rfl
                  refine wtk (i := 14) rfl (by kernel_rfl) (by rfl) (v := ?_) ?_ ?_; rotate_left; · intro w; go_simp; try with_reducible rfl
                  refine wpAny_ready (rs := [15]) (by kernel_rfl) (by simp) <| AllReady.cons rfl (fun K hK => ?_) (AllReady.nil)
                  · go_simp
                    refine hK _ _ ?_; clear hK K
                    refine wtk (i := 16) rfl (by kernel_rfl) (by rfl) (v := ?_) ?_ ?_; rotate_left; · intro w; go_simp; try with_reducible rfl
                    refine wpAny_ready (rs := [17]) (by kernel_rfl) (by simp) <| AllReady.cons rfl (fun K hK => ?_) (AllReady.nil)
                    · go_simp
                      refine hK _ _ ?_; clear hK K
                      refine wpAny_done (by kernel_rfl) ?_ _
                      go_wp2_with fail
                      go_meet
                      exact few_cut10 wr HCB.out HTA.out HTM.out
              · go_simp
                refine hK _ _ ?_; clear hK K
                refine wtk (i := 11) rfl (by kernel_rfl) (by rfl) (v := ?_) ?_ ?_; rotate_left; · intro w; go_simp; try with_reducible rfl
                refine wtk (i := 12) rfl (by kernel_rfl) (by rfl) (v := ?_) ?_ ?_; rotate_left; · intro w; go_simp; try with_reducible rfl
                refine wtk (i := 13) rfl (by kernel_rfl) (by rfl) (v := ?_) ?_ ?_; rotate_left; · intro w; go_simp; try with_reducible rfl
                refine wpAny_ready (rs := [3]) (by kernel_rfl) (by simp) <| AllReady.cons rfl (fun K hK => ?_) (AllReady.nil)
                · go_simp
                  refine hK _ _ ?_; clear hK K
                  refine wtk (i := 4) rfl (by kernel_rfl) (by rfl) (v := ?_) ?_ ?_; rotate_left; · intro w; go_simp; try with_reducible rfl
                  refine wtk (i := 5) rfl (by kernel_rfl) (by rfl) (v := ?_) ?_ ?_; rotate_left; · intro w; go_simp; try with_reducible rfl
                  refine wtk (i := 6) rfl (by kernel_rfl) (by rfl) (v := ?_) ?_ ?_; rotate_left; · intro w; go_simp; try with_reducible rfl
                  refine wtk (i := 14) rfl (by kernel_rfl) (by rfl) (v := ?_) ?_ ?_; rotate_left; · intro w; go_simp; try with_reducible rfl
                  refine wpAny_ready (rs := [15]) (by kernel_rfl) (by simp) <| AllReady.cons rfl (fun K hK => ?_) (AllReady.nil)
                  · go_simp
                    refine hK _ _ ?_; clear hK K
                    refine wtk (i := 16) rfl (by kernel_rfl) (by rfl) (v := ?_) ?_ ?_; rotate_left; · intro w; go_simp; try with_reducible rfl
                    refine wpAny_ready (rs := [17]) (by kernel_rfl) (by simp) <| AllReady.cons rfl (fun K hK => ?_) (AllReady.nil)
                    · go_simp
                      refine hK _ _ ?_; clear hK K
                      refine wpAny_done (by kernel_rfl) ?_ _
                      go_wp2_with fail
                      go_meet
                      exact few_cut10 wr HCB.out HTA.out HTM.out
            · go_simp
              refine hK _ _ ?_; clear hK K
              refine wtk (i := 11) rfl (by kernel_rfl) (by rfl) (v := ?_) ?_ ?_; rotate_left; · intro w; go_simp; try with_reducible rfl
              refine wtk (i := 12) rfl (by kernel_rfl) (by rfl) (v := ?_) ?_ ?_; rotate_left; · intro w; go_simp; try with_reducible rfl
              refine wpAny_ready (rs := [3, 8]) (by kernel_rfl) (by simp) <| AllReady.cons rfl (fun K hK => ?_) (AllReady.cons rfl (fun K hK => ?_) (AllReady.nil))
              · go_simp
                refine hK _ _ ?_; clear hK K
                refine wtk (i := 4) rfl (by kernel_rfl) (by rfl) (v := ?_) ?_ ?_; rotate_left; · intro w; go_simp; try with_reducible rfl
                refine wtk (i := 5) rfl (by kernel_rfl) (by rfl) (v := ?_) ?_ ?_; rotate_left; · intro w; go_simp; try with_reducible rfl
                refine wtk (i := 6) rfl (by kernel_rfl) (by rfl) (v := ?_) ?_ ?_; rotate_left; · intro w; go_simp; try with_reducible rfl
                refine wpAny_ready (rs := [8]) (by kernel_rfl) (by simp) <| AllReady.cons rfl (fun K hK => ?_) (AllReady.nil)
                · go_simp
                  refine hK _ _ ?_; clear hK K
                  refine wtk (i := 13) rfl (by kernel_rfl) (by rfl) (v := ?_) ?_ ?_; rotate_left; · intro w; go_simp; try with_reducible rfl
                  refine wtk (i := 14) rfl (by kernel_rfl) (by rfl) (v := ?_) ?_ ?_; rotate_left; · intro w; go_simp; try with_reducible rfl
                  refine wpAny_ready (rs := [15]) (by kernel_rfl) (by simp) <| AllReady.cons rfl (fun K hK => ?_) (AllReady.nil)
                  · go_simp
                    refine hK _ _ ?_; clear hK K
                    refine wtk (i := 16) rfl (by kernel_rfl) (by rfl) (v := ?_) ?_ ?_; rotate_left; · intro w; go_simp; try with_reducible rfl
                    refine wpAny_ready (rs := [17]) (by kernel_rfl) (by simp) <| AllReady.cons rfl (fun K hK => ?_) (AllReady.nil)
                    · go_simp
                      refine hK _ _ ?_; clear hK K
                      refine wpAny_done (by kernel_rfl) ?_ _
                      go_wp2_with fail
                      go_meet
                      exact few_cut10 wr HCB.out HTA.out HTM.out
              · go_simp
                refine hK _ _ ?_; clear hK K
                refine wtk (i := 13) rfl (by kernel_rfl) (by rfl) (v := ?_) ?_ ?_; rotate_left; · intro w; go_simp; try with_reducible rfl
                refine wpAny_ready (rs := [3]) (by kernel_rfl) (by simp) <| AllReady.cons rfl (fun K hK => ?_) (AllReady.nil)
                · go_simp
                  refine hK _ _ ?_; clear hK K
                  refine wtk (i := 4) rfl (by kernel_rfl) (by rfl) (v := ?_) ?_ ?_; rotate_left; · intro w; go_simp; try with_reducible rfl
                  refine wtk (i := 5) rfl (by kernel_rfl) (by rfl) (v := ?_) ?_ ?_; rotate_left; · intro w; go_simp; try with_reducible rfl
                  refine wtk (i := 6) rfl (by kernel_rfl) (by rfl) (v := ?_) ?_ ?_; rotate_left; · intro w; go_simp; try with_reducible rfl
                  refine wtk (i := 14) rfl (by kernel_rfl) (by rfl) (v := ?_) ?_ ?_; rotate_left; · intro w; go_simp; try with_reducible rfl
                  refine wpAny_ready (rs := [15]) (by kernel_rfl) (by simp) <| AllReady.cons rfl (fun K hK => ?_) (AllReady.nil)
                  · go_simp
                    refine hK _ _ ?_; clear hK K
                    refine wtk (i := 16) rfl (by kernel_rfl) (by rfl) (v := ?_) ?_ ?_; rotate_left; · intro w; go_simp; try with_reducible rfl
                    refine wpAny_ready (rs := [17]) (by kernel_rfl) (by simp) <| AllReady.cons rfl (fun K hK => ?_) (AllReady.nil)
                    · go_simp
                      refine hK _ _ ?_; clear hK K
                      refine wpAny_done (by kernel_rfl) ?_ _
                      go_wp2_with fail
                      go_meet
                      exact few_cut10 wr HCB.out HTA.out HTM.out
          · go_simp
            refine hK _ _ ?_; clear hK K
            refine wtk (i := 4) rfl (by kernel_rfl) (by rfl) (v := ?_) ?_ ?_; rotate_left; · intro w; go_simp; try with_reducible rfl
            refine wtk (i := 5) rfl (by kernel_rfl) (by rfl) (v := ?_) ?_ ?_; rotate_left; · intro w; go_simp; try with_reducible rfl
            refine wpAny_ready (rs := [1, 8, 10]) (by kernel_rfl) (by simp) <| AllReady.cons rfl (fun K hK => ?_) (AllReady.cons rfl (fun K hK => ?_) (AllReady.cons rfl (fun K hK => ?_) (AllReady.nil)))
            · go_simp
              refine hK _ _ ?_; clear hK K
              refine wtk (i := 6) rfl (by kernel_rfl) (by rfl) (v := ?_) ?_ ?_; rotate_left; · intro w; go_simp; try with_reducible rfl
              refine wpAny_ready (rs := [8, 10]) (by kernel_rfl) (by simp) <| AllReady.cons rfl (fun K hK => ?_) (AllReady.cons rfl (fun K hK => ?_) (AllReady.nil))
              · go_simp
                refine hK _ _ ?_; clear hK K
                refine wpAny_ready (rs := [10]) (by kernel_rfl) (by simp) <| AllReady.cons rfl (fun K hK => ?_) (AllReady.nil)
                · go_simp
                  refine hK _ _ ?_; clear hK K
                  refine wtk (i := 11) rfl (by kernel_rfl) (by rfl) (v := ?_) ?_ ?_; rotate_left; · intro w; go_simp; try with_reducible rfl
                  refine wtk (i := 12) rfl (by kernel_rfl) (by rfl) (v := ?_) ?_ ?_; rotate_left; · intro w; go_simp; try with_reducible rfl
                  refine wtk (i := 13) rfl (by kernel_rfl) (by rfl) (v := ?_) ?_ ?_; rotate_left; · intro w; go_simp; try with_reducible rfl
                  refine wtk (i := 14) rfl (by kernel_rfl) (by rfl) (v := ?_) ?_ ?_; rotate_left; · intro w; go_simp; try with_reducible rfl
                  refine wpAny_ready (rs := [15]) (by kernel_rfl) (by simp) <| AllReady.cons rfl (fun K hK => ?_) (AllReady.nil)
                  · go_simp
                    refine hK _ _ ?_; clear hK K
                    refine wtk (i := 16) rfl (by kernel_rfl) (by rfl) (v := ?_) ?_ ?_; rotate_left; · intro w; go_simp; try with_reducible rfl
                    refine wpAny_ready (rs := [17]) (by kernel_rfl) (by simp) <| AllReady.cons rfl (fun K hK => ?_) (AllReady.nil)
                    · go_simp
                      refine hK _ _ ?_; clear hK K
                      refine wpAny_done (by kernel_rfl) ?_ _
                      go_wp2_with fail
                      go_meet
                      exact few_cut10 wr HCB.out HTA.out HTM.out
              · go_simp
                refine hK _ _ ?_; clear hK K
                refine wtk (i := 11) rfl (by kernel_rfl) (by rfl) (v := ?_) ?_ ?_; rotate_left; · intro w; go_simp; try with_reducible rfl
                refine wtk (i := 12) rfl (by kernel_rfl) (by rfl) (v := ?_) ?_ ?_; rotate_left; · intro w; go_simp; try with_reducible rfl
                refine wpAny_ready (rs := [8]) (by kernel_rfl) (by simp) <| AllReady.cons rfl (fun K hK => ?_) (AllReady.nil)
                · go_simp
                  refine hK _ _ ?_; clear hK K
                  refine wtk (i := 13) rfl (by kernel_rfl) (by rfl) (v := ?_) ?_ ?_; rotate_left; · intro w; go_simp; try with_reducible rfl
                  refine wtk (i := 14) rfl (by kernel_rfl) (by rfl) (v := ?_) ?_ ?_; rotate_left; · intro w; go_simp; try with_reducible rfl
                  refine wpAny_ready (rs := [15]) (by kernel_rfl) (by simp) <| AllReady.cons rfl (fun K hK => ?_) (AllReady.nil)
                  · go_simp
                    refine hK _ _ ?_; clear hK K
                    refine wtk (i := 16) rfl (by kernel_rfl) (by rfl) (v := ?_) ?_ ?_; rotate_left; · intro w; go_simp; try with_reducible rfl
                    refine wpAny_ready (rs := [17]) (by kernel_rfl) (by simp) <| AllReady.cons rfl (fun K hK => ?_) (AllReady.nil)
                    · go_simp
                      refine hK _ _ ?_; clear hK K
                      refine wpAny_done (by kernel_rfl) ?_ _
                      go_wp2_with fail
                      go_meet
                      exact few_cut10 wr HCB.out HTA.out HTM.out
            · go_simp
              refine hK _ _ ?_; clear hK K
              refine wpAny_ready (rs := [1, 10]) (by kernel_rfl) (by simp) <| AllReady.cons rfl (fun K hK => ?_) (AllReady.cons rfl (fun K hK => ?_) (AllReady.nil))
              · go_simp
                refine hK _ _ ?_; clear hK K
                refine wtk (i := 6) rfl (by kernel_rfl) (by rfl) (v := ?_) ?_ ?_; rotate_left; · intro w; go_simp; try with_reducible rfl
                refine wpAny_ready (rs := [10]) (by kernel_rfl) (by simp) <| AllReady.cons rfl (fun K hK => ?_) (AllReady.nil)
                · go_simp
                  refine hK _ _ ?_; clear hK K
                  refine wtk (i := 11) rfl (by kernel_rfl) (by rfl) (v := ?_) ?_ ?_; rotate_left; · intro w; go_simp; try with_reducible rfl
                  refine wtk (i := 12) rfl (by kernel_rfl) (by rfl) (v := ?_) ?_ ?_; rotate_left; · intro w; go_simp; try with_reducible rfl
                  refine wtk (i := 13) rfl (by kernel_rfl) (by rfl) (v := ?_) ?_ ?_; rotate_left; · intro w; go_simp; try with_reducible rfl
                  refine wtk (i := 14) rfl (by kernel_rfl) (by rfl) (v := ?_) ?_ ?_; rotate_left; · intro w; go_simp; try with_reducible rfl
                  refine wpAny_ready (rs := [15]) (by kernel_rfl) (by simp) <| AllReady.cons rfl (fun K hK => ?_) (AllReady.nil)
                  · go_simp
                    refine hK _ _ ?_; clear hK K
                    refine wtk (i := 16) rfl (by kernel_rfl) (by rfl) (v := ?_) ?_ ?_; rotate_left; · intro w; go_simp; try with_reducible rfl
                    refine wpAny_ready (rs := [17]) (by kernel_rfl) (by simp) <| AllReady.cons rfl (fun K hK => ?_) (AllReady.nil)
                    · go_simp
                      refine hK _ _ ?_; clear hK K
                      refine wpAny_done (by kernel_rfl) ?_ _
                      go_wp2_with fail
                      go_meet
                      exact few_cut10 wr HCB.out HTA.out HTM.out
              · go_simp
                refine hK _ _ ?_; clear hK K
                refine wtk (i := 11) rfl (by kernel_rfl) (by rfl) (v := ?_) ?_ ?_; rotate_left; · intro w; go_simp; try with_reducible rfl
                refine wtk (i := 12) rfl (by kernel_rfl) (by rfl) (v := ?_) ?_ ?_; rotate_left; · intro w; go_simp; try with_reducible rfl
                refine wtk (i := 13) rfl (by kernel_rfl) (by rfl) (v := ?_) ?_ ?_; rotate_left; · intro w; go_simp; try with_reducible rfl
                refine wpAny_ready (rs := [1]) (by kernel_rfl) (by simp) <| AllReady.cons rfl (fun K hK => ?_) (AllReady.nil)
                · go_simp
                  refine hK _ _ ?_; clear hK K
                  refine wtk (i := 6) rfl (by kernel_rfl) (by rfl) (v := ?_) ?_ ?_; rotate_left; · intro w; go_simp; try with_reducible rfl
                  refine wtk (i := 14) rfl (by kernel_rfl) (by rfl) (v := ?_) ?_ ?_; rotate_left; · intro w; go_simp; try with_reducible rfl
                  refine wpAny_ready (rs := [15]) (by kernel_rfl) (by simp) <| AllReady.cons rfl (fun K hK => ?_) (AllReady.nil)
                  · go_simp
                    refine hK _ _ ?_; clear hK K
                    refine wtk (i := 16) rfl (by kernel_rfl) (by rfl) (v := ?_) ?_ ?_; rotate_left; · intro w; go_simp; try with_reducible rfl
                    refine wpAny_ready (rs := [17]) (by kernel_rfl) (by simp) <| AllReady.cons rfl (fun K hK => ?_) (AllReady.nil)
                    · go_simp
                      refine hK _ _ ?_; clear hK K
                      refine wpAny_done (by kernel_rfl) ?_ _
                      go_wp2_with fail
                      go_meet
                      exact few_cut10 wr HCB.out HTA.out HTM.out
            · go_simp
              refine hK _ _ ?_; clear hK K
              refine wtk (i := 11) rfl (by kernel_rfl) (by rfl) (v := ?_) ?_ ?_; rotate_left; · intro w; go_simp; try with_reducible rfl
              refine wtk (i := 12) rfl (by kernel_rfl) (by rfl) (v := ?_) ?_ ?_; rotate_left; · intro w; go_simp; try with_reducible rfl
              refine wpAny_ready (rs := [1, 8]) (by kernel_rfl) (by simp) <| AllReady.cons rfl (fun K hK => ?_) (AllReady.cons rfl (fun K hK => ?_) (AllReady.nil))
              · go_simp
                refine hK _ _ ?_; clear hK K
                refine wtk (i := 6) rfl (by kernel_rfl) (by rfl) (v := ?_) ?_ ?_; rotate_left; · intro w; go_simp; try with_reducible rfl
                refine wpAny_ready (rs := [8]) (by kernel_rfl) (by simp) <| AllReady.cons rfl (fun K hK => ?_) (AllReady.nil)
                · go_simp
                  refine hK _ _ ?_; clear hK K
                  refine wtk (i := 13) rfl (by kernel_rfl) (by rfl) (v := ?_) ?_ ?_; rotate_left; · intro w; go_simp; try with_reducible rfl
                  refine wtk (i := 14) rfl (by kernel_rfl) (by rfl) (v := ?_) ?_ ?_; rotate_left; · intro w; go_simp; try with_reducible rfl
                  refine wpAny_ready (rs := [15]) (by kernel_rfl) (by simp) <| AllReady.cons rfl (fun K hK => ?_) (AllReady.nil)
                  · go_simp
                    refine hK _ _ ?_; clear hK K
                    refine wtk (i := 16) rfl (by kernel_rfl) (by rfl) (v := ?_) ?_ ?_; rotate_left; · intro w; go_simp; try with_reducible rfl
                    refine wpAny_ready (rs := [17]) (by kernel_rfl) (by simp) <| AllReady.cons rfl (fun K hK => ?_) (AllReady.nil)
                    · go_simp
                      refine hK _ _ ?_; clear hK K
                      refine wpAny_done (by kernel_rfl) ?_ _
                      go_wp2_with fail
                      go_meet
                      exact few_cut10 wr HCB.out HTA.out HTM.out
              · go_simp
                refine hK _ _ ?_; clear hK K
                refine wtk (i := 13) rfl (by kernel_rfl) (by rfl) (v := ?_) ?_ ?_; rotate_left; · intro w; go_simp; try with_reducible rfl
                refine wpAny_ready (rs := [1]) (by kernel_rfl) (by simp) <| AllReady.cons rfl (fun K hK => ?_) (AllReady.nil)
                · go_simp
                  refine hK _ _ ?_; clear hK K
                  refine wtk (i := 6) rfl (by kernel_rfl) (by rfl) (v := ?_) ?_ ?_; rotate_left; · intro w; go_simp; try with_reducible rfl
                  refine wtk (i := 14) rfl (by kernel_rfl) (by rfl) (v := ?_) ?_ ?_; rotate_left; · intro w; go_simp; try with_reducible rfl
                  refine wpAny_ready (rs := [15]) (by kernel_rfl) (by simp) <| AllReady.cons rfl (fun K hK => ?_) (AllReady.nil)
                  · go_simp
                    refine hK _ _ ?_; clear hK K
                    refine wtk (i := 16) rfl (by kernel_rfl) (by rfl) (v := ?_) ?_ ?_; rotate_left; · intro w; go_simp; try with_reducible rfl
                    refine wpAny_ready (rs := [17]) (by kernel_rfl) (by simp) <| AllReady.cons rfl (fun K hK => ?_) (AllReady.nil)
                    · go_simp
                      refine hK _ _ ?_; clear hK K
                      refine wpAny_done (by kernel_rfl) ?_ _
                      go_wp2_with fail
                      go_meet
                      exact few_cut10 wr HCB.out HTA.out HTM.out
          · go_simp
            refine hK _ _ ?_; clear hK K
            refine wpAny_ready (rs := [1, 3, 10]) (by kernel_rfl) (by simp) <| AllReady.cons rfl (fun K hK => ?_) (AllReady.cons rfl (fun K hK => ?_) (AllReady.cons rfl (fun K hK => ?_) (AllReady.nil)))
            · go_simp
              refine hK _ _ ?_; clear hK K
              refine wpAny_ready (rs := [3, 10]) (by kernel_rfl) (by simp) <| AllReady.cons rfl (fun K hK => ?_) (AllReady.cons rfl (fun K hK => ?_) (AllReady.nil))
              · go_simp
                refine hK _ _ ?_; clear hK K
                refine wtk (i := 4) rfl (by kernel_rfl) (by rfl) (v := ?_) ?_ ?_; rotate_left; · intro w; go_simp; try with_reducible rfl
                refine wtk (i := 5) rfl (by kernel_rfl) (by rfl) (v := ?_) ?_ ?_; rotate_left; · intro w; go_simp; try with_reducible rfl
                refine wtk (i := 6) rfl (by kernel_rfl) (by rfl) (v := ?_) ?_ ?_; rotate_left; · intro w; go_simp; try with_reducible rfl
                refine wpAny_ready (rs := [10]) (by kernel_rfl) (by simp) <| AllReady.cons rfl (fun K hK => ?_) (AllReady.nil)
                · go_simp
                  refine hK _ _ ?_; clear hK K
                  refine wtk (i := 11) rfl (by kernel_rfl) (by rfl) (v := ?_) ?_ ?_; rotate_left; · intro w; go_simp; try with_reducible rfl
                  refine wtk (i := 12) rfl (by kernel_rfl) (by rfl) (v := ?_) ?_ ?_; rotate_left; · intro w; go_simp; try with_reducible rfl
                  refine wtk (i := 13) rfl (by kernel_rfl) (by rfl) (v := ?_) ?_ ?_; rotate_left; · intro w; go_simp; try with_reducible rfl
                  refine wtk (i := 14) rfl (by kernel_rfl) (by rfl) (v := ?_) ?_ ?_; rotate_left; · intro w; go_simp; try with_reducible rfl
                  refine wpAny_ready (rs := [15]) (by kernel_rfl) (by simp) <| AllReady.cons rfl (fun K hK => ?_) (AllReady.nil)
                  · go_simp
                    refine hK _ _ ?_; clear hK K
                    refine wtk (i := 16) rfl (by kernel_rfl) (by rfl) (v := ?_) ?_ ?_; rotate_left; · intro w; go_simp; try with_reducible rfl
                    refine wpAny_ready (rs := [17]) (by kernel_rfl) (by simp) <| AllReady.cons rfl (fun K hK => ?_) (AllReady.nil)
                    · go_simp
                      refine hK _ _ ?_; clear hK K
                      refine wpAny_done (by kernel_rfl) ?_ _
                      go_wp2_with fail
                      go_meet
                      exact few_cut10 wr HCB.out HTA.out HTM.out
              · go_simp
                refine hK _ _ ?_; clear hK K
                refine wtk (i := 11) rfl (by kernel_rfl) (by rfl) (v := ?_) ?_ ?_; rotate_left; · intro w; go_simp; try with_reducible rfl
                refine wtk (i := 12) rfl (by kernel_rfl) (by rfl) (v := ?_) ?_ ?_; rotate_left; · intro w; go_simp; try with_reducible rfl
                refine wtk (i := 13) rfl (by kernel_rfl) (by rfl) (v := ?_) ?_ ?_; rotate_left; · intro w; go_simp; try with_reducible rfl
                refine wpAny_ready (rs := [3]) (by kernel_rfl) (by simp) <| AllReady.cons rfl (fun K hK => ?_) (AllReady.nil)
                · go_simp
                  refine hK _ _ ?_; clear hK K
                  refine wtk (i := 4) rfl (by kernel_rfl) (by rfl) (v := ?_) ?_ ?_; rotate_left; · intro w; go_simp; try with_reducible rfl
                  refine wtk (i := 5) rfl (by kernel_rfl) (by rfl) (v := ?_) ?_ ?_; rotate_left; · intro w; go_simp; try with_reducible rfl
                  refine wtk (i := 6) rfl (by kernel_rfl) (by rfl) (v := ?_) ?_ ?_; rotate_left; · intro w; go_simp; try with_reducible rfl
                  refine wtk (i := 14) rfl (by kernel_rfl) (by rfl) (v := ?_) ?_ ?_; rotate_left; · intro w; go_simp; try with_reducible rfl
                  refine wpAny_ready (rs := [15]) (by kernel_rfl) (by simp) <| AllReady.cons rfl (fun K hK => ?_) (AllReady.nil)
                  · go_simp
                    refine hK _ _ ?_; clear hK K
                    refine wtk (i := 16) rfl (by kernel_rfl) (by rfl) (v := ?_) ?_ ?_; rotate_left; · intro w; go_simp; try with_reducible rfl
                    refine wpAny_ready (rs := [17]) (by kernel_rfl) (by simp) <| AllReady.cons rfl (fun K hK => ?_) (AllReady.nil)
                    · go_simp
                      refine hK _ _ ?_; clear hK K
                      refine wpAny_done (by kernel_rfl) ?_ _
                      go_wp2_with fail
                      go_meet
                      exact few_cut10 wr HCB.out HTA.out HTM.out
            · go_simp
              refine hK _ _ ?_; clear hK K
              refine wtk (i := 4) rfl (by kernel_rfl) (by rfl) (v := ?_) ?_ ?_; rotate_left; · intro w; go_simp; try with_reducible rfl
              refine wtk (i := 5) rfl (by kernel_rfl) (by rfl) (v := ?_) ?_ ?_; rotate_left; · intro w; go_simp; try with_reducible rfl
              refine wpAny_ready (rs := [1, 10]) (by kernel_rfl) (by simp) <| AllReady.cons rfl (fun K hK => ?_) (AllReady.cons rfl (fun K hK => ?_) (AllReady.nil))
              · go_simp
                refine hK _ _ ?_; clear hK K
                refine wtk (i := 6) rfl (by kernel_rfl) (by rfl) (v := ?_) ?_ ?_; rotate_left; · intro w; go_simp; try with_reducible rfl
                refine wpAny_ready (rs := [10]) (by kernel_rfl) (by simp) <| AllReady.cons rfl (fun K hK => ?_) (AllReady.nil)
                · go_simp
                  refine hK _ _ ?_; clear hK K
                  refine wtk (i := 11) rfl (by kernel_rfl) (by rfl) (v := ?_) ?_ ?_; rotate_left; · intro w; go_simp; try with_reducible rfl
                  refine wtk (i := 12) rfl (by kernel_rfl) (by rfl) (v := ?_) ?_ ?_; rotate_left; · intro w; go_simp; try with_reducible rfl
                  refine wtk (i := 13) rfl (by kernel_rfl) (by rfl) (v := ?_) ?_ ?_; rotate_left; · intro w; go_simp; try with_reducible rfl
                  refine wtk (i := 14) rfl (by kernel_rfl) (by rfl) (v := ?_) ?_ ?_; rotate_left; · intro w; go_simp; try with_reducible rfl
                  refine wpAny_ready (rs := [15]) (by kernel_rfl) (by simp) <| AllReady.cons rfl (fun K hK => ?_) (AllReady.nil)
                  · go_simp
                    refine hK _ _ ?_; clear hK K
                    refine wtk (i := 16) rfl (by kernel_rfl) (by rfl) (v := ?_) ?_ ?_; rotate_left; · intro w; go_simp; try with_reducible rfl
                    refine wpAny_ready (rs := [17]) (by kernel_rfl) (by simp) <| AllReady.cons rfl (fun K hK => ?_) (AllReady.nil)
                    · go_simp
                      refine hK _ _ ?_; clear hK K
                      refine wpAny_done (by kernel_rfl) ?_ _
                      go_wp2_with fail
                      go_meet
                      exact few_cut10 wr HCB.out HTA.out HTM.out
              · go_simp
                refine hK _ _ ?_; clear hK K
                refine wtk (i := 11) rfl (by kernel_rfl) (by rfl) (v := ?_) ?_ ?_; rotate_left; · intro w; go_simp; try with_reducible rfl
                refine wtk (i := 12) rfl (by kernel_rfl) (by rfl) (v := ?_) ?_ ?_; rotate_left; · intro w; go_simp; try with_reducible rfl
                refine wtk (i := 13) rfl (by kernel_rfl) (by rfl) (v := ?_) ?_ ?_; rotate_left; · intro w; go_simp; try with_reducible rfl
                refine wpAny_ready (rs := [1]) (by kernel_rfl) (by simp) <| AllReady.cons rfl (fun K hK => ?_) (AllReady.nil)
                · go_simp
                  refine hK _ _ ?_; clear hK K
                  refine wtk (i := 6) rfl (by kernel_rfl) (by rfl) (v := ?_) ?_ ?_; rotate_left; · intro w; go_simp; try with_reducible rfl
                  refine wtk (i := 14) rfl (by kernel_rfl) (by rfl) (v := ?_) ?_ ?_; rotate_left; · intro w; go_simp; try with_reducible rfl
                  refine wpAny_ready (rs := [15]) (by kernel_rfl) (by simp) <| AllReady.cons rfl (fun K hK => ?_) (AllReady.nil)
                  · go_simp
                    refine hK _ _ ?_; clear hK K
                    refine wtk (i := 16) rfl (by kernel_rfl) (by rfl) (v := ?_) ?_ ?_; rotate_left; · intro w; go_simp; try with_reducible rfl
                    refine wpAny_ready (rs := [17]) (by kernel_rfl) (by simp) <| AllReady.cons rfl (fun K hK => ?_) (AllReady.nil)
                    · go_simp
                      refine hK _ _ ?_; clear hK K
                      refine wpAny_done (by kernel_rfl) ?_ _
                      go_wp2_with fail
                      go_meet
                      exact few_cut10 wr HCB.out HTA.out HTM.out
            · go_simp
              refine hK _ _ ?_; clear hK K
              refine wtk (i := 11) rfl (by kernel_rfl) (by rfl) (v := ?_) ?_ ?_; rotate_left; · intro w; go_simp; try with_reducible rfl
              refine wtk (i := 12) rfl (by kernel_rfl) (by rfl) (v := ?_) ?_ ?_; rotate_left; · intro w; go_simp; try with_reducible rfl
              refine wtk (i := 13) rfl (by kernel_rfl) (by rfl) (v := ?_) ?_ ?_; rotate_left; · intro w; go_simp; try with_reducible rfl
              refine wpAny_ready (rs := [1, 3]) (by kernel_rfl) (by simp) <| AllReady.cons rfl (fun K hK => ?_) (AllReady.cons rfl (fun K hK => ?_) (AllReady.nil))
              · go_simp
                refine hK _ _ ?_; clear hK K
                refine wpAny_ready (rs := [3]) (by kernel_rfl) (by simp) <| AllReady.cons rfl (fun K hK => ?_) (AllReady.nil)
                · go_simp
                  refine hK _ _ ?_; clear hK K
                  refine wtk (i := 4) rfl (by kernel_rfl) (by rfl) (v := ?_) ?_ ?_; rotate_left; · intro w; go_simp; try with_reducible rfl
                  refine wtk (i := 5) rfl (by kernel_rfl) (by rfl) (v := ?_) ?_ ?_; rotate_left; · intro w; go_simp; try with_reducible rfl
                  refine wtk (i := 6) rfl (by kernel_rfl) (by rfl) (v := ?_) ?_ ?_; rotate_left; · intro w; go_simp; try with_reducible rfl
                  refine wtk (i := 14) rfl (by kernel_rfl) (by rfl) (v := ?_) ?_ ?_; rotate_left; · intro w; go_simp; try with_reducible rfl
                  refine wpAny_ready (rs := [15]) (by kernel_rfl) (by simp) <| AllReady.cons rfl (fun K hK => ?_) (AllReady.nil)
                  · go_simp
                    refine hK _ _ ?_; clear hK K
                    refine wtk (i := 16) rfl (by kernel_rfl) (by rfl) (v := ?_) ?_ ?_; rotate_left; · intro w; go_simp; try with_reducible rfl
                    refine wpAny_ready (rs := [17]) (by kernel_rfl) (by simp) <| AllReady.cons rfl (fun K hK => ?_) (AllReady.nil)
                    · go_simp
                      refine hK _ _ ?_; clear hK K
                      refine wpAny_done (by kernel_rfl) ?_ _
                      go_wp2_with fail
                      go_meet
                      exact few_cut10 wr HCB.out HTA.out HTM.out
              · go_simp
                refine hK _ _ ?_; clear hK K
                refine wtk (i := 4) rfl (by kernel_rfl) (by rfl) (v := ?_) ?_ ?_; rotate_left; · intro w; go_simp; try with_reducible rfl
                refine wtk (i := 5) rfl (by kernel_rfl) (by rfl) (v := ?_) ?_ ?_; rotate_left; · intro w; go_simp; try with_reducible rfl
                refine wpAny_ready (rs := [1]) (by kernel_rfl) (by simp) <| AllReady.cons rfl (fun K hK => ?_) (AllReady.nil)
                · go_simp
                  refine hK _ _ ?_; clear hK K
                  refine wtk (i := 6) rfl (by kernel_rfl) (by rfl) (v := ?_) ?_ ?_; rotate_left; · intro w; go_simp; try with_reducible rfl
                  refine wtk (i := 14) rfl (by kernel_rfl) (by rfl) (v := ?_) ?_ ?_; rotate_left; · intro w; go_simp; try with_reducible rfl
                  refine wpAny_ready (rs := [15]) (by kernel_rfl) (by simp) <| AllReady.cons rfl (fun K hK => ?_) (AllReady.nil)
                  · go_simp
                    refine hK _ _ ?_; clear hK K
                    refine wtk (i := 16) rfl (by kernel_rfl) (by rfl) (v := ?_) ?_ ?_; rotate_left; · intro w; go_simp; try with_reducible rfl
                    refine wpAny_ready (rs := [17]) (by kernel_rfl) (by simp) <| AllReady.cons rfl (fun K hK => ?_) (AllReady.nil)
                    · go_simp
                      refine hK _ _ ?_; clear hK K
                      refine wpAny_done (by kernel_rfl) ?_ _
                      go_wp2_with fail
                      go_meet
                      exact few_cut10 wr HCB.out HTA.out HTM.out
          · go_simp
            refine hK _ _ ?_; clear hK K
            refine wtk (i := 11) rfl (by kernel_rfl) (by rfl) (v := ?_) ?_ ?_; rotate_left; · intro w; go_simp; try with_reducible rfl
            refine wtk (i := 12) rfl (by kernel_rfl) (by rfl) (v := ?_) ?_ ?_; rotate_left; · intro w; go_simp; try with_reducible rfl
            refine wpAny_ready (rs := [1, 3, 8]) (by kernel_rfl) (by simp) <| AllReady.cons rfl (fun K hK => ?_) (AllReady.cons rfl (fun K hK => ?_) (AllReady.cons rfl (fun K hK => ?_) (AllReady.nil)))
            · go_simp
              refine hK _ _ ?_; clear hK K
              refine wpAny_ready (rs := [3, 8]) (by kernel_rfl) (by simp) <| AllReady.cons rfl (fun K hK => ?_) (AllReady.cons rfl (fun K hK => ?_) (AllReady.nil))
              · go_simp
                refine hK _ _ ?_; clear hK K
                refine wtk (i := 4) rfl (by kernel_rfl) (by rfl) (v := ?_) ?_ ?_; rotate_left; · intro w; go_simp; try with_reducible rfl
                refine wtk (i := 5) rfl (by kernel_rfl) (by rfl) (v := ?_) ?_ ?_; rotate_left; · intro w; go_simp; try with_reducible rfl
                refine wtk (i := 6) rfl (by kernel_rfl) (by rfl) (v := ?_) ?_ ?_; rotate_left; · intro w; go_simp; try with_reducible rfl
                refine wpAny_ready (rs := [8]) (by kernel_rfl) (by simp) <| AllReady.cons rfl (fun K hK => ?_) (AllReady.nil)
                · go_simp
                  refine hK _ _ ?_; clear hK K
                  refine wtk (i := 13) rfl (by kernel_rfl) (by rfl) (v := ?_) ?_ ?_; rotate_left; · intro w; go_simp; try with_reducible rfl
                  refine wtk (i := 14) rfl (by kernel_rfl) (by rfl) (v := ?_) ?_ ?_; rotate_left; · intro w; go_simp; try with_reducible rfl
                  refine wpAny_ready (rs := [15]) (by kernel_rfl) (by simp) <| AllReady.cons rfl (fun K hK => ?_) (AllReady.nil)
                  · go_simp
                    refine hK _ _ ?_; clear hK K
                    refine wtk (i := 16) rfl (by kernel_rfl) (by rfl) (v := ?_) ?_ ?_; rotate_left; · intro w; go_simp; try with_reducible rfl
                    refine wpAny_ready (rs := [17]) (by kernel_rfl) (by simp) <| AllReady.cons rfl (fun K hK => ?_) (AllReady.nil)
                    · go_simp
                      refine hK _ _ ?_; clear hK K
                      refine wpAny_done (by kernel_rfl) ?_ _
                      go_wp2_with fail
                      go_meet
                      exact few_cut10 wr HCB.out HTA.out HTM.out
              · go_simp
                refine hK _ _ ?_; clear hK K
                refine wtk (i := 13) rfl (by kernel_rfl) (by rfl) (v := ?_) ?_ ?_; rotate_left; · intro w; go_simp; try with_reducible rfl
                refine wpAny_ready (rs := [3]) (by kernel_rfl) (by simp) <| AllReady.cons rfl (fun K hK => ?_) (AllReady.nil)
                · go_simp
                  refine hK _ _ ?_; clear hK K
                  refine wtk (i := 4) rfl (by kernel_rfl) (by rfl) (v := ?_) ?_ ?_; rotate_left; · intro w; go_simp; try with_reducible rfl
                  refine wtk (i := 5) rfl (by kernel_rfl) (by rfl) (v := ?_) ?_ ?_; rotate_left; · intro w; go_simp; try with_reducible rfl
                  refine wtk (i := 6) rfl (by kernel_rfl) (by rfl) (v := ?_) ?_ ?_; rotate_left; · intro w; go_simp; try with_reducible rfl
                  refine wtk (i := 14) rfl (by kernel_rfl) (by rfl) (v := ?_) ?_ ?_; rotate_left; · intro w; go_simp; try with_reducible rfl
                  refine wpAny_ready (rs := [15]) (by kernel_rfl) (by simp) <| AllReady.cons rfl (fun K hK => ?_) (AllReady.nil)
                  · go_simp
                    refine hK _ _ ?_; clear hK K
                    refine wtk (i := 16) rfl (by kernel_rfl) (by rfl) (v := ?_) ?_ ?_; rotate_left; · intro w; go_simp; try with_reducible rfl
                    refine wpAny_ready (rs := [17]) (by kernel_rfl) (by simp) <| AllReady.cons rfl (fun K hK => ?_) (AllReady.nil)
                    · go_simp
                      refine hK _ _ ?_; clear hK K
                      refine wpAny_done (by kernel_rfl) ?_ _
                      go_wp2_with fail
                      go_meet
                      exact few_cut10 wr HCB.out HTA.out HTM.out
            · go_simp
              refine hK _ _ ?_; clear hK K
              refine wtk (i := 4) rfl (by kernel_rfl) (by rfl) (v := ?_) ?_ ?_; rotate_left; · intro w; go_simp; try with_reducible rfl
              refine wtk (i := 5) rfl (by kernel_rfl) (by rfl) (v := ?_) ?_ ?_; rotate_left; · intro w; go_simp; try with_reducible rfl
              refine wpAny_ready (rs := [1, 8]) (by kernel_rfl) (by simp) <| AllReady.cons rfl (fun K hK => ?_) (AllReady.cons rfl (fun K hK => ?_) (AllReady.nil))
              · go_simp
                refine hK _ _ ?_; clear hK K
                refine wtk (i := 6) rfl (by kernel_rfl) (by rfl) (v := ?_) ?_ ?_; rotate_left; · intro w; go_simp; try with_reducible rfl
                refine wpAny_ready (rs := [8]) (by kernel_rfl) (by simp) <| AllReady.cons rfl (fun K hK => ?_) (AllReady.nil)
                · go_simp
                  refine hK _ _ ?_; clear hK K
                  refine wtk (i := 13) rfl (by kernel_rfl) (by rfl) (v := ?_) ?_ ?_; rotate_left; · intro w; go_simp; try with_reducible rfl
                  refine wtk (i := 14) rfl (by kernel_rfl) (by rfl) (v := ?_) ?_ ?_; rotate_left; · intro w; go_simp; try with_reducible rfl
                  refine wpAny_ready (rs := [15]) (by kernel_rfl) (by simp) <| AllReady.cons rfl (fun K hK => ?_) (AllReady.nil)
                  · go_simp
                    refine hK _ _ ?_; clear hK K
                    refine wtk (i := 16) rfl (by kernel_rfl) (by rfl) (v := ?_) ?_ ?_; rotate_left; · intro w; go_simp; try with_reducible rfl
                    refine wpAny_ready (rs := [17]) (by kernel_rfl) (by simp) <| AllReady.cons rfl (fun K hK => ?_) (AllReady.nil)
                    · go_simp
                      refine hK _ _ ?_; clear hK K
                      refine wpAny_done (by kernel_rfl) ?_ _
                      go_wp2_with fail
                      go_meet
                      exact few_cut10 wr HCB.out HTA.out HTM.out
              · go_simp
                refine hK _ _ ?_; clear hK K
                refine wtk (i := 13) rfl (by kernel_rfl) (by rfl) (v := ?_) ?_ ?_; rotate_left; · intro w; go_simp; try with_reducible rfl
                refine wpAny_ready (rs := [1]) (by kernel_rfl) (by simp) <| AllReady.cons rfl (fun K hK => ?_) (AllReady.nil)
                · go_simp
                  refine hK _ _ ?_; clear hK K
                  refine wtk (i := 6) rfl (by kernel_rfl) (by rfl) (v := ?_) ?_ ?_; rotate_left; · intro w; go_simp; try with_reducible rfl
                  refine wtk (i := 14) rfl (by kernel_rfl) (by rfl) (v := ?_) ?_ ?_; rotate_left; · intro w; go_simp; try with_reducible rfl
                  refine wpAny_ready (rs := [15]) (by kernel_rfl) (by simp) <| AllReady.cons rfl (fun K hK => ?_) (AllReady.nil)
                  · go_simp
                    refine hK _ _ ?_; clear hK K
                    refine wtk (i := 16) rfl (by kernel_rfl) (by rfl) (v := ?_) ?_ ?_; rotate_left; · intro w; go_simp; try with_reducible rfl
                    refine wpAny_ready (rs := [17]) (by kernel_rfl) (by simp) <| AllReady.cons rfl (fun K hK => ?_) (AllReady.nil)
                    · go_simp
                      refine hK _ _ ?_; clear hK K
                      refine wpAny_done (by kernel_rfl) ?_ _
                      go_wp2_with fail
                      go_meet
                      exact few_cut10 wr HCB.out HTA.out HTM.out
            · go_simp
              refine hK _ _ ?_; clear hK K
              refine wtk (i := 13) rfl (by kernel_rfl) (by rfl) (v := ?_) ?_ ?_; rotate_left; · intro w; go_simp; try with_reducible rfl
              refine wpAny_ready (rs := [1, 3]) (by kernel_rfl) (by simp) <| AllReady.cons rfl (fun K hK => ?_) (AllReady.cons rfl (fun K hK => ?_) (AllReady.nil))
              · go_simp
                refine hK _ _ ?_; clear hK K
                refine wpAny_ready (rs := [3]) (by kernel_rfl) (by simp) <| AllReady.cons rfl (fun K hK => ?_) (AllReady.nil)
                · go_simp
                  refine hK _ _ ?_; clear hK K
                  refine wtk (i := 4) rfl (by kernel_rfl) (by rfl) (v := ?_) ?_ ?_; rotate_left; · intro w; go_simp; try with_reducible rfl
                  refine wtk (i := 5) rfl (by kernel_rfl) (by rfl) (v := ?_) ?_ ?_; rotate_left; · intro w; go_simp; try with_reducible rfl
                  refine wtk (i := 6) rfl (by kernel_rfl) (by rfl) (v := ?_) ?_ ?_; rotate_left; · intro w; go_simp; try with_reducible rfl
                  refine wtk (i := 14) rfl (by kernel_rfl) (by rfl) (v := ?_) ?_ ?_; rotate_left; · intro w; go_simp; try with_reducible rfl
                  refine wpAny_ready (rs := [15]) (by kernel_rfl) (by simp) <| AllReady.cons rfl (fun K hK => ?_) (AllReady.nil)
                  · go_simp
                    refine hK _ _ ?_; clear hK K
                    refine wtk (i := 16) rfl (by kernel_rfl) (by rfl) (v := ?_) ?_ ?_; rotate_left; · intro w; go_simp; try with_reducible rfl
                    refine wpAny_ready (rs := [17]) (by kernel_rfl) (by simp) <| AllReady.cons rfl (fun K hK => ?_) (AllReady.nil)
                    · go_simp
                      refine hK _ _ ?_; clear hK K
                      refine wpAny_done (by kernel_rfl) ?_ _
                      go_wp2_with fail
                      go_meet
                      exact few_cut10 wr HCB.out HTA.out HTM.out
              · go_simp
                refine hK _ _ ?_; clear hK K
                refine wtk (i := 4) rfl (by kernel_rfl) (by rfl) (v := ?_) ?_ ?_; rotate_left; · intro w; go_simp; try with_reducible rfl
                refine wtk (i := 5) rfl (by kernel_rfl) (by rfl) (v := ?_) ?_ ?_; rotate_left; · intro w; go_simp; try with_reducible rfl
                refine wpAny_ready (rs := [1]) (by kernel_rfl) (by simp) <| AllReady.cons rfl (fun K hK => ?_) (AllReady.nil)
                · go_simp
                  refine hK _ _ ?_; clear hK K
                  refine wtk (i := 6) rfl (by kernel_rfl) (by rfl) (v := ?_) ?_ ?_; rotate_left; · intro w; go_simp; try with_reducible rfl
                  refine wtk (i := 14) rfl (by kernel_rfl) (by rfl) (v := ?_) ?_ ?_; rotate_left; · intro w; go_simp; try with_reducible rfl
                  refine wpAny_ready (rs := [15]) (by kernel_rfl) (by simp) <| AllReady.cons rfl (fun K hK => ?_) (AllReady.nil)
                  · go_simp
                    refine hK _ _ ?_; clear hK K
                    refine wtk (i := 16) rfl (by kernel_rfl) (by rfl) (v := ?_) ?_ ?_; rotate_left; · intro w; go_simp; try with_reducible rfl
                    refine wpAny_ready (rs := [17]) (by kernel_rfl) (by simp) <| AllReady.cons rfl (fun K hK => ?_) (AllReady.nil)
                    · go_simp
                      refine hK _ _ ?_; clear hK K
                      refine wpAny_done (by kernel_rfl) ?_ _
                      go_wp2_with fail
                      go_meet
                      exact few_cut10 wr HCB.out HTA.out HTM.out
        case rest =>
          obtain ⟨hcb, hb5⟩ := hcut
          rw [HCB.out] at hb5
          have hs5 := hb5.size
          rw [HCB.out] at hs5
          have hCBc := heap_lt hcb
          have c1 : wc.cell? ⟨CB, 0, none⟩ = some (.int .i64 XK) := cell_of_row wc CB 0 _ _ _ hcb
          have c2 : wc.cell? ⟨CB, 1, none⟩ = some (.int .i64 XN) := cell_of_row wc CB 1 _ _ _ hcb
          have c3 : wc.cell? ⟨CB, 2, none⟩ = some (.string (cuA XA)) := cell_of_row wc CB 2 _ _ _ hcb
          have c4 : wc.cell? ⟨CB, 3, none⟩ = some (.string (trT XM)) := cell_of_row wc CB 3 _ _ _ hcb
          have c5 : wc.cell? ⟨CB, 4, none⟩ = some (.slice KA ks.length kc) := cell_of_row wc CB 4 _ _ _ hcb
          have hrB := HCB.out
          have HB5 := Lib.hid hb5
          have HCUT := Lib.hid hcb
          obtain ⟨MK, hMK⟩ : ∃ MK : Nat, min ks.length 12 = MK := ⟨_, rfl⟩
          have hmk1 : (if (12 : Int) < (ks.length : Int) then (12 : Int) else (ks.length : Int)) = (MK : Int) := by split <;> omega
          have hmk2 : (MK : Int) ≤ (ks.length : Int) := by omega
          have hmk3 : (MK : Int) ≤ (kc : Int) := by omega
          have htl : (ks.take 12).length = MK := by rw [List.length_take]; omega
          obtain ⟨v6, w6, hr6, hkv6, hb6⟩ := run_kids wc KA MK kc (ks.take 12) htl (fun j u hu => by
            have hj12 : j < 12 := by have := (List.getElem?_eq_some_iff.1 hu).1; rw [List.length_take] at this; omega
            rw [List.getElem?_take_of_lt hj12] at hu
            obtain ⟨b, o, h1, h2, h3⟩ := HKC.out j u hu
            have hbH : b < H := by rw [← HH.out]; exact h2
            exact ⟨b, o, h1, by omega, (hb5.cell (p := ⟨b, o + j, none⟩) (by simp only; omega)).trans ((HBW.out.cell (p := ⟨b, o + j, none⟩) hbH).trans h3)⟩) (by omega)
          obtain ⟨A6, c6, hv6, hc6, -⟩ := id hkv6
          rw [htl] at hv6
          subst hv6
          have HKV := Lib.hid hkv6
          have HB6 := Lib.hid hb6
          have hs6 := hb6.size
          have hcb6 := (hb6.block CB hCBc).trans hcb
          have f5 := frozen_of_row w6 CB 4 _ _ hcb6
          have e5 : w6.cell? ⟨CB, 4, none⟩ = some (.slice KA ks.length kc) := cell_of_row w6 CB 4 _ _ _ hcb6
          have hbr6 : Below wr.heap.size wr w6 := by rw [hrB]; exact hb5.trans (hb6.mono hs5)
          have HR6 := Lib.hid hr6
          have HCB6 := Lib.hid hcb6
          have HBR6 := Lib.hid hbr6
          obtain ⟨KN, hKN⟩ : ∃ KN : Nat, ks.length = KN := ⟨_, rfl⟩
          rw [hKN] at c5 hmk1 hmk2
          have HKN := Lib.hid hKN
          have HMK := Lib.hid hMK
          have hst7 : ∀ b, b < w6.heap.size → b ≠ CB → (w6.setCell ⟨CB, 4, none⟩ (.slice A6 MK c6)).heap[b]? = w6.heap[b]? := fun b h1 h2 => Below.heap_setCell _ _ _ _ h2
          have hbr7 : Below wr.heap.size wr (w6.setCell ⟨CB, 4, none⟩ (.slice A6 MK c6)) := hbr6.setCell (by simp only; omega) _
          have hsz7 : (w6.setCell ⟨CB, 4, none⟩ (.slice A6 MK c6)).heap.size = w6.heap.size := by simp [World.setCell]
          have hcb7 : (w6.setCell ⟨CB, 4, none⟩ (.slice A6 MK c6)).heap[CB]? = some (.cells #[.int .i64 XK, .int .i64 XN, .string (cuA XA), .string (trT XM), .slice A6 MK c6] 47 (0, 0)) := by
            rw [block_set _ hcb6]; rfl
          have d1 : (w6.setCell ⟨CB, 4, none⟩ (.slice A6 MK c6)).cell? ⟨CB, 0, none⟩ = some (.int .i64 XK) := cell_of_row _ CB 0 _ _ _ hcb7
          have d2 : (w6.setCell ⟨CB, 4, none⟩ (.slice A6 MK c6)).cell? ⟨CB, 1, none⟩ = some (.int .i64 XN) := cell_of_row _ CB 1 _ _ _ hcb7
          have d3 : (w6.setCell ⟨CB, 4, none⟩ (.slice A6 MK c6)).cell? ⟨CB, 2, none⟩ = some (.string (cuA XA)) := cell_of_row _ CB 2 _ _ _ hcb7
          have d4 : (w6.setCell ⟨CB, 4, none⟩ (.slice A6 MK c6)).cell? ⟨CB, 3, none⟩ = some (.string (trT XM)) := cell_of_row _ CB 3 _ _ _ hcb7
          have d5 : (w6.setCell ⟨CB, 4, none⟩ (.slice A6 MK c6)).cell? ⟨CB, 4, none⟩ = some (.slice A6 MK c6) := cell_of_row _ CB 4 _ _ _ hcb7
          have cO7 : (w6.setCell ⟨CB, 4, none⟩ (.slice A6 MK c6)).cell? ⟨H + 1, 0, none⟩ = some (.slice VA k VC) := (hbr7.cell (p := ⟨H + 1, 0, none⟩) (by simp only; omega)).trans cO2
          have HO7 := Lib.hid (own_below HO.out hbr7)
          have HK7 := Lib.hid ((hkv6.keep (S' := fun q => wr.heap.size ≤ q ∧ q < (w6.setCell ⟨CB, 4, none⟩ (.slice A6 MK c6)).heap.size) (fun q hq => ⟨by omega, by rw [hsz7]; exact hq.2⟩) fun b hb => hst7 b hb.2 (by omega)))
          have HX7 := Lib.hid ((hbr7.block (H + 1) hXr).trans HX.out)
          have HBR7 := Lib.hid hbr7
          have HN7 := Lib.hid (heap_alloc_new (w6.setCell ⟨CB, 4, none⟩ (.slice A6 MK c6)) (.cells #[.int .i64 XK, .int .i64 XN, .string (cuA XA), .string (trT XM), .slice A6 MK c6] 47))
          have H1K := Lib.hid hkv6.one
          clear hMK hKN hcb hb5 HTA HTM hma1 hma2 hmm1 hmm2 cO cO2 fO fO2 a0 a1 a2 a3 a4 z1 z2 hkv6 hb6 hr6 hcb6 hbr6 htl hst7 hbr7 hcb7
          go_wp2_with (first
            | (at_builtin; refine wpList_app (.tmp 40) (.tmp 47) 45 rfl rfl rfl rfl HR6.out ?_)
            | (at_builtin; (refine wpList_append_own_at _ rfl _ _ 22 rfl (H + 2) 47 i0 _ 5 72 Tryd.underlying22 hi hz0 hz1 hz2 rfl (by decide) (.slice VA k VC) k (flat ((cs.take k).map fwD10) vs) rfl (HO7.out.alloc _) ⟨w6.heap.size, 0, none⟩ 1 1 [.int .i64 XK, .int .i64 XN, .string (cuA XA), .string (trT XM), .slice A6 MK c6] rfl rfl (by rw [← hsz7]; exact five_news HN7.out) (fun u hu => five_one H1K.out u hu) (by unfold maxLen; omega) (by omega) (by simp; omega) ?_); intro v8 w8 hown8 hgrow8 _ hat8; obtain ⟨A8, C8, hv8⟩ := own_slice5 hown8; subst hv8; have hx8 := ob_grown HO7.out (OB := H + 1) (by omega) (by rw [hsz7]; omega) hgrow8 HX7.out; have k8 : w8.cell? ⟨H + 1, 0, none⟩ = some (.slice VA k VC) := cell_of_row w8 (H + 1) 0 _ _ _ hx8; have f8 : w8.frozen? ⟨H + 1, 0, none⟩ = false := frozen_of_row w8 (H + 1) 0 _ _ hx8; have HOWN8 := Lib.hid hown8; have HG8 := Lib.hid hgrow8; have HAT8 := Lib.hid hat8; clear hown8 hgrow8 hat8))
          go_roundw
          case rel =>
            have hlen : ((cs.take k).map fwD10).length = k := by rw [List.length_map, List.length_take]; have := HN.out; omega
            have hmore := few_more (w := w) (wr := wr) (w5 := w6.setCell ⟨CB, 4, none⟩ (.slice A6 MK c6)) (w6 := w8) (H := H) (OB := H + 1) (B := H + 2) (vo := .slice VA k VC) (v6 := .slice A8 (k + 1) C8) (kv := .slice A6 MK c6) (c := fwD10 ⟨⟨XK, XN, XA, XM⟩, ks⟩) (out := (cs.take k).map fwD10) (vs := vs) (by omega) (by omega) (by omega) HBW.out (by rw [hlen]; exact HO.out) HF.out HBR7.out HX.out HK7.out (by rw [hlen]; exact HOWN8.out) HG8.out (HAT8.out.imp id fun e => by rw [e]; simp)
            obtain ⟨m1, m2, m3, m4, m5⟩ := hmore
            rw [List.length_append, hlen, List.length_singleton] at m1
            refine ⟨k + 1, .slice A8 (k + 1) C8, vs ++ [.slice A6 MK c6], by go_num, by omega, by omega, ?_, ?_, m3, ?_, m4⟩
            · rw [HNX.out]; exact m1
            · rw [HNX.out]; exact m2
            · exact (m5 H (by omega) (by omega) (fun e => by have := (HO.out.lt H e).1; omega)).trans HXH.out
          case measure => simp [intOf]; omega
      · have hk6z : ¬ (k : Int) < 60 := by omega
        have hkz : (k : Int) < (N : Int) := by omega
        have HE := Lib.hid (fwL10_end (cs := cs) hk60 (.inr (by omega)))
        have hlen : ((cs.take k).map fwD10).length = k := by rw [List.length_map, List.length_take]; have := HN.out; omega
        have hown : OwnC wr (H + 2) (.slice VA k VC) (fwL10 cs) := by rw [HE.out]; exact ⟨vs, by rw [hlen]; exact HO.out, HF.out⟩
        have cO9 := refOpen (fwL10 cs) wr (.slice VA k VC) hown.cls (fun j c hc => by have := fwL10_ks cs c (List.mem_of_getElem? hc); omega) (by have := fwL10_len cs; omega)
        have HUW : Hid (Up w wr) := Lib.hid (by have h := HBW.out; rw [← HH.out] at h; exact h)
        clear hf hlen hown HE
        go_wp2_with fail
        refine cO9.mono ?_
        rintro e w9 ⟨v9, rfl, h9, u9⟩
        have H9 := Lib.hid h9
        have U9 := Lib.hid u9
        clear h9 u9 cO9
        obtain ⟨z9, hz9⟩ : ∃ z, (opR (fwL10 cs)).2 = z := ⟨_, rfl⟩
        rw [hz9]
        go_wp2_with fail
        go_ret
        exact ⟨v9, rfl, InO.keep H9.out (fun q h => by
          rcases h with h | h
          · exact h.elim
          · exact ⟨Nat.le_trans HUW.out.size h.1, h.2⟩) fun _ _ => rfl, HUW.out.trans U9.out⟩
    · have hkz : ¬ (k : Int) < (N : Int) := by omega
      have HE := Lib.hid (fwL10_end (cs := cs) hk60 (.inl (by have := HN.out; omega)))
      have hlen : ((cs.take k).map fwD10).length = k := by rw [List.length_map, List.length_take]; have := HN.out; omega
      have hown : OwnC wr (H + 2) (.slice VA k VC) (fwL10 cs) := by rw [HE.out]; exact ⟨vs, by rw [hlen]; exact HO.out, HF.out⟩
      have cO9 := refOpen (fwL10 cs) wr (.slice VA k VC) hown.cls (fun j c hc => by have := fwL10_ks cs c (List.mem_of_getElem? hc); omega) (by have := fwL10_len cs; omega)
      have HUW : Hid (Up w wr) := Lib.hid (by have h := HBW.out; rw [← HH.out] at h; exact h)
      clear hf hlen hown HE
      go_wp2_with fail
      refine cO9.mono ?_
      rintro e w9 ⟨v9, rfl, h9, u9⟩
      have H9 := Lib.hid h9
      have U9 := Lib.hid u9
      clear h9 u9 cO9
      obtain ⟨z9, hz9⟩ : ∃ z, (opR (fwL10 cs)).2 = z := ⟨_, rfl⟩
      rw [hz9]
      go_wp2_with fail
      go_ret
      exact ⟨v9, rfl, InO.keep H9.out (fun q h => by
        rcases h with h | h
        · exact h.elim
        · exact ⟨Nat.le_trans HUW.out.size h.1, h.2⟩) fun _ _ => rfl, HUW.out.trans U9.out⟩
end Go.Proofs.YtmiicfdigkkbdaaDoor
