/-
  The law ArenaOpens.
-/
import Derived.Test.YtmjdeadkekhpdaaArF
import Derived.Test.YtmjdeadkekhpdaaArW
import Derived.Test.YtmjdeadkekhpdaaArJ
import Derived.Test.YtmjdeadkekhpdaaRtL
import Derived.Test.YtmjdeadkekhpdaaArO
import Derived.Test.YtmjdeadkekhpdaaAop
namespace Go.Proofs.Ytmjdeadkekhpdaa
open Go.RowKit

theorem op_two {L : List Cel} (hl : L.length ≤ 60) : (∃ t, opR L = (some t, 0) ∧ szT t ≤ 60 ∧ szT t = L.length ∧ okK L ∧ okC L ∧ gr L L.length (L.length - 1) = t) ∨ ∃ z, opR L = (none, z) ∧ z ≠ 0 ∧ z ≤ 16 ∧ 0 ≤ z := by
  by_cases h0 : L.length = 0
  · exact .inr ⟨1, op_nil h0, by decide, by decide, by decide⟩
  · by_cases h : okK L ∧ okC L
    · have hs := open_size h.1 h.2 (by omega)
      exact .inl ⟨_, op_good h0 (by omega) h, by omega, hs, h.1, h.2, rfl⟩
    · exact .inr ⟨16, op_bad h0 (by omega) h, by decide, by decide, by decide⟩
theorem celF_ks (t : Fr) : ∀ f, ∀ c ∈ (celF t f).1, c.ks.length ≤ t.sz := by
  induction t with
  | nil => intro f c hc; cases hc
  | cons x k r ihk ihr =>
    intro f c hc
    simp only [celF, List.mem_append, List.mem_cons] at hc
    simp only [Fr.sz]
    rcases hc with hc | rfl | hc
    · have := ihk _ c hc; omega
    · have h1 := (celF_len k f).2
      have h2 := Fr.len_le k
      simp only
      omega
    · have := ihr _ c hc; omega
theorem celT_ks (t : Tr) : ∀ c ∈ celT t 0, c.ks.length ≤ szT t := by
  intro c hc
  unfold celT at hc
  unfold szT
  rcases List.mem_append.1 hc with hc | hc
  · have := celF_ks t.2 0 c hc; omega
  · simp only [List.mem_singleton] at hc
    subst hc
    have h1 := (celF_len t.2 0).2
    have h2 := Fr.len_le t.2
    simp only
    omega
theorem Cls.up {w w' : World} {v : Value} {cs : List Cel} (h : Cls w w.heap.size v cs) (hb : Below w.heap.size w w') : Cls w' w'.heap.size v cs :=
  h.keep hb.size fun _ hp => hb.cell hp
theorem not_box {w : World} {b o H : Nat} {n : Int} {A : Option Addr} {l c : Nat} {e : TypeId} {z : Nat × Nat} (hx : w.heap[H]? = some (.cells #[.slice A l c] e z)) (h : w.cell? ⟨b, o, none⟩ = some (.int .i64 n)) : b ≠ H := by
  rintro rfl
  unfold World.cell? at h
  simp only [hx] at h
  cases o with
  | zero => simp at h
  | succ o => simp at h
/-- A box of a tree holds no cell of a tree: it may be stored to. -/
theorem cls_box {w : World} {H : Nat} {A : Option Addr} {l c : Nat} {e : TypeId} {z : Nat × Nat} {v : Value} {cs : List Cel} (h : Cls w w.heap.size v cs) (hx : w.heap[H]? = some (.cells #[.slice A l c] e z)) (u : Value) :
    Cls (w.setCell ⟨H, 0, none⟩ u) (w.setCell ⟨H, 0, none⟩ u).heap.size v cs := by
  have hs : (w.setCell ⟨H, 0, none⟩ u).heap.size = w.heap.size := by simp [World.setCell]
  obtain ⟨VA, vc, hv, hc, hl⟩ := h
  refine ⟨VA, vc, hv, hc, fun j t ht => ?_⟩
  obtain ⟨b, o, hA, hb, h0, h1, h2, h3, kv, h4, KA, kc, hkv, hkc, hk⟩ := hl j t ht
  have hbH := not_box hx h0
  have far : ∀ (b o : Nat), b ≠ H → (w.setCell ⟨H, 0, none⟩ u).cell? ⟨b, o, none⟩ = w.cell? ⟨b, o, none⟩ := fun b o hb => cell_setCell _ _ _ hb
  refine ⟨b, o, hA, by rw [hs]; exact hb, (far _ _ hbH).trans h0, (far _ _ hbH).trans h1, (far _ _ hbH).trans h2, (far _ _ hbH).trans h3, kv, (far _ _ hbH).trans h4, KA, kc, hkv, hkc, fun i x hx' => ?_⟩
  obtain ⟨b', o', hKA, hb', hce⟩ := hk i x hx'
  exact ⟨b', o', hKA, by rw [hs]; exact hb', (far _ _ (not_box hx hce)).trans hce⟩
theorem fit_few {cs : List Cel} (h : ∀ c ∈ cs, fitC c) : ∀ c ∈ cs, c.x.a.size ≤ 9223372036854775807 ∧ c.x.m.size ≤ 9223372036854775807 ∧ c.ks.length ≤ 9223372036854775807 := by
  intro c hc
  obtain ⟨h1, h2, h3⟩ := h c hc
  unfold maxLen at h1 h2 h3
  exact ⟨by omega, by omega, by omega⟩
theorem few_kids (cs : List Cel) : ∀ (j : Nat) (c : Cel), (fewL cs)[j]? = some c → c.ks.length ≤ 1000000 := fun j c h => by have := fewL_ks cs c (List.mem_of_getElem? h); omega
theorem chain4 {w w2 w3 w4 : World} {H : Nat} (hH : w.heap.size = H) (h2 : Below H w w2) (h3 : Below w2.heap.size w2 w3) (h4 : Below w3.heap.size w3 w4) (q : Nat) : Below w.heap.size w (w4.drewN q) := by
  have s2 := h2.size
  have s3 := h3.size
  rw [hH]
  exact below_drewN' ((h2.trans (h3.mono (by omega))).trans (h4.mono (by omega))) q
theorem bel_up {w a b : World} (h : Below w.heap.size w a) (h2 : Below a.heap.size a b) : Below w.heap.size w b := h.trans (h2.mono h.size)
theorem sin_bel {w w' w'' : World} (h : w'.heap.size ≤ w''.heap.size) : Bel (Sin No w w') w''.heap.size := fun q hq => by
  rcases hq with hq | hq
  · cases hq
  · omega
set_option maxHeartbeats 12800000 in
set_option maxRecDepth 100000 in
theorem lawOpens (cs : List Cel) (w : World) (cv : Value) (hcl : Cls w w.heap.size cv cs) (hfit : ∀ c ∈ cs, fitC c) :
    Calls Try.prog 3 #[.agg #[cv]] w (SbPost true w) := by
  obtain ⟨H, hH⟩ : ∃ H, w.heap.size = H := ⟨_, rfl⟩
  have HH := Lib.hid hH
  have hb0 : Below H w (w.alloc (.cells #[cv] 24)) := (Below.refl H w).alloc (by omega) _
  have hcl0 := hcl.up ((Below.refl _ w).alloc (Nat.le_refl _) (.cells #[cv] 24))
  have c1 := few_any cs _ cv hcl0 (fit_few hfit)
  have hs0 : (w.alloc (.cells #[cv] 24)).heap.size = H + 1 := by simp [hH]
  have hx0 : (w.alloc (.cells #[cv] 24)).heap[H]? = some (.cells #[cv] 24 (0, 0)) := by rw [← hH]; exact heap_alloc_new w _
  have HB0 := Lib.hid hb0
  have HX0 := Lib.hid hx0
  obtain ⟨CA, cc, rfl, -, -⟩ := hcl
  clear hfit hcl0 hb0 hH hx0
  go_enter Try.func3, Try.ntmps3
  go_wp2_with fail
  rw [HH.out]
  refine c1.mono ?_
  rintro e w1 ⟨v1, rfl, h1, b1⟩
  obtain ⟨A1, C1, rfl, -⟩ := id h1
  have hx1 := (b1.block H (by omega)).trans HX0.out
  have k1 : w1.cell? ⟨H, 0, none⟩ = some (.slice CA cs.length cc) := cell_of_row w1 H 0 _ _ _ hx1
  have f1 := frozen_of_row w1 H 0 _ _ hx1
  have hH1 := heap_lt hx1
  have hb1 := HB0.out.trans (b1.mono (by omega))
  have hb2 : Below H w (w1.setCell ⟨H, 0, none⟩ (.slice A1 (fewL cs).length C1)) := hb1.setCell (Nat.le_refl _) _
  have k2 : (w1.setCell ⟨H, 0, none⟩ (.slice A1 (fewL cs).length C1)).cell? ⟨H, 0, none⟩ = some (.slice A1 (fewL cs).length C1) := cell_same k1
  have h2 : Cls (w1.setCell ⟨H, 0, none⟩ (.slice A1 (fewL cs).length C1)) (w1.setCell ⟨H, 0, none⟩ (.slice A1 (fewL cs).length C1)).heap.size (.slice A1 (fewL cs).length C1) (fewL cs) := cls_box h1 hx1 (.slice A1 (fewL cs).length C1)
  have hc := arOpen (fewL cs) _ (.slice A1 (fewL cs).length C1) h2 (few_kids cs) (by have := fewL_len cs; omega)
  have HB2 := Lib.hid hb2
  have H2 := Lib.hid h2
  clear hx1 hb1 hb2 h1 b1 c1 h2
  obtain ⟨w2, hw2⟩ : ∃ w2, w1.setCell ⟨H, 0, none⟩ (.slice A1 (fewL cs).length C1) = w2 := ⟨_, rfl⟩
  rw [hw2] at k2 hc HB2 H2
  have hs2 := HB2.out.size
  rcases op_two (fewL_len cs) with ⟨t, hop, hs60, hsz, hK, hC, hg⟩ | ⟨z, hop, hz, _, _⟩
  · rw [hop] at hc
    have HOP := Lib.hid hop
    have HW2 := Lib.hid hw2
    have HS := Lib.hid hs60
    clear hop hw2
    go_wp2_with (first
      | (go_at_call 10; rw [HW2.out]; refine hc.mono ?_; rintro e w3 ⟨v3, rfl, i3, b3⟩; have k3 := (b3.cell (p := ⟨H, 0, none⟩) (cell_lt k2)).trans k2; have hc4 := refOpen (fewL cs) w3 (.slice A1 (fewL cs).length C1) (H2.out.up b3) (few_kids cs) (by have := fewL_len cs; omega); rw [HOP.out] at hc4; have B3 := Lib.hid b3; have I3 := Lib.hid i3; clear i3 b3)
      | (go_at_call 11; refine hc4.mono ?_; rintro e w4 ⟨v4, rfl, i4, b4⟩; have B4 := Lib.hid b4; have I4 := Lib.hid i4; clear i4 b4)
      | (go_at_call 12; refine (refSameO (some t) (some t) w4 (Sin No w2 w3) (Sin No w3 w4) v3 v4 (I3.out.below (sin_bel (Nat.le_refl _)) B4.out) I4.out (by show szT t ≤ _; have := HS.out; omega) true (by simp)).mono ?_; rintro e w5 ⟨rfl, q, rfl⟩)
      | (go_at_call 14; refine (arPack t (by have := HS.out; omega) (w4.drewN q) (Sin No w2 w3) v3 (sin_bel (by show w3.heap.size ≤ w4.heap.size; exact B4.out.size)) ((I3.out.below (sin_bel (Nat.le_refl _)) B4.out).drew q)).mono ?_; rintro e w6 ⟨u6, rfl, h6, b6⟩; obtain ⟨A6, C6, rfl, -⟩ := id h6; have H6 := Lib.hid h6; have B6 := Lib.hid b6; clear h6 b6)
      | (go_at_call 15; refine (refPack t (by have := HS.out; omega) _ (Sin No w3 w4) v4 (sin_bel (by have h1 := B6.out.size; have h2 : w4.heap.size ≤ w6.heap.size := h1; simp; omega)) (((I4.out.drew q).below (sin_bel (show w4.heap.size ≤ (w4.drewN q).heap.size from Nat.le_refl _)) B6.out).below (sin_bel (show w4.heap.size ≤ w6.heap.size from B6.out.size)) ((Below.refl w6.heap.size w6).alloc (Nat.le_refl _) _))).mono ?_; rintro e w7 ⟨u7, rfl, h7, b7⟩; obtain ⟨A7, C7, rfl, -⟩ := id h7; have H7 := Lib.hid h7; have B7 := Lib.hid b7; have q6 := (b7.cell (p := ⟨w6.heap.size, 0, none⟩) (by simp)).trans (cell_of_row _ w6.heap.size 0 _ _ _ (heap_alloc_new w6 (.cells #[.slice A6 (celT t 0).length C6] 24))); have q7 : (w7.alloc (.cells #[.slice A7 (celT t 0).length C7] 24)).cell? ⟨w6.heap.size, 0, none⟩ = some (.slice A6 (celT t 0).length C6) := (((Below.refl w7.heap.size w7).alloc (Nat.le_refl _) _).cell (p := ⟨w6.heap.size, 0, none⟩) (cell_lt q6)).trans q6; clear h7 b7)
      | (go_at_call 16; refine (sameCells_self (celT t 0) _ _ _ _ _ (((H6.out.up ((Below.refl w6.heap.size w6).alloc (Nat.le_refl _) _)).up B7.out).up ((Below.refl w7.heap.size w7).alloc (Nat.le_refl _) _)) (H7.out.up ((Below.refl w7.heap.size w7).alloc (Nat.le_refl _) _)) (Nat.le_refl _) (Nat.le_refl _) (by rw [celT_len]; have := HS.out; omega) (fun c hc => by have h1 := celT_ks t c hc; have := HS.out; omega)).mono ?_; rintro e w8 ⟨rfl, b8⟩)
      | (go_at_call 13; refine (works_any _).mono ?_; rintro e w9 ⟨rfl, b9⟩))
    go_ret
    refine ⟨rfl, ?_⟩
    have g1 := chain4 HH.out HB2.out B3.out B4.out q
    exact bel_up (bel_up (bel_up (bel_up (bel_up (bel_up g1 B6.out) ((Below.refl w6.heap.size w6).alloc (Nat.le_refl _) _)) B7.out) ((Below.refl w7.heap.size w7).alloc (Nat.le_refl _) _)) b8) b9
  · rw [hop] at hc
    have hz1 : (z != 0) = true := by rw [bne_iff_ne]; exact hz
    have hz3 : (z != z) = false := by simp
    have HOP := Lib.hid hop
    have HW2 := Lib.hid hw2
    clear hop hz hw2
    go_wp2_with (first
      | (go_at_call 10; rw [HW2.out]; refine hc.mono ?_; rintro e w3 ⟨v3, rfl, i3, b3⟩; have k3 := (b3.cell (p := ⟨H, 0, none⟩) (cell_lt k2)).trans k2; have hc4 := refOpen (fewL cs) w3 (.slice A1 (fewL cs).length C1) (H2.out.up b3) (few_kids cs) (by have := fewL_len cs; omega); rw [HOP.out] at hc4; have B3 := Lib.hid b3; have I3 := Lib.hid i3; clear i3 b3)
      | (go_at_call 11; refine hc4.mono ?_; rintro e w4 ⟨v4, rfl, i4, b4⟩; have B4 := Lib.hid b4; have I4 := Lib.hid i4; clear i4 b4)
      | (go_at_call 12; refine (refSameO none none w4 No No v3 v4 I3.out I4.out (by decide) true (by simp)).mono ?_; rintro e w5 ⟨rfl, q, rfl⟩)
      | (go_at_call 13; refine (works_any _).mono ?_; rintro e w6 ⟨rfl, b6⟩))
    go_ret
    exact ⟨rfl, (chain4 HH.out HB2.out B3.out B4.out q).trans (b6.mono (by have h1 := HB2.out.size; have h2 := B3.out.size; have h3 := B4.out.size; show w.heap.size ≤ w4.heap.size; omega))⟩
end Go.Proofs.Ytmjdeadkekhpdaa
