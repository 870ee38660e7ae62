/-
  The program's Decode and Count: what they tell.
-/
import Derived.Test.YtdmeeaojbajapaaDoorGoodA
namespace Go.Proofs.YtdmeeaojbajapaaDoor
open Go.RowKit

set_option maxHeartbeats 1600000 in
set_option maxRecDepth 100000 in
theorem goodDecode (s : ByteArray) (w : World) (hs : s.size ≤ 1000000000) (hT : Tabs w) :
    Calls Tryd.prog 11 #[.string s] w (DecPost s w) := by
  have cV := valid_at s w hs hT
  cases hv : vls s 0
  · rw [hv] at cV
    have HV := Lib.hid hv
    clear hv
    go_enter Tryd.func11, Tryd.ntmps11
    go_wp2_with (go_at_call 27; refine cV.mono ?_; rintro e w' ⟨rfl, hb⟩)
    go_ret2
    exact dec_bad HV.out hb
  · rw [hv] at cV
    have HV := Lib.hid hv
    have cR : ∀ W, Calls Tryd.prog 28 #[.string s] W _ := fun W => Tryd.utf8_RuneCountInString s W (by omega)
    have hcnt := rns_len_le s 0
    rw [runeCount_rns] at cR
    obtain ⟨n, hn⟩ : ∃ n, (rns s 0).length = n := ⟨_, rfl⟩
    rw [hn] at cR hcnt
    clear hn hv
    obtain ⟨i0, hi, hz0, hz1, hz2⟩ := info_parts infoRune
    go_enter Tryd.func11, Tryd.ntmps11
    go_wp2_with (first
      | (go_at_call 27; refine cV.mono ?_; rintro e w1 ⟨rfl, hb1⟩)
      | (go_at_call 28; refine (cR _).mono ?_; rintro e w2 ⟨rfl, pos, rfl⟩)
      | (at_make; go_loud (refine wpList_make_own _ rfl _ _ 23 rfl w.heap.size 21 i0 (.int .i32 0) 1 Tryd.underlying23 hi hz0 hz1 _ _ _ n rfl rfl rfl (by rw [hz2]; omega) (by unfold maxLen; omega) (by have := hb1.size; simp [World.iter]; omega) ?_); intro w3 hown3 hgrow3))
    have hs1 : w.heap.size ≤ w3.heap.size := by
      have h1 := hb1.size
      have h2 := hgrow3.size
      simp [World.iter] at h2
      omega
    have hb3 : Below w.heap.size w w3 := (hb1.alloc hb1.size _).grown hgrow3 (by have := hb1.size; simp; omega) (fun k h => by cases h)
    generalize (w1.iter s pos).heap.size = G at hown3 ⊢
    obtain ⟨B, hB⟩ : ∃ B, w3.heap.size = B := ⟨_, rfl⟩
    have hit0 : (w3.iter s 0).heap[B]? = some (.stringIter s 0) := by rw [← hB]; exact World.iter_heap w3 s 0
    have hbi : Below w.heap.size w (w3.iter s 0) := hb3.alloc hs1 _
    have hown0 : (w3.iter s 0).ownsRow w.heap.size 21 1 (.slice (some ⟨G, 0, none⟩) 0 n) 0 [] := hown3.alloc _
    rw [hB] at hs1 ⊢
    clear hgrow3 hown3 hb3 hb1 hB cR cV
    generalize w3.iter s 0 = wq at hit0 hbi hown0 ⊢
    go_loopw [4] (fun v wr => ∃ (p : Nat) (l : List Nat), wr.heap[B]? = some (.stringIter s p) ∧ l.length ≤ p ∧ p ≤ s.size ∧ wr.ownsRow w.heap.size 21 1 v l.length (cel l) ∧ Below w.heap.size w wr ∧ l ++ rns s p = rns s 0) (fun _ wr => s.size - wr.iterPos B)
    case atStart => exact ⟨0, [], hit0, Nat.zero_le _, Nat.zero_le _, hown0, hbi, rfl⟩
    case round =>
      obtain ⟨p, l, hit, hlp, hp, hown, hbw, hl⟩ := hrel
      have HL := Lib.hid hl
      clear hl hit0 hbi hown0
      have hpos0 := iterPos_of hit
      by_cases hlt : p < s.size
      · have hnx : ∀ ty, (Instr.next (.pointer (some ⟨B, 0, none⟩)) true ty).run Tryd.prog wr = _ := fun ty => Lib.run_next_any_at wr B s p ty hit hlt
        have hw1 := dc_pos s p
        have hw2 := dc_le s p hlt
        have hit2 := Lib.iterAt_heap wr B s p (p + (dc s p).2) hit
        have hbw2 := Lib.below_iterAt hbw (k := B) hs1 s (p + (dc s p).2)
        have hown2 := own_iterAt hown hit (p + (dc s p).2)
        have HR := Lib.hid (rns_step hlt)
        obtain ⟨r, k, hrk⟩ : ∃ r k, dc s p = (r, k) := ⟨_, _, rfl⟩
        rw [show Utf8.decode s p = (r, k) from hrk] at hnx
        rw [hrk] at hw1 hw2 hit2 hbw2 hown2 HR
        dsimp only at hw1 hw2 hit2 hbw2 hown2 HR hnx
        clear hrk
        obtain ⟨W1, hW1⟩ : ∃ W1, W1 = wr.iterAt B s (p + k) := ⟨_, rfl⟩
        rw [← hW1] at hnx hit2 hbw2 hown2
        have HP0 := Lib.hid hpos0
        clear hW1 hpos0 hit hbw hown
        have hne := own_ne_iter hown2 hit2
        have hBlt := lt_of_block hit2
        have hbs := hbw2.size
        have HIT := Lib.hid hit2
        have HNE := Lib.hid hne
        clear hit2 hne
        go_wp2_with (at_builtin; go_loud (refine wpList_append_own _ rfl _ _ 23 rfl w.heap.size 21 i0 (.int .i32 0) 1 4 Tryd.underlying23 hi hz0 hz1 hz2 rfl (by decide) _ _ _ rfl (hown2.alloc _) ⟨W1.heap.size, 0, none⟩ 1 1 [.int .i32 (r : Int)] rfl rfl (cell_one_new _ _ _) (fun x hx => by simp at hx; subst hx; rfl) (by unfold maxLen; omega) (by omega) (by simp; omega) ?_); intro v' w4 hown4 hgrow4 _)
        have hit4 : w4.heap[B]? = some (.stringIter s (p + k)) := by
          rw [hgrow4.block B (by simp; omega) (fun h => HNE.out _ h.symm rfl), Below.heap_alloc _ _ _ hBlt]
          exact HIT.out
        have hpos4 := iterPos_of hit4
        have HP4 := Lib.hid hpos4
        clear hpos4
        go_roundw
        case rel =>
          exact ⟨p + k, l ++ [r], hit4, by simp; omega, hw2, by simpa [cel] using hown4, ((hbw2.alloc hbs _).grown hgrow4 (by simp; omega) (fun g hg => (hown2.lt g hg).1)),
            by rw [List.append_assoc, List.singleton_append, ← HR.out]; exact HL.out⟩
        case measure => rw [HP0.out, HP4.out]; omega
      · have hnx : ∀ ty, (Instr.next (.pointer (some ⟨B, 0, none⟩)) true ty).run Tryd.prog wr = _ := fun ty => Lib.run_next_end_at wr B s p ty hit hlt
        have hl := HL.out
        rw [rns_end hlt, List.append_nil] at hl
        have HL2 := Lib.hid hl
        clear hl hpos0
        go_wp2
        go_ret2
        exact dec_good HV.out HL2.out hown hbw

set_option maxHeartbeats 1600000 in
set_option maxRecDepth 100000 in
theorem goodCount (s : ByteArray) (w : World) (hs : s.size ≤ 1000000000) (hT : Tabs w) :
    Calls Tryd.prog 14 #[.string s] w fun e w' => e = .returned (.int .i64 ((rl s).length : Nat)) ∧ Below w.heap.size w w' := by
  have cV := valid_at s w hs hT
  have cR : ∀ W, Calls Tryd.prog 28 #[.string s] W _ := fun W => Tryd.utf8_RuneCountInString s W (by omega)
  rw [runeCount_rns] at cR
  cases hv : vls s 0
  · rw [hv] at cV
    rw [rl_false hv]
    clear hv
    go_enter Tryd.func14, Tryd.ntmps14
    go_wp2_with (go_at_call 27; refine cV.mono ?_; rintro e w' ⟨rfl, hb⟩)
    go_ret
    exact ⟨rfl, hb⟩
  · rw [hv] at cV
    rw [rl_true hv]
    clear hv
    generalize (rns s 0).length = n at cR ⊢
    go_enter Tryd.func14, Tryd.ntmps14
    go_wp2_with (first
      | (go_at_call 27; refine cV.mono ?_; rintro e w1 ⟨rfl, hb1⟩)
      | (go_at_call 28; refine (cR _).mono ?_; rintro e w2 ⟨rfl, pos, rfl⟩))
    go_ret
    exact ⟨rfl, hb1.alloc hb1.size _⟩
end Go.Proofs.YtdmeeaojbajapaaDoor
