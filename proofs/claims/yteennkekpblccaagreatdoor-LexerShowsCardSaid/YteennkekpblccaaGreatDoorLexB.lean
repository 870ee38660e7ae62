/-
  The lexer's comment and between: what they tell.
-/
import Derived.Test.YteennkekpblccaaGreatDoorLexA
namespace Go.Proofs.YteennkekpblccaaGreatDoor
open Go.RowKit

/-! ### comments -/
theorem chit_true {d : Int} {l r : Nat} (h : chit (d, l) r = true) : ((l = 40 ∧ r = 42) ∨ (l = 42 ∧ r = 41)) ∧ (cstep (d, l) r).1 = 0 := by
  unfold chit at h; rw [decide_eq_true_iff] at h; exact h
theorem cstep_a {d : Int} {l r : Nat} (h : l = 40 ∧ r = 42) : cstep (d, l) r = (d + 1, 32) := by unfold cstep; rw [if_pos h]
theorem cstep_b {d : Int} {l r : Nat} (h : l = 42 ∧ r = 41) : cstep (d, l) r = (d - 1, 32) := by unfold cstep; rw [if_neg (by omega), if_pos h]
theorem cstep_c {d : Int} {l r : Nat} (h1 : ¬ (l = 40 ∧ r = 42)) (h2 : ¬ (l = 42 ∧ r = 41)) : cstep (d, l) r = (d, r) := by unfold cstep; rw [if_neg h1, if_neg h2]
theorem chit_ab {d d' : Int} {l r : Nat} (h : (l = 40 ∧ r = 42) ∨ (l = 42 ∧ r = 41)) (hs : cstep (d, l) r = (d', 32)) : chit (d, l) r = decide (d' = 0) := by
  unfold chit; rw [hs, decide_eq_decide]; exact ⟨fun k => k.2, fun k => ⟨h, k⟩⟩
theorem chit_c {d : Int} {l r : Nat} (h1 : ¬ (l = 40 ∧ r = 42)) (h2 : ¬ (l = 42 ∧ r = 41)) : chit (d, l) r = false := by
  unfold chit; rw [decide_eq_false_iff_not]; rintro ⟨h | h, _⟩
  · exact h1 h
  · exact h2 h

set_option maxHeartbeats 3200000 in
set_option maxRecDepth 100000 in
theorem comment_any (s : ByteArray) (w : World) (hs : s.size ≤ 1000000000) :
    Calls Tryz.prog 47 #[.string s] w (NatPost (cmb s) w) := by
  obtain ⟨ANS, hans⟩ : ∃ b, cmb s = b := ⟨_, rfl⟩
  rw [hans]
  obtain ⟨hp, hhp⟩ : ∃ b, Lib.hasPrefix s.data.toList [40, 42] = b := ⟨_, rfl⟩
  have cH : ∀ W, Calls Tryz.prog 50 #[.string s, .string ⟨#[40, 42]⟩] W _ := fun W => hasPre (p := ⟨#[40, 42]⟩) hhp W
  unfold cmb at hans
  rw [hhp] at hans
  clear hhp
  cases hp
  · have HA := Lib.hid hans
    clear hans
    go_enter Tryz.func47, Tryz.ntmps47
    go_wp2_with (go_at_call 50; refine (cH _).mono ?_; rintro e w' ⟨rfl, rfl⟩)
    go_ret
    exact nat_ret HA.out.symm rfl (Below.refl _ _)
  · rw [if_pos rfl] at hans
    have HA := Lib.hid hans
    clear hans
    go_enter Tryz.func47, Tryz.ntmps47
    go_wp2_with (go_at_call 50; refine (cH _).mono ?_; rintro e w' ⟨rfl, rfl⟩)
    have hit0 : (w.iter s 0).heap[w.heap.size]? = some (.stringIter s 0) := World.iter_heap w s 0
    have hbi : Below w.heap.size w (w.iter s 0) := (Below.refl _ _).alloc (Nat.le_refl _) _
    generalize w.iter s 0 = wq at hit0 hbi ⊢
    go_loopw [3, 4] (fun a b wr => ∃ (p : Nat) (d : Int) (l : Nat), wr.heap[w.heap.size]? = some (.stringIter s p) ∧ Below w.heap.size w wr ∧ p ≤ s.size ∧ a = .int .i64 d ∧ b = .int .i32 (l : Int) ∧ -(p : Int) ≤ d ∧ d ≤ p ∧ l ≤ 1114111 ∧ cmp s (d, l) p = ANS) (fun _ _ wr => s.size - wr.iterPos w.heap.size)
    case atStart => exact ⟨0, 0, 32, hit0, hbi, Nat.zero_le _, rfl, rfl, by omega, by omega, by omega, HA.out⟩
    case round =>
      obtain ⟨p, d, l, hit, hbw, hp, rfl, rfl, hd1, hd2, hl, hc⟩ := hrel
      have HC := Lib.hid hc
      clear hc hit0 hbi
      have hpos0 := iterPos_of hit
      by_cases hlt : p < s.size
      · have hnx : ∀ ty, (Instr.next (.pointer (some ⟨w.heap.size, 0, none⟩)) true ty).run Tryz.prog wr = _ := fun ty => Lib.run_next_any_at wr w.heap.size s p ty hit hlt
        have hw1 := dc_pos s p
        have hw2 := dc_le s p hlt
        have hrl := dc_rune s p
        have hit2 := Lib.iterAt_heap wr w.heap.size s p (p + (dc s p).2) hit
        have hbw2 := Lib.below_iterAt hbw (k := w.heap.size) (Nat.le_refl _) s (p + (dc s p).2)
        have HS := Lib.hid (cmp_stop (s := s) (st := (d, l)) hlt)
        have HN := Lib.hid (cmp_next (s := s) (st := (d, l)) hlt)
        obtain ⟨r, k, hrk⟩ : ∃ r k, dc s p = (r, k) := ⟨_, _, rfl⟩
        rw [show Utf8.decode s p = (r, k) from hrk] at hnx
        rw [hrk] at hw1 hw2 hit2 hbw2 HS HN hrl
        dsimp only at hw1 hw2 hit2 hbw2 HS HN hnx hrl
        clear hrk
        obtain ⟨W1, hW1⟩ : ∃ W1, W1 = wr.iterAt w.heap.size s (p + k) := ⟨_, rfl⟩
        rw [← hW1] at hnx hit2 hbw2
        have hpos2 := iterPos_of hit2
        have HP0 := Lib.hid hpos0
        have HP2 := Lib.hid hpos2
        have HIT := Lib.hid hit2
        clear hW1 hpos0 hpos2 hit hbw hit2
        by_cases ca : l = 40 ∧ r = 42
        · obtain ⟨rfl, rfl⟩ := ca
          have HT := Lib.hid (cstep_a (d := d) (l := 40) (r := 42) ⟨rfl, rfl⟩)
          have HK := Lib.hid (chit_ab (.inl ⟨rfl, rfl⟩) HT.out)
          by_cases hz : d + 1 = 0
          · have hz2 : (d + 1 == 0) = true := by simp [hz]
            clear hz
            go_wp2
            go_ret
            exact nat_ret (HC.out.symm.trans (HS.out (by rw [HK.out]; simpa using hz2))) (by omega) hbw2
          · have hz2 : (d + 1 == 0) = false := by simp [hz]
            clear hz
            go_wp2
            go_roundw
            case rel => exact ⟨p + k, d + 1, 32, HIT.out, hbw2, hw2, rfl, rfl, by omega, by omega, by omega, by rw [← HC.out, HN.out (by rw [HK.out]; simpa using hz2), HT.out]⟩
            case measure => rw [HP0.out, HP2.out]; omega
        · by_cases cb : l = 42 ∧ r = 41
          · obtain ⟨rfl, rfl⟩ := cb
            clear ca
            have HT := Lib.hid (cstep_b (d := d) (l := 42) (r := 41) ⟨rfl, rfl⟩)
            have HK := Lib.hid (chit_ab (.inr ⟨rfl, rfl⟩) HT.out)
            by_cases hz : d - 1 = 0
            · have hz2 : (d - 1 == 0) = true := by simp [hz]
              clear hz
              go_wp2
              go_ret
              exact nat_ret (HC.out.symm.trans (HS.out (by rw [HK.out]; simpa using hz2))) (by omega) hbw2
            · have hz2 : (d - 1 == 0) = false := by simp [hz]
              clear hz
              go_wp2
              go_roundw
              case rel => exact ⟨p + k, d - 1, 32, HIT.out, hbw2, hw2, rfl, rfl, by omega, by omega, by omega, by rw [← HC.out, HN.out (by rw [HK.out]; simpa using hz2), HT.out]⟩
              case measure => rw [HP0.out, HP2.out]; omega
          · have HT := Lib.hid (cstep_c (d := d) ca cb)
            have HK := Lib.hid (chit_c (d := d) ca cb)
            have b1 : (((l : Int) == 40) && ((r : Int) == 42)) = false := by
              rw [Bool.and_eq_false_iff, beq_eq_false_iff_ne, beq_eq_false_iff_ne]; omega
            have b2 : (((l : Int) == 42) && ((r : Int) == 41)) = false := by
              rw [Bool.and_eq_false_iff, beq_eq_false_iff_ne, beq_eq_false_iff_ne]; omega
            have CA := Lib.hid ca
            have CB := Lib.hid cb
            clear ca cb
            go_wp2
            all_goals first
              | (exfalso; have ca := CA.out; have cb := CB.out; simp only [beq_iff_eq, beq_eq_false_iff_ne, ne_eq] at *; omega)
              | (go_roundw
                 case rel => exact ⟨p + k, d, r, HIT.out, hbw2, hw2, rfl, rfl, by omega, by omega, hrl, by rw [← HC.out, HN.out HK.out, HT.out]⟩
                 case measure => rw [HP0.out, HP2.out]; omega)
              | trace_state
      · have hnx : ∀ ty, (Instr.next (.pointer (some ⟨w.heap.size, 0, none⟩)) true ty).run Tryz.prog wr = _ := fun ty => Lib.run_next_end_at wr w.heap.size s p ty hit hlt
        have HE := Lib.hid (cmp_end (s := s) (st := (d, l)) hlt)
        clear hpos0
        go_wp2
        go_ret
        exact nat_ret (HC.out.symm.trans HE.out) rfl hbw

/-! ### blanks and comments -/
/-- What 'between' tells, from place p on. -/
theorem between_any (l : List Nat) (ho : okl l) (w : World) (hs : sz l ≤ 1000000000) :
    Calls Tryz.prog 30 #[.string (T l)] w (NatPost (sz (l.take (btw l))) w) := by
  have hsz := T_size l
  obtain ⟨S, hS⟩ : ∃ S, T l = S := ⟨_, rfl⟩
  rw [hS] at hsz
  have HS := Lib.hid hS
  rw [hS]
  obtain ⟨ANS, hans⟩ : ∃ b, sz (l.take (btw l)) = b := ⟨_, rfl⟩
  rw [hans]
  have HA := Lib.hid hans
  have HZ := Lib.hid hsz
  have hSz : S.size ≤ 1000000000 := by omega
  clear hS hans hsz hs
  go_enter Tryz.func30, Tryz.ntmps30
  go_wp2
  go_loopw [3, 4, 5] (fun v _ _ wr => ∃ (a b : List Nat), l = a ++ b ∧ v = .int .i64 (sz a : Nat) ∧ Below w.heap.size w wr ∧ sz a ≤ S.size ∧ sz a + sz (b.take (btw b)) = ANS) (fun v _ _ _ => S.size - (intOf v).toNat)
  case atStart => exact ⟨[], l, rfl, rfl, Below.refl _ _, Nat.zero_le _, by rw [sz_nil, Nat.zero_add]; exact HA.out⟩
  case round =>
    obtain ⟨a, b, hl, rfl, hbw, hle, hans⟩ := hrel
    have hb1 := (okl_app.1 (hl ▸ ho)).2
    have hc1 := cnt_le blk b
    obtain ⟨c, hc⟩ : ∃ c, b.take (cnt blk b) = c := ⟨_, rfl⟩
    obtain ⟨d, hd⟩ : ∃ d, b.drop (cnt blk b) = d := ⟨_, rfl⟩
    have hbcd : b = c ++ d := by rw [← hc, ← hd]; exact (List.take_append_drop _ _).symm
    have hd1 := (okl_app.1 (hbcd ▸ hb1)).2
    have E1 : Hid (S.extract (sz a) S.size = T b) := Lib.hid (by rw [← HS.out, T_size, hl]; exact T_suf a b)
    have E2 : Hid (S.extract (sz a + sz c) S.size = T d) := Lib.hid (by rw [← HS.out, T_size, hl, hbcd, ← List.append_assoc, ← sz_app]; exact T_suf (a ++ c) d)
    have hz2 : sz a + sz c ≤ S.size := by rw [HZ.out, hl, hbcd, sz_app, sz_app]; omega
    have hz3 : sz d ≤ 1000000000 := by have h3 := HZ.out; rw [hl, hbcd, sz_app, sz_app] at h3; omega
    have c1 := fun W => run_isBlank (T b) W
    rw [rn_T0 blk hb1, hc] at c1
    have c2 := fun W => comment_any (T d) W (by rw [T_size]; exact hz3)
    rw [cmb_T hd1] at c2
    obtain ⟨f, hf⟩ : ∃ f, d.take (cmt d) = f := ⟨_, rfl⟩
    obtain ⟨g, hg⟩ : ∃ g, d.drop (cmt d) = g := ⟨_, rfl⟩
    have hdfg : d = f ++ g := by rw [← hf, ← hg]; exact (List.take_append_drop _ _).symm
    have hzf : sz a + sz c + sz f ≤ S.size := by rw [HZ.out, hl, hbcd, hdfg, sz_app, sz_app, sz_app]; omega
    rw [hf] at c2
    have HF : Hid (sz f = 0 ↔ cmt d = 0) := Lib.hid (by
      have h1 := cmt_le d
      have h2 := sz_len f
      rw [← hf, List.length_take, hf] at h2
      constructor
      · intro h; omega
      · intro h; rw [← hf, h]; rfl)
    have HEND : Hid (cmt d = 0 → sz a + sz c = ANS) := Lib.hid (by
      intro h
      rw [← hans, btw_end (by rw [hd]; exact h), hc])
    have HSTEP : Hid (cmt d ≠ 0 → sz (a ++ (c ++ f)) + sz (g.take (btw g)) = ANS) := Lib.hid (by
      intro h
      have hs := btw_step (l := b) (by rw [hd]; exact h)
      rw [hd] at hs
      have e1 : b.drop (cnt blk b + cmt d) = g := by rw [← List.drop_drop, hd, hg]
      rw [e1] at hs
      have e2 : b.take (btw b) = c ++ (f ++ g.take (btw g)) := by
        rw [hs, Nat.add_assoc, List.take_add, hc, hd, List.take_add, hf, hg]
      rw [← hans, e2, sz_app, sz_app, sz_app, sz_app]
      omega)
    have HL : Hid (l = (a ++ (c ++ f)) ++ g) := Lib.hid (by rw [hl, hbcd, hdfg]; simp)
    have HSZ : Hid (sz (a ++ (c ++ f)) = sz a + (sz c + sz f)) := Lib.hid (by rw [sz_app, sz_app])
    clear hl hans hc hd hbcd hf hg hdfg HA
    go_wp2_with fail
    rw [E1.out]
    refine (c1 _).mono ?_
    rintro e w1 ⟨rfl, hb1⟩
    go_wp2_with fail
    rw [E2.out]
    refine (c2 _).mono ?_
    rintro e w2 ⟨rfl, hb2⟩
    have hfin := (hbw.trans (hb1.mono hbw.size)).trans (hb2.mono (Nat.le_trans hbw.size hb1.size))
    by_cases hz : sz f = 0
    · have hz' : ((sz f : Nat) : Int) = 0 := by omega
      have HZ0 := Lib.hid hz
      go_wp2
      go_ret
      exact nat_ret (HEND.out (HF.out.1 HZ0.out)).symm (by have := HZ0.out; omega) hfin
    · have hz' : (((sz f : Nat) : Int) == 0) = false := by rw [beq_eq_false_iff_ne]; omega
      have HZ0 := Lib.hid hz
      clear hz
      go_wp2
      go_roundw
      case rel => exact ⟨a ++ (c ++ f), g, HL.out, by rw [HSZ.out]; go_num, hfin, by rw [HSZ.out]; omega, HSTEP.out (fun h => HZ0.out (HF.out.2 h))⟩
      case measure => have := HZ0.out; simp [intOf]; omega
end Go.Proofs.YteennkekpblccaaGreatDoor
