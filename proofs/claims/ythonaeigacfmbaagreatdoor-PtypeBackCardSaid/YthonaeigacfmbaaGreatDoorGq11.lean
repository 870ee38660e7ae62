/-
  The lexer's comment and between: what they tell.
-/
import Derived.Test.YthonaeigacfmbaaGreatDoorGq10
import Derived.Laws.Rows
import Derived.Lib.CountLaws
import Derived.Lib.CutLaws
import Derived.Lib.IndexBytes
import Derived.Lib.ItoaLen
import Derived.Lib.Join
import Derived.Lib.LaidTab
import Derived.Lib.Replace
namespace Go.Proofs.YthonaeigacfmbaaGreatDoor.B
open Go.RowKit

/-! ### comments -/
theorem cstep_a {d : Int} {l r : Nat} (h : l = 40 ∧ r = 42) : cstep (d, l) r = (d + 1, 32) := by unfold cstep; rw [if_pos h]
theorem cstep_b {d : Int} {l r : Nat} (h : l = 42 ∧ r = 41) : cstep (d, l) r = (d - 1, 32) := by unfold cstep; rw [if_neg (by omega), if_pos h]
theorem cstep_c {d : Int} {l r : Nat} (h1 : ¬ (l = 40 ∧ r = 42)) (h2 : ¬ (l = 42 ∧ r = 41)) : cstep (d, l) r = (d, r) := by unfold cstep; rw [if_neg h1, if_neg h2]
theorem chit_ab {d d' : Int} {l r : Nat} (h : (l = 40 ∧ r = 42) ∨ (l = 42 ∧ r = 41)) (hs : cstep (d, l) r = (d', 32)) : chit (d, l) r = decide (d' = 0) := by
  unfold chit; rw [hs, decide_eq_decide]; exact ⟨fun k => k.2, fun k => ⟨h, k⟩⟩
theorem chit_c {d : Int} {l r : Nat} (h1 : ¬ (l = 40 ∧ r = 42)) (h2 : ¬ (l = 42 ∧ r = 41)) : chit (d, l) r = false := by
  unfold chit; rw [decide_eq_false_iff_not]; rintro ⟨h | h, _⟩
  · exact h1 h
  · exact h2 h

set_option maxHeartbeats 3200000 in
set_option maxRecDepth 100000 in
theorem comment_any (s : ByteArray) (w : World) (hs : s.size ≤ 1000000000) :
    Calls Tryz.prog 120 #[.string s] w (NatPost (cmb s) w) := by
  obtain ⟨ANS, hans⟩ : ∃ b, cmb s = b := ⟨_, rfl⟩
  rw [hans]
  obtain ⟨hp, hhp⟩ : ∃ b, Lib.hasPrefix s.data.toList [40, 42] = b := ⟨_, rfl⟩
  have cH : ∀ W, Calls Tryz.prog 124 #[.string s, .string ⟨#[40, 42]⟩] W _ := fun W => hasPre (p := ⟨#[40, 42]⟩) hhp W
  unfold cmb at hans
  rw [hhp] at hans
  clear hhp
  cases hp
  · have HA := Lib.hid hans
    clear hans
    go_enter Tryz.func120, Tryz.ntmps120
    go_wp2_with (go_at_call 124; refine (cH _).mono ?_; rintro e w' ⟨rfl, rfl⟩)
    go_ret
    exact nat_ret HA.out.symm rfl (Below.refl _ _)
  · rw [if_pos rfl] at hans
    have HA := Lib.hid hans
    clear hans
    go_enter Tryz.func120, Tryz.ntmps120
    go_wp2_with (go_at_call 124; refine (cH _).mono ?_; rintro e w' ⟨rfl, rfl⟩)
    have hit0 : (w.iter s 0).heap[w.heap.size]? = some (.stringIter s 0) := World.iter_heap w s 0
    have hbi : Below w.heap.size w (w.iter s 0) := (Below.refl _ _).alloc (Nat.le_refl _) _
    generalize w.iter s 0 = wq at hit0 hbi ⊢
    go_loopw [3, 4] (fun a b wr => ∃ (p : Nat) (d : Int) (l : Nat), wr.heap[w.heap.size]? = some (.stringIter s p) ∧ Below w.heap.size w wr ∧ p ≤ s.size ∧ a = .int .i64 d ∧ b = .int .i32 (l : Int) ∧ -(p : Int) ≤ d ∧ d ≤ p ∧ l ≤ 1114111 ∧ cmp s (d, l) p = ANS) (fun _ _ wr => s.size - wr.iterPos w.heap.size)
    case atStart => exact ⟨0, 0, 32, hit0, hbi, Nat.zero_le _, rfl, rfl, by omega, by omega, by omega, HA.out⟩
    case round =>
      obtain ⟨p, d, l, hit, hbw, hp, rfl, rfl, hd1, hd2, hl, hc⟩ := hrel
      have HC := Lib.hid hc
      clear hc hit0 hbi
      have hpos0 := iterPos_of hit
      by_cases hlt : p < s.size
      · have hnx : ∀ ty, (Instr.next (.pointer (some ⟨w.heap.size, 0, none⟩)) true ty).run Tryz.prog wr = _ := fun ty => Lib.run_next_any_at wr w.heap.size s p ty hit hlt
        have hw1 := dc_pos s p
        have hw2 := dc_le s p hlt
        have hrl := dc_rune s p
        have hit2 := Lib.iterAt_heap wr w.heap.size s p (p + (dc s p).2) hit
        have hbw2 := Lib.below_iterAt hbw (k := w.heap.size) (Nat.le_refl _) s (p + (dc s p).2)
        have HS := Lib.hid (cmp_stop (s := s) (st := (d, l)) hlt)
        have HN := Lib.hid (cmp_next (s := s) (st := (d, l)) hlt)
        obtain ⟨r, k, hrk⟩ : ∃ r k, dc s p = (r, k) := ⟨_, _, rfl⟩
        rw [show Utf8.decode s p = (r, k) from hrk] at hnx
        rw [hrk] at hw1 hw2 hit2 hbw2 HS HN hrl
        dsimp only at hw1 hw2 hit2 hbw2 HS HN hnx hrl
        clear hrk
        obtain ⟨W1, hW1⟩ : ∃ W1, W1 = wr.iterAt w.heap.size s (p + k) := ⟨_, rfl⟩
        rw [← hW1] at hnx hit2 hbw2
        have hpos2 := iterPos_of hit2
        have HP0 := Lib.hid hpos0
        have HP2 := Lib.hid hpos2
        have HIT := Lib.hid hit2
        clear hW1 hpos0 hpos2 hit hbw hit2
        by_cases ca : l = 40 ∧ r = 42
        · obtain ⟨rfl, rfl⟩ := ca
          have HT := Lib.hid (cstep_a (d := d) (l := 40) (r := 42) ⟨rfl, rfl⟩)
          have HK := Lib.hid (chit_ab (.inl ⟨rfl, rfl⟩) HT.out)
          by_cases hz : d + 1 = 0
          · have hz2 : (d + 1 == 0) = true := by simp [hz]
            clear hz
            go_wp2
            go_ret
            exact nat_ret (HC.out.symm.trans (HS.out (by rw [HK.out]; simpa using hz2))) (by omega) hbw2
          · have hz2 : (d + 1 == 0) = false := by simp [hz]
            clear hz
            go_wp2
            go_roundw
            case rel => exact ⟨p + k, d + 1, 32, HIT.out, hbw2, hw2, rfl, rfl, by omega, by omega, by omega, by rw [← HC.out, HN.out (by rw [HK.out]; simpa using hz2), HT.out]⟩
            case measure => rw [HP0.out, HP2.out]; omega
        · by_cases cb : l = 42 ∧ r = 41
          · obtain ⟨rfl, rfl⟩ := cb
            clear ca
            have HT := Lib.hid (cstep_b (d := d) (l := 42) (r := 41) ⟨rfl, rfl⟩)
            have HK := Lib.hid (chit_ab (.inr ⟨rfl, rfl⟩) HT.out)
            by_cases hz : d - 1 = 0
            · have hz2 : (d - 1 == 0) = true := by simp [hz]
              clear hz
              go_wp2
              go_ret
              exact nat_ret (HC.out.symm.trans (HS.out (by rw [HK.out]; simpa using hz2))) (by omega) hbw2
            · have hz2 : (d - 1 == 0) = false := by simp [hz]
              clear hz
              go_wp2
              go_roundw
              case rel => exact ⟨p + k, d - 1, 32, HIT.out, hbw2, hw2, rfl, rfl, by omega, by omega, by omega, by rw [← HC.out, HN.out (by rw [HK.out]; simpa using hz2), HT.out]⟩
              case measure => rw [HP0.out, HP2.out]; omega
          · have HT := Lib.hid (cstep_c (d := d) ca cb)
            have HK := Lib.hid (chit_c (d := d) ca cb)
            have b1 : (((l : Int) == 40) && ((r : Int) == 42)) = false := by
              rw [Bool.and_eq_false_iff, beq_eq_false_iff_ne, beq_eq_false_iff_ne]; omega
            have b2 : (((l : Int) == 42) && ((r : Int) == 41)) = false := by
              rw [Bool.and_eq_false_iff, beq_eq_false_iff_ne, beq_eq_false_iff_ne]; omega
            have CA := Lib.hid ca
            have CB := Lib.hid cb
            clear ca cb
            go_wp2
            all_goals first
              | (exfalso; have ca := CA.out; have cb := CB.out; simp only [beq_iff_eq, beq_eq_false_iff_ne, ne_eq] at *; omega)
              | (go_roundw
                 case rel => exact ⟨p + k, d, r, HIT.out, hbw2, hw2, rfl, rfl, by omega, by omega, hrl, by rw [← HC.out, HN.out HK.out, HT.out]⟩
                 case measure => rw [HP0.out, HP2.out]; omega)
              | trace_state
      · have hnx : ∀ ty, (Instr.next (.pointer (some ⟨w.heap.size, 0, none⟩)) true ty).run Tryz.prog wr = _ := fun ty => Lib.run_next_end_at wr w.heap.size s p ty hit hlt
        have HE := Lib.hid (cmp_end (s := s) (st := (d, l)) hlt)
        clear hpos0
        go_wp2
        go_ret
        exact nat_ret (HC.out.symm.trans HE.out) rfl hbw

/-! ### blanks and comments -/
theorem between_any (l : List Nat) (ho : okl l) (w : World) (hs : sz l ≤ 1000000000) :
    Calls Tryz.prog 72 #[.string (T l)] w (NatPost (sz (l.take (btw l))) w) := by
  have hsz := T_size l
  obtain ⟨S, hS⟩ : ∃ S, T l = S := ⟨_, rfl⟩
  rw [hS] at hsz
  have HS := Lib.hid hS
  rw [hS]
  obtain ⟨ANS, hans⟩ : ∃ b, sz (l.take (btw l)) = b := ⟨_, rfl⟩
  rw [hans]
  have HA := Lib.hid hans
  have HZ := Lib.hid hsz
  have hSz : S.size ≤ 1000000000 := by omega
  clear hS hans hsz hs
  go_enter Tryz.func72, Tryz.ntmps72
  go_wp2
  go_loopw [3, 4, 5] (fun v _ _ wr => ∃ (a b : List Nat), l = a ++ b ∧ v = .int .i64 (sz a : Nat) ∧ Below w.heap.size w wr ∧ sz a ≤ S.size ∧ sz a + sz (b.take (btw b)) = ANS) (fun v _ _ _ => S.size - (intOf v).toNat)
  case atStart => exact ⟨[], l, rfl, rfl, Below.refl _ _, Nat.zero_le _, by rw [sz_nil, Nat.zero_add]; exact HA.out⟩
  case round =>
    obtain ⟨a, b, hl, rfl, hbw, hle, hans⟩ := hrel
    have hb1 := (okl_app.1 (hl ▸ ho)).2
    have hc1 := cnt_le blk b
    obtain ⟨c, hc⟩ : ∃ c, b.take (cnt blk b) = c := ⟨_, rfl⟩
    obtain ⟨d, hd⟩ : ∃ d, b.drop (cnt blk b) = d := ⟨_, rfl⟩
    have hbcd : b = c ++ d := by rw [← hc, ← hd]; exact (List.take_append_drop _ _).symm
    have hd1 := (okl_app.1 (hbcd ▸ hb1)).2
    have E1 : Hid (S.extract (sz a) S.size = T b) := Lib.hid (by rw [← HS.out, T_size, hl]; exact T_suf a b)
    have E2 : Hid (S.extract (sz a + sz c) S.size = T d) := Lib.hid (by rw [← HS.out, T_size, hl, hbcd, ← List.append_assoc, ← sz_app]; exact T_suf (a ++ c) d)
    have hz2 : sz a + sz c ≤ S.size := by rw [HZ.out, hl, hbcd, sz_app, sz_app]; omega
    have hz3 : sz d ≤ 1000000000 := by have h3 := HZ.out; rw [hl, hbcd, sz_app, sz_app] at h3; omega
    have c1 := fun W => run_isBlank (T b) W
    rw [rn_T0 blk hb1, hc] at c1
    have c2 := fun W => comment_any (T d) W (by rw [T_size]; exact hz3)
    rw [cmb_T hd1] at c2
    obtain ⟨f, hf⟩ : ∃ f, d.take (cmt d) = f := ⟨_, rfl⟩
    obtain ⟨g, hg⟩ : ∃ g, d.drop (cmt d) = g := ⟨_, rfl⟩
    have hdfg : d = f ++ g := by rw [← hf, ← hg]; exact (List.take_append_drop _ _).symm
    have hzf : sz a + sz c + sz f ≤ S.size := by rw [HZ.out, hl, hbcd, hdfg, sz_app, sz_app, sz_app]; omega
    rw [hf] at c2
    have HF : Hid (sz f = 0 ↔ cmt d = 0) := Lib.hid (by
      have h1 := cmt_le d
      have h2 := sz_len f
      rw [← hf, List.length_take, hf] at h2
      constructor
      · intro h; omega
      · intro h; rw [← hf, h]; rfl)
    have HEND : Hid (cmt d = 0 → sz a + sz c = ANS) := Lib.hid (by
      intro h
      rw [← hans, btw_end (by rw [hd]; exact h), hc])
    have HSTEP : Hid (cmt d ≠ 0 → sz (a ++ (c ++ f)) + sz (g.take (btw g)) = ANS) := Lib.hid (by
      intro h
      have hs := btw_step (l := b) (by rw [hd]; exact h)
      rw [hd] at hs
      have e1 : b.drop (cnt blk b + cmt d) = g := by rw [← List.drop_drop, hd, hg]
      rw [e1] at hs
      have e2 : b.take (btw b) = c ++ (f ++ g.take (btw g)) := by
        rw [hs, Nat.add_assoc, List.take_add, hc, hd, List.take_add, hf, hg]
      rw [← hans, e2, sz_app, sz_app, sz_app, sz_app]
      omega)
    have HL : Hid (l = (a ++ (c ++ f)) ++ g) := Lib.hid (by rw [hl, hbcd, hdfg]; simp)
    have HSZ : Hid (sz (a ++ (c ++ f)) = sz a + (sz c + sz f)) := Lib.hid (by rw [sz_app, sz_app])
    clear hl hans hc hd hbcd hf hg hdfg HA
    go_wp2_with fail
    rw [E1.out]
    refine (c1 _).mono ?_
    rintro e w1 ⟨rfl, hb1⟩
    go_wp2_with fail
    rw [E2.out]
    refine (c2 _).mono ?_
    rintro e w2 ⟨rfl, hb2⟩
    have hfin := (hbw.trans (hb1.mono hbw.size)).trans (hb2.mono (Nat.le_trans hbw.size hb1.size))
    by_cases hz : sz f = 0
    · have hz' : ((sz f : Nat) : Int) = 0 := by omega
      have HZ0 := Lib.hid hz
      go_wp2
      go_ret
      exact nat_ret (HEND.out (HF.out.1 HZ0.out)).symm (by have := HZ0.out; omega) hfin
    · have hz' : (((sz f : Nat) : Int) == 0) = false := by rw [beq_eq_false_iff_ne]; omega
      have HZ0 := Lib.hid hz
      clear hz
      go_wp2
      go_roundw
      case rel => exact ⟨a ++ (c ++ f), g, HL.out, by rw [HSZ.out]; go_num, hfin, by rw [HSZ.out]; omega, HSTEP.out (fun h => HZ0.out (HF.out.2 h))⟩
      case measure => have := HZ0.out; simp [intOf]; omega
end Go.Proofs.YthonaeigacfmbaaGreatDoor.B
namespace Go.Proofs.YthonaeigacfmbaaGreatDoor.B
open Go.RowKit

def wrdL (b : List UInt8) : Bool := (b == [118, 97, 108]) || (b == [116, 121, 112, 101]) || (b == [100, 97, 116, 97, 116, 121, 112, 101]) || (b == [115, 116, 114, 117, 99, 116, 117, 114, 101]) || (b == [115, 105, 103, 110, 97, 116, 117, 114, 101]) || (b == [102, 117, 110, 99, 116, 111, 114]) || (b == [111, 112, 101, 110]) || (b == [105, 110, 99, 108, 117, 100, 101]) || (b == [115, 116, 114, 117, 99, 116]) || (b == [101, 110, 100]) || (b == [115, 105, 103]) || (b == [119, 104, 101, 114, 101]) || (b == [115, 104, 97, 114, 105, 110, 103]) || (b == [102, 110]) || (b == [108, 101, 116]) || (b == [105, 110]) || (b == [105, 102]) || (b == [116, 104, 101, 110]) || (b == [101, 108, 115, 101]) || (b == [99, 97, 115, 101]) || (b == [102, 111, 108, 100]) || (b == [111, 102]) || (b == [116, 111]) || (b == [105, 110, 116]) || (b == [98, 111, 111, 108]) || (b == [117, 110, 105, 116]) || (b == [116, 114, 117, 101]) || (b == [102, 97, 108, 115, 101]) || (b == [109, 117])
theorem wrd_L (s : ByteArray) : wrd s = wrdL s.toList := by
  have e : ∀ x : List Nat, (∀ r ∈ x, r < 128) → decide (s = T x) = (s.toList == u8 x) := by
    intro x hx
    rw [Lib.toList_data, Bool.eq_iff_iff, decide_eq_true_iff, beq_iff_eq, ← enc_ascii hx]
    exact ⟨fun h => by rw [h]; rfl, fun h => ba_ext h⟩
  have k : WORDS.any (fun x => decide (s = T x)) = WORDS.any (fun x => s.toList == u8 x) := by
    have hW : ∀ x ∈ WORDS, ∀ r ∈ x, r < 128 := by decide
    rw [Bool.eq_iff_iff, List.any_eq_true, List.any_eq_true]
    exact ⟨fun ⟨x, h1, h2⟩ => ⟨x, h1, by rw [← e x (hW x h1)]; exact h2⟩, fun ⟨x, h1, h2⟩ => ⟨x, h1, by rw [e x (hW x h1)]; exact h2⟩⟩
  unfold wrd
  rw [k]
  simp only [WORDS, List.any_cons, List.any_nil, Bool.or_false, u8, List.map_cons, List.map_nil, wrdL, Bool.or_assoc]
  rfl

set_option maxHeartbeats 6400000 in
set_option maxRecDepth 100000 in
theorem word_any (s : ByteArray) (w : World) :
    Calls Tryz.prog 185 #[.string s] w fun e w' => e = .returned (.bool (wrd s)) ∧ w = w' := by
  rw [wrd_L]
  obtain ⟨ANS, hans⟩ : ∃ b, wrdL s.toList = b := ⟨_, rfl⟩
  rw [hans]
  have HA := Lib.hid hans
  clear hans
  go_enter Tryz.func185, Tryz.ntmps185
  go_wp2
  all_goals first
    | (exfalso; simp_all; done)
    | (go_ret
       refine ⟨ret_b (HA.out.symm.trans ?_), rfl⟩
       unfold wrdL
       simp only [*, Bool.true_or, Bool.or_true, Bool.or_self])
end Go.Proofs.YthonaeigacfmbaaGreatDoor.B
namespace Go.Proofs.YthonaeigacfmbaaGreatDoor.B
open Go.RowKit

theorem cell_lt {w : World} {a : Addr} {v : Value} (h : w.cell? a = some v) : a.block < w.heap.size := by
  rcases Nat.lt_or_ge a.block w.heap.size with h' | h'
  · exact h'
  · simp [World.cell?, Array.getElem?_eq_none h'] at h
theorem cell_below {w w' : World} {a : Addr} {v : Value} (h : w.cell? a = some v) (hb : Below w.heap.size w w') : w'.cell? a = some v := (hb.cell (cell_lt h)).trans h
theorem heap_lt {w : World} {g : Nat} {o : Obj} (h : w.heap[g]? = some o) : g < w.heap.size := by
  rcases Nat.lt_or_ge g w.heap.size with h' | h'
  · exact h'
  · rw [Array.getElem?_eq_none h'] at h; cases h
theorem heap_below {w w' : World} {g : Nat} {o : Obj} (h : w.heap[g]? = some o) (hb : Below w.heap.size w w') : w'.heap[g]? = some o := (hb.block g (heap_lt h)).trans h
theorem tab_below {w w' : World} {name : String} {k : IntKind} {zs : List Int} {g : Nat} (hg : Tryz.prog.globalNamed name = some g) (h : Lib.TabIs Tryz.prog w name k zs) (hb : Below w.heap.size w w') : Lib.TabIs Tryz.prog w' name k zs := by
  unfold Lib.TabIs World.var? at h ⊢
  rw [hg] at h ⊢
  simp only [Option.bind_some] at h ⊢
  cases ho : w.heap[g]? with
  | none => rw [ho] at h; cases h
  | some o => rw [heap_below ho hb, ← ho]; exact h
def sgV : Array Value := (SIGNS.map fun x => Value.string (T x)).toArray
def ErrIs (w : World) (g : Nat) : Prop := ∃ ev, w.cell? ⟨g, 0, none⟩ = some ev ∧ (ev = .nilIface ∨ ∃ te pe, ev = .iface te pe)
def Lx (w : World) : Prop :=
  Lib.Utf8Tabs (Tryz.lays197_ren.g 3) (Tryz.lays197_ren.g 4) w ∧ Lib.TabIs Tryz.prog w "internal/strconv.uint64pow10" .u64 Lib.pow10Tab ∧
  (∃ m, w.cell? ⟨3, 0, none⟩ = some (.int .i64 m)) ∧ ErrIs w 6 ∧ ErrIs w 7 ∧
  ∃ t z, w.heap[1]? = some (.cells sgV t z)
theorem ErrIs.below {w w' : World} {g : Nat} (h : ErrIs w g) (hb : Below w.heap.size w w') : ErrIs w' g := by
  obtain ⟨ev, h1, h2⟩ := h
  exact ⟨ev, cell_below h1 hb, h2⟩
theorem Lx.below {w w' : World} (h : Lx w) (hb : Below w.heap.size w w') : Lx w' := by
  obtain ⟨h1, h2, ⟨m, h3⟩, h4, h5, t, z, h6⟩ := h
  exact ⟨Utf8Tabs_below h1 hb, tab_below (g := 8) (by kernel_rfl) h2 hb, ⟨m, cell_below h3 hb⟩, h4.below hb, h5.below hb, t, z, heap_below h6 hb⟩

def tv (t : Tok) (a : Int) : Value := .agg #[.int .i64 t.k, .string (T t.x), .int .i64 t.n, .int .i64 a]
def tv0 : Value := .agg #[.int .i64 0, .string ⟨#[]⟩, .int .i64 0, .int .i64 0]
def TkPost (l : List Nat) (r : Option (Tok × Nat)) (W : World) (e : Ending) (w' : World) : Prop :=
  e = .returned (.tuple #[(match r with | none => tv0 | some (t, _) => tv t 0), .int .i64 ((match r with | none => 0 | some (_, n) => sz (l.take n)) : Nat)]) ∧ Below W.heap.size W w'
theorem tk_none {l : List Nat} {r : Option (Tok × Nat)} {W w' : World} (h : r = none) (hb : Below W.heap.size W w') : TkPost l r W (.returned (.tuple #[.agg #[.int .i64 0, .string ⟨#[]⟩, .int .i64 0, .int .i64 0], .int .i64 0])) w' := by
  subst h; exact ⟨rfl, hb⟩
theorem tk_some {l : List Nat} {r : Option (Tok × Nat)} {W w' : World} {k m z : Int} {x : List Nat} {s : ByteArray} {n : Nat} (h : r = some (⟨k, x, m⟩, n)) (hs : s = T x) (hz : z = (sz (l.take n) : Nat)) (hb : Below W.heap.size W w') :
    TkPost l r W (.returned (.tuple #[.agg #[.int .i64 k, .string s, .int .i64 m, .int .i64 0], .int .i64 z])) w' := by
  subst h; subst hs; subst hz; exact ⟨rfl, hb⟩

/-! ### signs -/
def sg (k : Nat) : List Nat := SIGNS.getD k []
theorem sg_idx : ∀ k : Nat, k < 17 → ∀ w : World, (Instr.index 192 (.agg sgV) (.int .i64 (k : Int))).run Tryz.prog w = .ok (.string (T (sg k))) w
  | 0, _, _ => by kernel_rfl
  | 1, _, _ => by kernel_rfl
  | 2, _, _ => by kernel_rfl
  | 3, _, _ => by kernel_rfl
  | 4, _, _ => by kernel_rfl
  | 5, _, _ => by kernel_rfl
  | 6, _, _ => by kernel_rfl
  | 7, _, _ => by kernel_rfl
  | 8, _, _ => by kernel_rfl
  | 9, _, _ => by kernel_rfl
  | 10, _, _ => by kernel_rfl
  | 11, _, _ => by kernel_rfl
  | 12, _, _ => by kernel_rfl
  | 13, _, _ => by kernel_rfl
  | 14, _, _ => by kernel_rfl
  | 15, _, _ => by kernel_rfl
  | 16, _, _ => by kernel_rfl
  | k + 17, h, _ => absurd h (by omega)
theorem sg_ascii (k : Nat) : ∀ x ∈ sg k, x < 128 := by
  unfold sg
  by_cases h : k < 17
  · have h' : k = 0 ∨ k = 1 ∨ k = 2 ∨ k = 3 ∨ k = 4 ∨ k = 5 ∨ k = 6 ∨ k = 7 ∨ k = 8 ∨ k = 9 ∨ k = 10 ∨ k = 11 ∨ k = 12 ∨ k = 13 ∨ k = 14 ∨ k = 15 ∨ k = 16 := by omega
    rcases h' with rfl | rfl | rfl | rfl | rfl | rfl | rfl | rfl | rfl | rfl | rfl | rfl | rfl | rfl | rfl | rfl | rfl
    all_goals decide
  · rw [List.getD_eq_getElem?_getD, List.getElem?_eq_none (by rw [show SIGNS.length = 17 from rfl]; omega)]
    intro x hx
    cases hx
def noSg (l : List Nat) (k : Nat) : Prop := ∀ j, j < k → (sg j).isPrefixOf l = false
theorem find_at {α : Type} {f : α → Bool} : ∀ {l : List α} {k : Nat} {x : α}, l[k]? = some x → (∀ j y, j < k → l[j]? = some y → f y = false) → f x = true → l.find? f = some x := by
  intro l
  induction l with
  | nil => intro k x h; cases h
  | cons a t ih =>
    intro k x h hn hf
    cases k with
    | zero => simp at h; subst h; rw [List.find?_cons_of_pos hf]
    | succ k =>
      rw [List.find?_cons_of_neg (by rw [hn 0 a (by omega) rfl]; simp)]
      exact ih (by simpa using h) (fun j y hj hy => hn (j + 1) y (by omega) (by simpa using hy)) hf
theorem sg_get (k : Nat) (h : k < 17) : SIGNS[k]? = some (sg k) := by
  unfold sg
  rw [List.getD_eq_getElem?_getD, List.getElem?_eq_getElem (show k < SIGNS.length from h)]
  rfl
theorem sign_hit {l : List Nat} {k : Nat} (h : noSg l k) (hk : k < 17) (hp : (sg k).isPrefixOf l = true) : signT l = some (⟨3, sg k, 0⟩, (sg k).length) := by
  unfold signT
  rw [find_at (sg_get k hk) (fun j y hj hy => by rw [sg_get j (by omega)] at hy; injection hy with hy; rw [← hy]; exact h j hj) hp]
  rfl
theorem sign_miss {l : List Nat} (h : noSg l 17) : signT l = none := by
  unfold signT
  rw [List.find?_eq_none.2 ?_]
  · rfl
  · intro x hx
    obtain ⟨k, hk, rfl⟩ := List.getElem_of_mem hx
    have h1 := sg_get k hk
    rw [List.getElem?_eq_getElem hk] at h1
    injection h1 with h1
    rw [h1, h k hk]
    simp
theorem pre_take {x l : List Nat} (h : x.isPrefixOf l = true) : l.take x.length = x := (List.prefix_iff_eq_take.1 (List.isPrefixOf_iff_prefix.1 h)).symm

set_option maxHeartbeats 3200000 in
set_option maxRecDepth 100000 in
theorem sign_any (l : List Nat) (ho : okl l) (w : World) (hL : Lx w) :
    Calls Tryz.prog 125 #[.string (T l)] w (TkPost l (signT l) w) := by
  obtain ⟨t, z, hsg⟩ := hL.2.2.2.2.2
  obtain ⟨S, hS⟩ : ∃ S, T l = S := ⟨_, rfl⟩
  have HS := Lib.hid hS
  rw [hS]
  clear hS
  go_enter Tryz.func125, Tryz.ntmps125
  go_wp2_with (refine wpList_load_row rfl 192 (.global 1) rfl 1 rfl t sgV z _ (Below.heap_alloc w _ _ (heap_lt hsg) ▸ hsg) Tryz.underlying192 rfl (by kernel_rfl) ?_)
  generalize hA : sgV = AR
  have HAR := Lib.hid hA
  clear hA hsg
  go_loop [5, 7] (fun _ i => ∃ k : Nat, k ≤ 17 ∧ i = .int .i64 k ∧ noSg l k) (fun _ i => 17 - (intOf i).toNat)
  case atStart => exact ⟨0, Nat.zero_le _, rfl, fun j hj => absurd hj (Nat.not_lt_zero _)⟩
  case round =>
    obtain ⟨k, hk, rfl, hno⟩ := hrel
    have HNO := Lib.hid hno
    clear hno
    by_cases hlt : k < 17
    · obtain ⟨b, hb⟩ : ∃ b, (sg k).isPrefixOf l = b := ⟨_, rfl⟩
      have hp : Lib.hasPrefix S.data.toList (T (sg k)).data.toList = b := by
        rw [← HS.out, T_list, T_list, enc_ascii (sg_ascii k), pre_T (sg_ascii k) ho, hb]
      have hszT : ((T (sg k)).size : Int) = (sz (l.take (sg k).length) : Nat) ∨ b = false := by
        cases b with
        | false => exact .inr rfl
        | true => exact .inl (by rw [T_size, pre_take hb])
      have cH := fun W => hasPre hp W
      have hix : ∀ W, (Instr.index 192 (.agg AR) (.int .i64 (k : Int))).run Tryz.prog W = .ok (.string (T (sg k))) W := fun W => by rw [← HAR.out]; exact sg_idx k hlt W
      obtain ⟨X, hX⟩ : ∃ X, T (sg k) = X := ⟨_, rfl⟩
      rw [hX] at hszT hix cH
      have HX := Lib.hid hX
      have HB := Lib.hid hb
      have HSZ := Lib.hid hszT
      clear hX hb hp hszT
      cases b
      · go_wp2_with (go_at_call 124; refine (cH _).mono ?_; rintro e w' ⟨rfl, rfl⟩)
        go_round
        case rel => exact ⟨k + 1, by omega, by go_num, fun j hj => by
          rcases Nat.lt_or_ge j k with h | h
          · exact HNO.out j h
          · rw [show j = k by omega]; exact HB.out⟩
        case measure => simp [intOf]; omega
      · go_wp2_with (go_at_call 124; refine (cH _).mono ?_; rintro e w' ⟨rfl, rfl⟩)
        refine bodyPost_ret (v := .tuple #[.agg #[.int .i64 3, .string X, .int .i64 0, .int .i64 0], .int .i64 (X.size : Int)]) (by simp [results, Tryz.results125, go_sem]) rfl ?_
        refine tk_some (sign_hit HNO.out hlt HB.out) HX.out.symm (HSZ.out.resolve_right (by simp)) ?_
        exact (Below.refl _ _).alloc (Nat.le_refl _) _
    · have hk17 : k = 17 := by omega
      subst hk17
      go_wp2
      refine bodyPost_ret (v := .tuple #[.agg #[.int .i64 0, .string ⟨#[]⟩, .int .i64 0, .int .i64 0], .int .i64 0]) (by simp [results, Tryz.results125, go_sem]) rfl ?_
      refine tk_none (sign_miss HNO.out) ?_
      exact (Below.refl _ _).alloc (Nat.le_refl _) _
end Go.Proofs.YthonaeigacfmbaaGreatDoor.B
namespace Go.Proofs.YthonaeigacfmbaaGreatDoor.B
open Go.RowKit

def Nx (w : World) : Prop := Lib.TabIs Tryz.prog w "internal/strconv.uint64pow10" .u64 Lib.pow10Tab ∧ ∃ m, w.cell? ⟨3, 0, none⟩ = some (.int .i64 m)
theorem Nx.below {w w' : World} (h : Nx w) (hb : Below w.heap.size w w') : Nx w' := by
  obtain ⟨h1, m, h2⟩ := h
  exact ⟨tab_below (g := 8) (by kernel_rfl) h1 hb, m, cell_below h2 hb⟩
end Go.Proofs.YthonaeigacfmbaaGreatDoor.B
namespace Go.Proofs.YthonaeigacfmbaaGreatDoor.B
open Go.Lib

def pcl : List UInt8 → List (List UInt8)
  | [] => [[]]
  | b :: l => if b = 46 then [] :: pcl l else match pcl l with
    | [] => [[b]]
    | x :: r => (b :: x) :: r
def jn : List (List UInt8) → List UInt8
  | [] => []
  | x :: r => x ++ (match r with | [] => [] | _ :: _ => 46 :: jn r)
theorem jn_one (x : List UInt8) : jn [x] = x := by simp [jn]
theorem pcl_ne (l : List UInt8) : pcl l ≠ [] := by
  cases l with
  | nil => simp [pcl]
  | cons b t =>
    unfold pcl
    split
    · simp
    · cases pcl t <;> simp
theorem pcl_none {l : List UInt8} (h : (46 : UInt8) ∉ l) : pcl l = [l] := by
  induction l with
  | nil => rfl
  | cons r t ih =>
    simp only [List.mem_cons, not_or] at h
    unfold pcl
    rw [if_neg (fun e => h.1 e.symm), ih h.2]
theorem pcl_at {a r : List UInt8} (h : (46 : UInt8) ∉ a) : pcl (a ++ 46 :: r) = a :: pcl r := by
  induction a with
  | nil => show pcl (46 :: r) = _; simp [pcl]
  | cons x t ih =>
    simp only [List.mem_cons, not_or] at h
    show pcl (x :: (t ++ 46 :: r)) = _
    rw [pcl, if_neg (fun e => h.1 e.symm), ih h.2]
theorem dot_in (l : List UInt8) : (46 : UInt8) ∉ l ∨ ∃ a r, l = a ++ 46 :: r ∧ (46 : UInt8) ∉ a := by
  induction l with
  | nil => left; simp
  | cons x t ih =>
    by_cases hx : x = 46
    · right; exact ⟨[], t, by rw [hx]; rfl, by simp⟩
    · rcases ih with h | ⟨a, r, rfl, h⟩
      · left; simp; exact ⟨fun e => hx e.symm, h⟩
      · right; exact ⟨x :: a, r, rfl, by simp; exact ⟨fun e => hx e.symm, h⟩⟩
theorem by_pieces (Q : List UInt8 → Prop) (h1 : ∀ l, (46 : UInt8) ∉ l → Q l) (h2 : ∀ a r, (46 : UInt8) ∉ a → Q r → Q (a ++ 46 :: r)) : ∀ l, Q l := by
  have : ∀ n, ∀ l : List UInt8, l.length ≤ n → Q l := by
    intro n
    induction n with
    | zero => intro l hl; rw [List.eq_nil_of_length_eq_zero (by omega : l.length = 0)]; exact h1 _ (by simp)
    | succ n ih =>
      intro l hl
      rcases dot_in l with h | ⟨a, r, rfl, h⟩
      · exact h1 l h
      · exact h2 a r h (ih r (by simp at hl; omega))
  exact fun l => this l.length l (Nat.le_refl _)
theorem jn_cons {x : List UInt8} {r : List (List UInt8)} (h : r ≠ []) : jn (x :: r) = x ++ 46 :: jn r := by
  cases r with
  | nil => exact absurd rfl h
  | cons y t => rfl
theorem pcl_jn {xs : List (List UInt8)} (h : xs ≠ []) (hd : ∀ x ∈ xs, (46 : UInt8) ∉ x) : pcl (jn xs) = xs := by
  induction xs with
  | nil => exact absurd rfl h
  | cons x r ih =>
    by_cases hr : r = []
    · subst hr; rw [jn_one]; exact pcl_none (hd x (by simp))
    · rw [jn_cons hr, pcl_at (hd x (by simp)), ih hr fun y hy => hd y (by simp [hy])]
theorem ibx_none {x : List UInt8} {c : UInt8} (h : c ∉ x) : indexByte x c = -1 := by
  induction x with
  | nil => rfl
  | cons b t ih =>
    simp only [List.mem_cons, not_or] at h
    unfold indexByte
    rw [if_neg (by simp; exact fun e => h.1 e.symm), ih h.2]
    rfl
theorem ibx_at {x y : List UInt8} {c : UInt8} (h : c ∉ x) : indexByte (x ++ c :: y) c = (x.length : Int) := by
  induction x with
  | nil => simp [indexByte]
  | cons b t ih =>
    simp only [List.mem_cons, not_or] at h
    show indexByte (b :: (t ++ c :: y)) c = _
    unfold indexByte
    rw [if_neg (by simp; exact fun e => h.1 e.symm), ih h.2, if_neg (by simp)]
    simp
theorem cut_none {l : List UInt8} (h : (46 : UInt8) ∉ l) : Lib.cut l [46] = (l, [], false) := by
  unfold Lib.cut
  rw [index_one, ibx_none h]
  rfl
theorem cut_at {a r : List UInt8} (h : (46 : UInt8) ∉ a) : Lib.cut (a ++ 46 :: r) [46] = (a, r, true) := by
  unfold Lib.cut
  rw [index_one, ibx_at h, if_pos (by omega)]
  have e : ((a.length : Int)).toNat = a.length := by omega
  rw [e]
  have e2 : (a ++ 46 :: r).drop (a.length + 1) = r := by
    rw [← List.drop_drop, List.drop_left]; rfl
  simp only [List.take_left', List.length_singleton, e2]
theorem pcl_len : ∀ l, 1 ≤ (pcl l).length ∧ (pcl l).length ≤ l.length + 1 := by
  refine by_pieces _ (fun l h => by rw [pcl_none h]; simp) fun a r h ih => ?_
  rw [pcl_at h]; simp; omega
theorem pcl_sz : ∀ l, ∀ x ∈ pcl l, x.length ≤ l.length := by
  refine by_pieces _ (fun l h x hx => ?_) fun a r h ih x hx => ?_
  · rw [pcl_none h] at hx; rw [List.mem_singleton.1 hx]; exact Nat.le_refl _
  · rw [pcl_at h] at hx
    rcases List.mem_cons.1 hx with rfl | hx
    · simp
    · have := ih x hx; simp; omega
end Go.Proofs.YthonaeigacfmbaaGreatDoor.B
namespace Go.Proofs.YthonaeigacfmbaaGreatDoor.B
open Go.Lib

theorem mem_en {r : Nat} (h : ok r) {b : UInt8} (hb : b ∈ en r) : (r < 128 ∧ b = UInt8.ofNat r) ∨ 128 ≤ b.toNat := by
  unfold ok at h
  rcases en_is h with ⟨h1, e⟩ | ⟨h1, h2, e⟩ | ⟨h1, h2, e⟩ | ⟨h1, e⟩
  · rw [e] at hb; simp only [List.mem_singleton] at hb; exact .inl ⟨h1, hb⟩
  all_goals
    rw [e] at hb
    simp only [List.mem_cons, List.not_mem_nil, or_false] at hb
    right
    rcases hb with rfl | rfl | rfl | rfl
    all_goals (rw [u8n _ (by omega)]; omega)
theorem mem_enc {l : List Nat} (ho : okl l) {c : Nat} (hc : c < 128) (h : UInt8.ofNat c ∈ enc l) : c ∈ l := by
  induction l with
  | nil => cases h
  | cons r t ih =>
    obtain ⟨h1, h2⟩ := okl_cons.1 ho
    have h' : UInt8.ofNat c ∈ en r ++ enc t := h
    rcases List.mem_append.1 h' with h3 | h3
    · rcases mem_en h1 h3 with ⟨h4, h5⟩ | h4
      · have := congrArg UInt8.toNat h5
        rw [u8n _ (by omega), u8n _ (by omega)] at this
        rw [this]
        simp
      · rw [u8n _ (by omega)] at h4
        omega
    · exact List.mem_cons_of_mem _ (ih h2 h3)
end Go.Proofs.YthonaeigacfmbaaGreatDoor.B
namespace Go.Proofs.YthonaeigacfmbaaGreatDoor.B
open Go.Lib


theorem dec_digit (u : Nat) : ∀ b ∈ decDigits u, 48 ≤ b.toNat ∧ b.toNat ≤ 57 := by
  induction u using Nat.strongRecOn with
  | _ u ih =>
    intro b hb
    rw [decDigits] at hb
    split at hb
    · simp only [List.mem_singleton] at hb
      rw [hb, u8n _ (by omega)]
      omega
    · rw [List.mem_append] at hb
      rcases hb with hb | hb
      · exact ih (u / 10) (by omega) b hb
      · simp only [List.mem_singleton] at hb
        rw [hb, u8n _ (by omega)]
        omega
theorem dgs_digit (u : Nat) : ∀ r ∈ dgs u, 48 ≤ r ∧ r ≤ 57 := by
  intro r hr
  obtain ⟨b, hb, rfl⟩ := List.mem_map.1 hr
  exact dec_digit u b hb
theorem u8_toNat (l : List UInt8) : u8 (l.map UInt8.toNat) = l := by
  unfold u8
  rw [List.map_map]
  conv => rhs; rw [← List.map_id l]
  refine List.map_congr_left fun b _ => ?_
  simp
theorem enc_dgs (u : Nat) : enc (dgs u) = decDigits u := by
  rw [enc_ascii (fun r hr => by have := dgs_digit u r hr; omega)]
  exact u8_toNat _
theorem enc_numb (n : Int) : enc (numb n) = if n < 0 then 126 :: decDigits n.natAbs else decDigits n.toNat := by
  unfold numb
  split
  · show en 126 ++ enc (dgs _) = _
    rw [enc_dgs]
    rfl
  · exact enc_dgs _
theorem no45 {d : List UInt8} (h : ∀ b ∈ d, 48 ≤ b.toNat ∧ b.toNat ≤ 57) : index d [45] = -1 := by
  rw [index_one]
  induction d with
  | nil => rfl
  | cons b t ih =>
    have hb := h b (by simp)
    have hne : (b == 45) = false := by
      rw [beq_eq_false_iff_ne]
      rintro rfl
      exact absurd hb (by decide)
    unfold indexByte
    rw [hne, ih (fun x hx => h x (by simp [hx]))]
    rfl
theorem count45 {d : List UInt8} (h : ∀ b ∈ d, 48 ≤ b.toNat ∧ b.toNat ≤ 57) : count d [45] = 0 := count_miss (no45 h)
theorem index45 (d : List UInt8) : index (45 :: d) [45] = 0 := by
  unfold index
  simp
theorem count45c {d : List UInt8} (h : ∀ b ∈ d, 48 ≤ b.toNat ∧ b.toNat ≤ 57) : count (45 :: d) [45] = 1 := by
  rw [count_hit (i := 0) (by simp) (index45 d)]
  show 1 + count d [45] = 1
  rw [count45 h]
theorem rep_pos {d : List UInt8} (h : ∀ b ∈ d, 48 ≤ b.toNat ∧ b.toNat ≤ 57) : replace d [45] [126] 1 = d := by
  have e : replaceNum d [45] 1 = 0 := by
    unfold replaceNum
    rw [count45 h]
    rfl
  unfold replace
  rw [e]
  rfl
theorem rep_neg {d : List UInt8} (h : ∀ b ∈ d, 48 ≤ b.toNat ∧ b.toNat ≤ 57) : replace (45 :: d) [45] [126] 1 = 126 :: d := by
  have e : replaceNum (45 :: d) [45] 1 = 1 := by
    unfold replaceNum
    rw [count45c h]
    rfl
  unfold replace
  rw [e, if_neg (by decide), replaceK_hit _ _ _ _ 0 (index45 d)]
  rfl
theorem rep_itoa (n : Int) : replace (itoa n) [45] [126] 1 = enc (numb n) := by
  rw [enc_numb]
  unfold itoa
  split
  · exact rep_neg (dec_digit _)
  · exact rep_pos (dec_digit _)
theorem count_itoa (n : Int) : count (itoa n) [45] ≤ 1 := by
  unfold itoa
  split
  · rw [count45c (dec_digit _)]; exact Nat.le_refl _
  · rw [count45 (dec_digit _)]; omega
/-! ### no two numbers have the same digits -/
end Go.Proofs.YthonaeigacfmbaaGreatDoor.B
namespace Go.Proofs.YthonaeigacfmbaaGreatDoor.B
open Go.Lib

def tx (l : List UInt8) : ByteArray := ⟨l.toArray⟩
theorem tx_list (l : List UInt8) : (tx l).data.toList = l := rfl
theorem tx_of (s : ByteArray) : tx s.data.toList = s := ba_ext rfl
theorem tx_size (l : List UInt8) : (tx l).size = l.length := by rw [size_eq]; rfl
theorem app_list (s t : ByteArray) : (s ++ t).data.toList = s.data.toList ++ t.data.toList := by rw [ByteArray.data_append, Array.toList_append]
/-! ### a name -/
def nck (s : ByteArray) : Bool := nm s && !wrd s
theorem nck_nm {s : ByteArray} (h : nck s = true) : nm s = true ∧ wrd s = false := by
  unfold nck at h; simpa using h
theorem nck_runes {s : ByteArray} (h : nm s = true) : (1 ≤ s.size ∧ s.size ≤ 32) ∧ okl (rns s 0) ∧ T (rns s 0) = s ∧ nmL (rns s 0) = true := by
  unfold nm at h
  rw [Bool.and_eq_true, decide_eq_true_iff] at h
  obtain ⟨h1, h2⟩ := h
  have hv : vls s 0 = true := by
    cases hv : vls s 0
    · rw [nm_bad s 0 hv] at h2; cases h2
    · rfl
  exact ⟨h1, rns_okl hv, T_rns hv, by rw [← nm_list]; exact h2⟩
theorem nck_size {s : ByteArray} (h : nck s = true) : 1 ≤ s.size ∧ s.size ≤ 32 := (nck_runes (nck_nm h).1).1
theorem mst_46 (b : Bool) : mst 46 b = false := by cases b <;> decide
theorem nmL_all {l : List Nat} (h : nmL l = true) : ∀ r ∈ l, ∃ b, mst (r : Int) b = true := by
  cases l with
  | nil => intro r hr; cases hr
  | cons x t =>
    unfold nmL at h
    rw [Bool.and_eq_true, List.all_eq_true] at h
    intro r hr
    rcases List.mem_cons.1 hr with rfl | hr
    · exact ⟨true, h.1⟩
    · exact ⟨false, h.2 r hr⟩
theorem nck_dot {s : ByteArray} (h : nck s = true) : (46 : UInt8) ∉ s.data.toList := by
  obtain ⟨_, h2, h3, h4⟩ := nck_runes (nck_nm h).1
  intro hm
  rw [← h3, T_list] at hm
  obtain ⟨b, hb⟩ := nmL_all h4 46 (mem_enc (c := 46) h2 (by omega) hm)
  rw [show ((46 : Nat) : Int) = 46 from rfl, mst_46] at hb
  cases hb
theorem dgs_ne (k : Nat) : dgs k ≠ [] := by
  unfold dgs
  rw [decDigits]
  split <;> simp
/-! ### long names -/
def pc (s : ByteArray) : List ByteArray := (pcl s.data.toList).map tx
def jb (l : List ByteArray) : ByteArray := tx (jn (l.map fun x => x.data.toList))
def long (s : ByteArray) : Bool := decide (s.size ≤ 128) && (pc s).all nck
def splt (s : ByteArray) : List ByteArray := if long s then pc s else []
theorem pc_ne (s : ByteArray) : pc s ≠ [] := by
  unfold pc
  intro h
  exact pcl_ne _ (List.map_eq_nil_iff.1 h)
theorem pc_jb {l : List ByteArray} (h : l ≠ []) (hn : l.all nck = true) : pc (jb l) = l := by
  unfold pc jb
  rw [tx_list, pcl_jn (by simpa using h) (by
    intro x hx
    obtain ⟨y, hy, rfl⟩ := List.mem_map.1 hx
    exact nck_dot ((List.all_eq_true.1 hn) y hy)), List.map_map]
  conv => rhs; rw [← List.map_id l]
  exact List.map_congr_left fun x _ => tx_of x
theorem long_is {s : ByteArray} : long s = true ↔ s.size ≤ 128 ∧ (pc s).all nck = true := by
  unfold long; rw [Bool.and_eq_true, decide_eq_true_iff]
theorem splt_long {s : ByteArray} (h : long s = true) : splt s = pc s := by unfold splt; rw [if_pos h]
theorem splt_not {s : ByteArray} (h : long s = false) : splt s = [] := by unfold splt; rw [h]; rfl
theorem splt_len (s : ByteArray) : long s = decide (0 < (splt s).length) := by
  cases h : long s
  · rw [splt_not h]; rfl
  · rw [splt_long h]
    have := pc_ne s
    cases hp : pc s with
    | nil => exact absurd hp this
    | cons a b => simp
theorem pc_len (s : ByteArray) : 1 ≤ (pc s).length ∧ (pc s).length ≤ s.size + 1 := by
  unfold pc
  rw [List.length_map, size_eq]
  exact pcl_len _
theorem pc_sz (s : ByteArray) : ∀ x ∈ pc s, x.size ≤ s.size := by
  intro x hx
  obtain ⟨y, hy, rfl⟩ := List.mem_map.1 hx
  rw [tx_size, size_eq]
  exact pcl_sz _ y hy
theorem long_jb {l : List ByteArray} (h : l ≠ []) (hn : l.all nck = true) : long (jb l) = decide ((jb l).size ≤ 128) := by
  unfold long
  rw [pc_jb h hn, hn, Bool.and_true]

/-! ### the first name, and the rest -/
def hd (s : ByteArray) : ByteArray := (splt s).headD ⟨#[]⟩
theorem jb_one (x : ByteArray) : jb [x] = x := by unfold jb; rw [List.map_cons, List.map_nil, jn_one, tx_of]
/-! ### joined -/
/-! ### under, and moved -/
/-! ### a name that is not taken -/
end Go.Proofs.YthonaeigacfmbaaGreatDoor.B
