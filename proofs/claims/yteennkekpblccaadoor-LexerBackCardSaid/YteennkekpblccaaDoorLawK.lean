/-
  The walk of LexerBack.
-/
import Derived.Test.YteennkekpblccaaDoorShow
import Derived.Test.YteennkekpblccaaDoorBck
import Derived.RegionTactic
import Derived.BigRegion
namespace Go.Proofs.YteennkekpblccaaDoor
open Go.RowKit

theorem below_two {w wr : World} (h : Below w.heap.size w wr) (o o' : Obj) : Below w.heap.size w ((wr.alloc o).alloc o').drew := by
  have k := (h.alloc h.size o).alloc (by simp; have := h.size; omega) o'
  exact ⟨k.os, k.tape, k.output, k.size, k.block⟩
set_option maxHeartbeats 12800000 in
set_option maxRecDepth 100000 in
theorem lawBack (s : ByteArray) (w : World) (hs : s.size ≤ 9223372036854775807) (hL : Lx w) : Calls Tryd.prog 4 #[.string s] w (Yes w) := by
  have cF := few_any s w hs
  have hfw := fw_le s
  generalize fw s = t at cF hfw
  clear hs
  have hz : t.size ≤ 1000000000 := by omega
  have c1 := fun W hL => lex_any t hz W hL
  obtain ⟨toks, a, b, hr⟩ : ∃ toks a b, lexR t = (toks, a, b) := ⟨_, _, _, rfl⟩
  rw [hr] at c1
  have C1 := Lib.hid c1
  clear c1
  rcases lexR_out hr with ⟨rfl, rfl, L, hT, hlex⟩ | ⟨hb, rfl⟩
  · have hnl := lex_len' hT hlex
    obtain ⟨hz1, hone, r, hr2, hmap⟩ := lex_shown hT hfw hlex
    have hlr : r.length = toks.length := by have := congrArg List.length hmap; simpa using this
    have HALL : Hid ((toks.map raw).all tld = true) := Lib.hid (by
      rw [List.all_eq_true]
      intro y hy
      obtain ⟨x, hx, rfl⟩ := List.mem_map.1 hy
      have := (hone x hx).1
      exact told_one (by show (lexR (T x.1.x)).1 = _; rw [this]) (by simp [raw]))
    have hsh : shB (toks.map raw) = T (jn (toks.map (·.1.x))) := by
      apply ba_ext
      rw [T_list, jn_enc]
      unfold shB
      rw [List.map_map, List.map_map]
      rfl
    have c2 := fun v B W hL ht hB => show_any v (toks.map raw) B (by rw [List.length_map]; omega) (fun x hx => by
      obtain ⟨y, hy, rfl⟩ := List.mem_map.1 hx
      have := (hone y hy).2
      show (T y.1.x).size ≤ _
      rw [T_size]; omega) (by
      have : (shB (toks.map raw)).size ≤ 1000000000 := by rw [hsh, T_size]; omega
      rw [Lib.size_eq] at this
      exact this) W hL ht hB
    have C2 : Hid (∀ (v : Value) (B : Nat) (W : World), Lx W → RTks W B v (toks.map raw) → B ≤ W.heap.size → Calls Tryd.prog 13 #[v] W fun e w' => e = .returned (.tuple #[.string (T (jn (toks.map (·.1.x)))), .int .i64 0]) ∧ Below W.heap.size W w') := Lib.hid (fun v B W hL ht hB => (c2 v B W hL ht hB).mono fun _ _ k => by
      unfold ShowPost at k
      rw [HALL.out, hsh] at k
      exact k)
    have c3 := fun W hL => lex_any (T (jn (toks.map (·.1.x)))) (by rw [T_size]; omega) W hL
    rw [hr2] at c3
    have C3 := Lib.hid c3
    have HMAP := Lib.hid hmap
    obtain ⟨n, hn⟩ : ∃ n, toks.length = n := ⟨_, rfl⟩
    have HN := Lib.hid hn
    have HR := Lib.hid (hlr.trans hn)
    have hnb : n ≤ 300 := by omega
    clear hr hnl hz1 hone hr2 hmap hlr hsh c2 c3 hn hT hlex
    go_enter Tryd.func4, Tryd.ntmps4
    go_wp2_with fail
    refine cF.mono ?_
    rintro e w' ⟨rfl, rfl⟩
    go_wp2_with fail
    refine (C1.out w hL).mono ?_
    rintro e w1 ⟨v, rfl, ht, hb1⟩
    have HTK := Lib.hid ht
    obtain ⟨A, c, rfl⟩ := ht.form
    dsimp only at HTK ⊢
    rw [HN.out] at HTK ⊢
    clear ht
    go_wp2_with fail
    refine (C2.out _ w1.heap.size w1 (hL.below hb1) HTK.out.raw (Nat.le_refl _)).mono ?_
    rintro e w2 ⟨rfl, hb2⟩
    have hbw2 := hb1.trans (hb2.mono hb1.size)
    have HTK2 := Lib.hid (HTK.out.below hb2)
    have hs12 := hb2.size
    obtain ⟨TX, hTX⟩ : ∃ TX, T (jn (toks.map (·.1.x))) = TX := ⟨_, rfl⟩
    rw [hTX] at C3 ⊢
    clear hTX hb2
    go_wp2_with fail
    refine (C3.out w2 (hL.below hbw2)).mono ?_
    rintro e w3 ⟨v3, rfl, ht3, hb3⟩
    have HTK3 := Lib.hid ht3
    obtain ⟨A3, c3, rfl⟩ := ht3.form
    dsimp only at HTK3 ⊢
    rw [HR.out] at HTK3 ⊢
    have hbw3 := hbw2.trans (hb3.mono hbw2.size)
    have HTK1 := Lib.hid ((HTK2.out.more hs12).below hb3)
    have hs23 := hb3.size
    clear ht3 hb3
    go_wp2
    go_loopw [55] (fun i wr => ∃ (k : Nat), k ≤ n ∧ i = .int .i64 k ∧ Below w.heap.size w wr ∧ Below w3.heap.size w3 wr) (fun i _ => n - (intOf i).toNat)
    case atStart => exact ⟨0, Nat.zero_le _, rfl, hbw3, Below.refl _ _⟩
    case round =>
      obtain ⟨k, hk, rfl, hbw, hb3w⟩ := hrel
      by_cases hlt : k < n
      · obtain ⟨x, hx⟩ : ∃ x, toks[k]? = some x := ⟨_, List.getElem?_eq_getElem (by rw [HN.out]; exact hlt)⟩
        obtain ⟨y, hy⟩ : ∃ y, r[k]? = some y := ⟨_, List.getElem?_eq_getElem (by rw [HR.out]; exact hlt)⟩
        have hxy : x.1 = y.1 := by
          have := congrArg (·[k]?) HMAP.out
          simp only [List.getElem?_map, hx, hy, Option.map_some] at this
          injection this with this
          exact this.symm
        obtain ⟨ad, rfl, hadB, hat⟩ := HTK1.out.at_ hx
        obtain ⟨ad3, rfl, hadB3, hat3⟩ := HTK3.out.at_ hy
        have hat' := hat.below hb3w (by rw [addBlock]; omega)
        have hat3' := hat3.below hb3w (by rw [addBlock]; exact hadB3)
        rw [← hxy] at hat3'
        have hq1 : (ad.add (k * 4)).block < wr.heap.size := by have := hb3w.size; rw [addBlock]; omega
        have hq2 : (ad3.add (k * 4)).block < wr.heap.size := by have := hb3w.size; rw [addBlock]; omega
        clear hat hat3 hx hy hadB hadB3 hxy
        generalize x.1.k = K at hat' hat3'
        generalize T x.1.x = X at hat' hat3'
        generalize x.1.n = M at hat' hat3'
        generalize ((x.2 : Nat) : Int) = P at hat'
        generalize ((y.2 : Nat) : Int) = P' at hat3'
        obtain ⟨p0, p1, p2, p3⟩ := hat'
        obtain ⟨q0, q1, q2, q3⟩ := hat3'
        have hlz : (k : Int) < (n : Int) := by omega
        go_wp2
        go_region
        all_goals
          go_wp2
          go_roundw
          case rel => exact ⟨k + 1, by omega, by go_num, below_two hbw _ _, below_two hb3w _ _⟩
          case measure => simp [intOf]; omega
      · have hlz : ¬ (k : Int) < (n : Int) := by omega
        go_wp2_with fail
        refine (works_any _ (hL.below hbw)).mono ?_
        rintro e w4 ⟨rfl, hb4⟩
        have hfin := hbw.trans (hb4.mono hbw.size)
        go_wp2
        go_ret
        exact ⟨rfl, hfin⟩
  · have hb0 : (b == 0) = false := by rw [beq_eq_false_iff_ne]; exact hb
    have hbn : (b != 0) = true := by rw [bne, hb0]; rfl
    clear hr hb
    go_enter Tryd.func4, Tryd.ntmps4
    go_wp2_with fail
    refine cF.mono ?_
    rintro e w' ⟨rfl, rfl⟩
    go_wp2_with fail
    refine (C1.out w hL).mono ?_
    rintro e w1 ⟨v, rfl, ht, hb1⟩
    obtain ⟨A, c, rfl⟩ := ht.form
    dsimp only [List.length_nil]
    clear ht
    go_wp2_with fail
    refine (works_any _ (hL.below hb1)).mono ?_
    rintro e w4 ⟨rfl, hb4⟩
    have hfin := hb1.trans (hb4.mono hb1.size)
    go_wp2
    go_ret
    exact ⟨rfl, hfin⟩
end Go.Proofs.YteennkekpblccaaDoor
