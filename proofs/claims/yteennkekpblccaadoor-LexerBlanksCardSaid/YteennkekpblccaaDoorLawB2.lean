/-
  The walk of LexerBlanks.
-/
import Derived.Test.YteennkekpblccaaDoorLawP
import Derived.Test.YteennkekpblccaaDoorBlk
namespace Go.Proofs.YteennkekpblccaaDoor
open Go.RowKit

set_option maxHeartbeats 1600000 in
set_option maxRecDepth 100000 in
theorem check_long (s : ByteArray) (w : World) (h : 16384 < s.size) (_hs : s.size ≤ 9223372036854775807) :
    Calls Tryd.prog 14 #[.string s] w (CkPost s w) := by
  have hz : (16384 : Int) < (s.size : Int) := by omega
  go_enter Tryd.func14, Tryd.ntmps14
  go_wp2
  go_ret2
  exact ck_long h (Below.refl _ _)
theorem check_any (s : ByteArray) (w : World) (hs : s.size ≤ 9223372036854775807) :
    Calls Tryd.prog 14 #[.string s] w fun e w' => e = .returned (.tuple #[.int .i64 (ckr s).1, .int .i64 (ckr s).2]) ∧ Below w.heap.size w w' := by
  by_cases h : 16384 < s.size
  · exact check_long s w h hs
  · exact goodCheck s w (by omega)
theorem app_size (a b : ByteArray) : (a ++ b).size = a.size + b.size := by
  rw [Lib.size_eq, ByteArray.data_append, Array.toList_append, List.length_append, ← Lib.size_eq, ← Lib.size_eq]
theorem below_three {w wr : World} (h : Below w.heap.size w wr) (o o' : Obj) : Below w.heap.size w ((wr.alloc o).alloc o') :=
  (h.alloc h.size o).alloc (by simp; have := h.size; omega) o'

set_option maxHeartbeats 12800000 in
set_option maxRecDepth 100000 in
theorem lawBlanks (s s' gap : ByteArray) (w : World) (hs : s.size ≤ 9223372036854775807) (hs' : s'.size ≤ 9223372036854775807) (hgs : gap.size ≤ 9223372036854775807) (hL : Lx w) :
    Calls Tryd.prog 5 #[.string s, .string s', .string gap] w (Yes w) := by
  have cF := few_any s w hs
  have hfa := fw_le s
  generalize fw s = a at cF hfa
  have cF' := few_any s' w hs'
  have hfb := fw_le s'
  generalize fw s' = b at cF' hfb
  clear hs hs'
  obtain ⟨x, xa, ea, hx⟩ : ∃ x xa ea, lexR a = (x, xa, ea) := ⟨_, _, _, rfl⟩
  obtain ⟨y, yb, eb, hy⟩ : ∃ y yb eb, lexR b = (y, yb, eb) := ⟨_, _, _, rfl⟩
  have cA := fun W hL => lex_any a (by omega) W hL
  have cB := fun W hL => lex_any b (by omega) W hL
  have cG := fun W => check_any gap W hgs
  rw [hx] at cA
  rw [hy] at cB
  obtain ⟨g1, eg, hg⟩ : ∃ g1 eg, ckr gap = (g1, eg) := ⟨_, _, rfl⟩
  rw [hg] at cG
  obtain ⟨AB, hAB⟩ : ∃ AB, AB = a ++ ⟨#[32, 40, 42]⟩ ++ gap ++ ⟨#[42, 41, 32]⟩ ++ b := ⟨_, rfl⟩
  obtain ⟨ZZ, hZZ⟩ : ∃ ZZ, ZZ = (⟨#[40, 42]⟩ : ByteArray) ++ gap ++ ⟨#[42, 41]⟩ := ⟨_, rfl⟩
  have zs1 : (ByteArray.mk #[32, 40, 42]).size = 3 := rfl
  have zs2 : (ByteArray.mk #[42, 41, 32]).size = 3 := rfl
  have zs3 : (ByteArray.mk #[40, 42]).size = 2 := rfl
  have zs4 : (ByteArray.mk #[42, 41]).size = 2 := rfl
  have hABs : gap.size ≤ 100 → AB.size ≤ 1000000000 := fun h => by rw [hAB, app_size, app_size, app_size, app_size, zs1, zs2]; omega
  have hZZs : gap.size ≤ 100 → ZZ.size ≤ 1000000000 := fun h => by rw [hZZ, app_size, app_size, zs3, zs4]; omega
  have cC := fun h W hL => lex_any AB (hABs h) W hL
  have cZ := fun h W hL => lex_any ZZ (hZZs h) W hL
  obtain ⟨c, cc, ec, hc⟩ : ∃ c cc ec, lexR AB = (c, cc, ec) := ⟨_, _, _, rfl⟩
  obtain ⟨z, zc, ez, hz⟩ : ∃ z zc ez, lexR ZZ = (z, zc, ez) := ⟨_, _, _, rfl⟩
  rw [hc] at cC
  rw [hz] at cZ
  have hgl : gap.size ≤ 100 → a.size + 3 + gap.size + 3 + b.size ≤ 1000 := fun h => by omega
  have MAIN : Hid (ea = 0 → eb = 0 → eg = 0 → ec = 0 → ez = 0 → z.length = 0 → c.map (·.1) = x.map (·.1) ++ y.map (·.1)) := Lib.hid (by
    rintro rfl rfl rfl rfl rfl hz0
    rcases lexR_out hx with ⟨_, _, La, hTa, hla⟩ | ⟨h, _⟩
    · rcases lexR_out hy with ⟨_, _, Lb, hTb, hlb⟩ | ⟨h, _⟩
      · obtain ⟨Lg, hTg, _⟩ := ckr_ok' (s := gap) (by rw [hg])
        have hz1 : z = [] := List.eq_nil_of_length_eq_zero hz0
        rcases lexR_out hz with ⟨_, e2, _⟩ | ⟨h, _⟩
        · rcases lexR_out hc with ⟨_, e3, _⟩ | ⟨h, _⟩
          · refine blanks_ok hTa hTb hTg hla hlb ?_ ?_
            · rw [show T [40, 42] ++ gap ++ T [42, 41] = ZZ from by rw [hZZ]; rfl, hz, hz1, e2]
            · rw [show a ++ T [32, 40, 42] ++ gap ++ T [42, 41, 32] ++ b = AB from by rw [hAB]; rfl, hc, e3]
          · exact absurd rfl h
        · exact absurd rfl h
      · exact absurd rfl h
    · exact absurd rfl h)
  have HNA : Hid (x.length ≤ 300 ∧ y.length ≤ 300) := Lib.hid (by
    constructor
    · rcases lexR_out hx with ⟨_, _, La, hTa, hla⟩ | ⟨_, h⟩
      · have := lex_len' hTa hla; omega
      · rw [h]; simp
    · rcases lexR_out hy with ⟨_, _, La, hTa, hla⟩ | ⟨_, h⟩
      · have := lex_len' hTa hla; omega
      · rw [h]; simp)
  have CA := Lib.hid cA
  have CB := Lib.hid cB
  have CC := Lib.hid cC
  have CZ := Lib.hid cZ
  have HAB := Lib.hid hAB
  have HZZ := Lib.hid hZZ
  clear cA cB cC cZ hx hy hg hc hz hAB hZZ hABs hZZs zs1 zs2 zs3 zs4 hgl
  go_enter Tryd.func5, Tryd.ntmps5
  go_wp2_with fail
  refine cF.mono ?_
  rintro e w' ⟨rfl, rfl⟩
  go_wp2_with fail
  refine cF'.mono ?_
  rintro e w' ⟨rfl, rfl⟩
  go_wp2_with fail
  refine (CA.out w hL).mono ?_
  rintro e w1 ⟨vx, rfl, htx, hb1⟩
  have HX := Lib.hid htx
  obtain ⟨Ax, kx, rfl⟩ := htx.form
  clear htx
  dsimp only at HX ⊢
  go_wp2_with fail
  refine (CB.out w1 (hL.below hb1)).mono ?_
  rintro e w2 ⟨vy, rfl, hty, hb2⟩
  have HX2 := Lib.hid (HX.out.below hb2)
  have hs12 := hb2.size
  have HY := Lib.hid hty
  obtain ⟨Ay, ky, rfl⟩ := hty.form
  have hbw2 := hb1.trans (hb2.mono hb1.size)
  clear hty hb2 HX
  dsimp only at HX2 HY ⊢
  go_wp2_with fail
  refine (cG w2).mono ?_
  rintro e w3 ⟨rfl, hb3⟩
  have hs23 := hb3.size
  have HX3 := Lib.hid ((HX2.out.more hs12).below hb3)
  have HY3 := Lib.hid (HY.out.below hb3)
  have hbw3 := hbw2.trans (hb3.mono hbw2.size)
  clear hb3 HX2 HY
  dsimp only
  by_cases hg0 : eg = 0
  · have hgn : (eg != 0) = false := by rw [hg0]; rfl
    by_cases hg100 : gap.size ≤ 100
    · have hgz : ¬ (100 : Int) < (gap.size : Int) := by omega
      have HG0 := Lib.hid hg0
      clear hg0
      go_wp2_with fail
      rw [← HAB.out]
      refine (CC.out hg100 w3 (hL.below hbw3)).mono ?_
      rintro e w4 ⟨vc, rfl, htc, hb4⟩
      have hs34 := hb4.size
      have HX4 := Lib.hid ((HX3.out.more hs23).below hb4)
      have HY4 := Lib.hid ((HY3.out.more hs23).below hb4)
      have HC := Lib.hid htc
      obtain ⟨Ac, kc, rfl⟩ := htc.form
      have hbw4 := hbw3.trans (hb4.mono hbw3.size)
      clear htc hb4 HX3 HY3
      dsimp only at HX4 HY4 HC ⊢
      by_cases ha0 : ea = 0
      · have han : (ea != 0) = false := by rw [ha0]; rfl
        by_cases hb0 : eb = 0
        · have hbn : (eb != 0) = false := by rw [hb0]; rfl
          by_cases hc0 : ec = 0
          · have hcn : (ec != 0) = false := by rw [hc0]; rfl
            have H0 := Lib.hid (And.intro ha0 (And.intro hb0 hc0))
            clear ha0 hb0 hc0
            go_wp2_with fail
            rw [← HZZ.out]
            refine (CZ.out hg100 w4 (hL.below hbw4)).mono ?_
            rintro e w5 ⟨vz, rfl, htz, hb5⟩
            have hs45 := hb5.size
            have HX5 := Lib.hid ((HX4.out.more hs34).below hb5)
            have HY5 := Lib.hid ((HY4.out.more hs34).below hb5)
            have HC5 := Lib.hid (HC.out.below hb5)
            have hbw5 := hbw4.trans (hb5.mono hbw4.size)
            obtain ⟨Az, kz, rfl⟩ := htz.form
            clear htz hb5 HX4 HY4 HC
            dsimp only at HX5 HY5 HC5 ⊢
            by_cases hz0 : ez = 0
            · have hzn : (ez != 0) = false := by rw [hz0]; rfl
              by_cases hzl : z.length = 0
              · have hzl2 : ((z.length : Int) != 0) = false := by rw [hzl]; rfl
                have hmap := MAIN.out H0.out.1 H0.out.2.1 HG0.out H0.out.2.2 hz0 hzl
                have hlen : c.length = x.length + y.length := by have := congrArg List.length hmap; simpa using this
                have HMAP := Lib.hid hmap
                clear hz0 hzl hmap MAIN
                obtain ⟨n1, hn1⟩ : ∃ n, x.length = n := ⟨_, rfl⟩
                obtain ⟨n2, hn2⟩ : ∃ n, y.length = n := ⟨_, rfl⟩
                obtain ⟨n, hn⟩ : ∃ n, c.length = n := ⟨_, rfl⟩
                have hle1 := HNA.out.1
                have hle2 := HNA.out.2
                rw [hn1] at HX5 hlen hle1
                rw [hn2] at HY5 hlen hle2
                rw [hn] at HC5 hlen
                rw [hn1, hn2, hn]
                have HN1 := Lib.hid hn1
                have HN2 := Lib.hid hn2
                have HN := Lib.hid hn
                have hnn : ((n : Int) != (n1 : Int) + (n2 : Int)) = false := by rw [bne_eq_false_iff_eq]; omega
                have hln1 : n ≤ n1 + n2 := by omega
                have hln2 : n1 + n2 ≤ n := by omega
                clear hn1 hn2 hn hlen
                go_wp2
                go_loopw [21, 102] (fun _ i wr => ∃ k : Nat, k ≤ n ∧ i = .int .i64 k ∧ Below w.heap.size w wr ∧ Below w5.heap.size w5 wr) (fun _ i _ => n - (intOf i).toNat)
                case atStart => exact ⟨0, Nat.zero_le _, rfl, hbw5, Below.refl _ _⟩
                case round =>
                  obtain ⟨k, hk, rfl, hbw, hb5w⟩ := hrel
                  have hs5w := hb5w.size
                  by_cases hlt : k < n
                  · have hlz : (k : Int) < (n : Int) := by omega
                    obtain ⟨tc, htc⟩ : ∃ x, c[k]? = some x := ⟨_, List.getElem?_eq_getElem (by rw [HN.out]; exact hlt)⟩
                    obtain ⟨adc, rfl, hcB, hatc⟩ := HC5.out.at_ htc
                    have hatc' := hatc.below hb5w (by rw [addBlock]; omega)
                    by_cases hk1 : k < n1
                    · have hk1z : (k : Int) < (n1 : Int) := by omega
                      obtain ⟨tx, htx⟩ : ∃ t, x[k]? = some t := ⟨_, List.getElem?_eq_getElem (by rw [HN1.out]; exact hk1)⟩
                      have hxy : tc.1 = tx.1 := by
                        have := congrArg (·[k]?) HMAP.out
                        simp only [List.getElem?_map, htc, Option.map_some] at this
                        rw [List.getElem?_append_left (by rw [List.length_map, HN1.out]; exact hk1), List.getElem?_map, htx] at this
                        injection this
                      obtain ⟨adx, rfl, hxB, hatx⟩ := HX5.out.at_ htx
                      have hatx' := hatx.below hb5w (by rw [addBlock]; omega)
                      rw [← hxy] at hatx'
                      have hq1 : (adc.add (k * 4)).block < wr.heap.size := by rw [addBlock]; omega
                      have hq2 : (adx.add (k * 4)).block < wr.heap.size := by rw [addBlock]; omega
                      clear hatc hatx htc htx hcB hxB hxy
                      generalize tc.1.k = K at hatc' hatx'
                      generalize T tc.1.x = X at hatc' hatx'
                      generalize tc.1.n = M at hatc' hatx'
                      generalize ((tc.2 : Nat) : Int) = P at hatc'
                      generalize ((tx.2 : Nat) : Int) = P' at hatx'
                      obtain ⟨p0, p1, p2, p3⟩ := hatc'
                      obtain ⟨q0, q1, q2, q3⟩ := hatx'
                      go_wp2
                      go_roundw
                      case rel => exact ⟨k + 1, by omega, by go_num, below_three hbw _ _, below_three hb5w _ _⟩
                      case measure => simp [intOf]; omega
                    · have hk1z : ¬ (k : Int) < (n1 : Int) := by omega
                      obtain ⟨j, hj⟩ : ∃ j, k = n1 + j := ⟨k - n1, by omega⟩
                      have hjn : j < n2 := by omega
                      obtain ⟨tx, htx⟩ : ∃ t, y[j]? = some t := ⟨_, List.getElem?_eq_getElem (by rw [HN2.out]; exact hjn)⟩
                      have hxy : tc.1 = tx.1 := by
                        have := congrArg (·[k]?) HMAP.out
                        simp only [List.getElem?_map, htc, Option.map_some] at this
                        rw [List.getElem?_append_right (by rw [List.length_map, HN1.out]; omega), List.length_map, HN1.out, show k - n1 = j by omega, List.getElem?_map, htx] at this
                        injection this
                      obtain ⟨adx, rfl, hxB, hatx⟩ := HY5.out.at_ htx
                      have hatx' := hatx.below hb5w (by rw [addBlock]; omega)
                      rw [← hxy] at hatx'
                      have hq1 : (adc.add (k * 4)).block < wr.heap.size := by rw [addBlock]; omega
                      have hq2 : (adx.add (j * 4)).block < wr.heap.size := by rw [addBlock]; omega
                      clear hatc hatx htc htx hcB hxB hxy
                      generalize tc.1.k = K at hatc' hatx'
                      generalize T tc.1.x = X at hatc' hatx'
                      generalize tc.1.n = M at hatc' hatx'
                      generalize ((tc.2 : Nat) : Int) = P at hatc'
                      generalize ((tx.2 : Nat) : Int) = P' at hatx'
                      have hjz : (k : Int) - (n1 : Int) = (j : Int) := by omega
                      have hjz2 : (j : Int) < (n2 : Int) := by omega
                      clear hj
                      obtain ⟨p0, p1, p2, p3⟩ := hatc'
                      obtain ⟨q0, q1, q2, q3⟩ := hatx'
                      go_wp2
                      go_roundw
                      case rel => exact ⟨k + 1, by omega, by go_num, below_three hbw _ _, below_three hb5w _ _⟩
                      case measure => simp [intOf]; omega
                  · have hlz : ¬ (k : Int) < (n : Int) := by omega
                    go_wp2_with fail
                    refine (works_any _ (hL.below hbw)).mono ?_
                    rintro e w9 ⟨rfl, hb9⟩
                    have hfin := hbw.trans (hb9.mono hbw.size)
                    go_wp2
                    go_ret
                    exact ⟨rfl, hfin⟩
              · have hzl2 : ((z.length : Int) != 0) = true := by rw [bne_iff_ne]; omega
                generalize z.length = zl at hzl2 hzl
                clear hzl
                go_wp2_with fail
                refine (works_any _ (hL.below hbw5)).mono ?_
                rintro e w9 ⟨rfl, hb9⟩
                have hfin := hbw5.trans (hb9.mono hbw5.size)
                go_wp2
                go_ret
                exact ⟨rfl, hfin⟩
            · have hzn : (ez != 0) = true := by rw [bne_iff_ne]; exact hz0
              clear hz0
              go_wp2_with fail
              refine (works_any _ (hL.below hbw5)).mono ?_
              rintro e w9 ⟨rfl, hb9⟩
              have hfin := hbw5.trans (hb9.mono hbw5.size)
              go_wp2
              go_ret
              exact ⟨rfl, hfin⟩
          · have hcn : (ec != 0) = true := by rw [bne_iff_ne]; exact hc0
            clear ha0 hb0 hc0
            go_wp2_with fail
            refine (works_any _ (hL.below hbw4)).mono ?_
            rintro e w9 ⟨rfl, hb9⟩
            have hfin := hbw4.trans (hb9.mono hbw4.size)
            go_wp2
            go_ret
            exact ⟨rfl, hfin⟩
        · have hbn : (eb != 0) = true := by rw [bne_iff_ne]; exact hb0
          clear ha0 hb0
          go_wp2_with fail
          refine (works_any _ (hL.below hbw4)).mono ?_
          rintro e w9 ⟨rfl, hb9⟩
          have hfin := hbw4.trans (hb9.mono hbw4.size)
          go_wp2
          go_ret
          exact ⟨rfl, hfin⟩
      · have han : (ea != 0) = true := by rw [bne_iff_ne]; exact ha0
        clear ha0
        go_wp2_with fail
        refine (works_any _ (hL.below hbw4)).mono ?_
        rintro e w9 ⟨rfl, hb9⟩
        have hfin := hbw4.trans (hb9.mono hbw4.size)
        go_wp2
        go_ret
        exact ⟨rfl, hfin⟩
    · have hgz : (100 : Int) < (gap.size : Int) := by omega
      go_wp2_with fail
      refine (works_any _ (hL.below hbw3)).mono ?_
      rintro e w9 ⟨rfl, hb9⟩
      have hfin := hbw3.trans (hb9.mono hbw3.size)
      go_wp2
      go_ret
      exact ⟨rfl, hfin⟩
  · have hgn : (eg != 0) = true := by rw [bne_iff_ne]; exact hg0
    clear hg0
    go_wp2_with fail
    refine (works_any _ (hL.below hbw3)).mono ?_
    rintro e w9 ⟨rfl, hb9⟩
    have hfin := hbw3.trans (hb9.mono hbw3.size)
    go_wp2
    go_ret
    exact ⟨rfl, hfin⟩
end Go.Proofs.YteennkekpblccaaDoor
