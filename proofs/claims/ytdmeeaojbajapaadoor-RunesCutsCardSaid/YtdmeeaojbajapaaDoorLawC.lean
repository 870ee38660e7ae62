/-
  The walk of RunesCuts.
-/
import Derived.Test.YtdmeeaojbajapaaDoorLawB
import Derived.Laws.AppendOwnNone
namespace Go.Proofs.YtdmeeaojbajapaaDoor
open Go.RowKit

/-- append of no cells, by a nil slice. -/
theorem run_app_nil (w : World) (base : Nat) (v : Value) (n : Nat) (xs : List Value) (hown : w.ownsRow base 21 1 v n xs) (c : Nat) :
    (Builtin.append_ #[23, 23] 23 #[v, .slice none 0 c]).run Tryd.prog w = .ok v w := by
  obtain ⟨i0, hi, hz0, hz1, hz2⟩ := info_parts infoRune
  rcases hown.2 with ⟨rfl, rfl⟩ | ⟨g, cap, cur, rfl, _, _, hnc, _⟩
  · simp [Builtin.append_, run_underlying Tryd.underlying23, sizeOf, typeInfo, hi, Builtin.lenOf, Builtin.firstCells]
  · simp [Builtin.append_, run_underlying Tryd.underlying23, sizeOf, typeInfo, hi, Builtin.lenOf, Builtin.firstCells, hnc, storeCells]
/-- append of a slice of runes onto a row of the call's own. -/
theorem run_app (w : World) (base B : Nat) (v : Value) (n : Nat) (xs : List Value) (hown : w.ownsRow base 21 1 v n xs) (src : Value) (l : List Nat) (hs : Sl w B src l) (hn : n + l.length ≤ 1000000) (hb : base ≤ w.heap.size) :
    ∃ v' w', (Builtin.append_ #[23, 23] 23 #[v, src]).run Tryd.prog w = .ok v' w' ∧ w'.ownsRow base 21 1 v' (n + l.length) (xs ++ cel l) ∧ w.grownBy w' v.ownBlock := by
  obtain ⟨i0, hi, hz0, hz1, hz2⟩ := info_parts infoRune
  obtain ⟨A, c, rfl, hc⟩ := hs
  rcases A with _ | ad
  · have hl : l = [] := by
      cases l with
      | nil => rfl
      | cons x t =>
        obtain ⟨ad, h, _⟩ := hc 0 x rfl
        cases h
    subst hl
    exact ⟨v, w, run_app_nil w base v n xs hown c, by simpa [cel] using hown, ⟨rfl, rfl, rfl, Nat.le_refl _, fun _ _ _ => rfl⟩⟩
  · obtain ⟨v', w', h1, h2, h3, _⟩ := run_append_own (P := Tryd.prog) w base 23 23 21 i0 (.int .i32 0) 1 4 Tryd.underlying23 hi hz0 hz1 hz2 rfl (by decide) v n xs hown ad l.length c (cel l)
      (by simp [cel]) (fun j u hu => by
        obtain ⟨r, hr, rfl⟩ : ∃ r, l[j]? = some r ∧ Value.int .i32 (r : Int) = u := by
          unfold cel at hu
          rw [List.getElem?_map] at hu
          exact Option.map_eq_some_iff.1 hu
        obtain ⟨ad', h, _, hcell⟩ := hc j r hr
        cases h
        exact hcell) cel_one (by unfold maxLen; omega) (by omega) hb
    exact ⟨v', w', h1, h2, h3⟩

/-- An append whose run is known, behind a guard that holds. -/
theorem wpList_app {ops : Array Oper} {rest : List Oper} {o : Oper} {a : Act} {w w' : World} {v v1 v2 : Value} {Q : Exit → Act → World → Prop} (s x : Operand) (t : TypeId)
    (hw : Region.wanted o (yielded ops a.tmps) = true) (ho : o.op = .call { callee := .builtin .append, args := #[s, x], argTypes := #[t, t] }) (h1 : a.eval s = v1) (h2 : a.eval x = v2)
    (hr : (Builtin.append_ #[t, t] o.type #[v1, v2]).run Tryd.prog w = .ok v w') (h : wpList Tryd.prog ops Q rest (a.put o.dst v) w') : wpList Tryd.prog ops Q (o :: rest) a w := by
  refine wpList_step fun K hK => ?_
  rw [if_pos hw]
  unfold Oper.wp execOp
  simp only [ho, resolve, invoke, builtin, Sem.run_bind, Sem.run_pure, Result.andThen_ok, List.map_toArray, List.map_cons, List.map_nil, h1, h2, hr]
  exact hK _ _ h

theorem turn_of (n : Int) (k : Nat) (hk : k ≤ 1000) : ∃ N : Nat, (wrap64 (wrap64 (n.tmod ((k : Int) + 1) + k) + 1)).tmod ((k : Int) + 1) = (N : Int) ∧ N ≤ k := by
  have h1 := Int.tmod_lt_of_pos n (show (0 : Int) < (k : Int) + 1 by omega)
  have h2 := Int.lt_tmod_of_pos n (show (0 : Int) < (k : Int) + 1 by omega)
  generalize n.tmod ((k : Int) + 1) = x at h1 h2 ⊢
  have w1 : wrap64 (x + k) = x + k := by unfold wrap64; omega
  have w2 : wrap64 (x + k + 1) = x + k + 1 := by unfold wrap64; omega
  rw [w1, w2, Int.tmod_eq_emod_of_nonneg (by omega)]
  have h3 := Int.emod_nonneg (x + k + 1) (show (k : Int) + 1 ≠ 0 by omega)
  have h4 := Int.emod_lt_of_pos (x + k + 1) (show (0 : Int) < (k : Int) + 1 by omega)
  generalize (x + k + 1) % ((k : Int) + 1) = y at h3 h4 ⊢
  exact ⟨y.toNat, by omega, by omega⟩

set_option maxHeartbeats 3200000 in
set_option maxRecDepth 100000 in
theorem lawCuts (s : ByteArray) (n : Int) (w : World) (hs : s.size ≤ 9223372036854775807) (hn : -9223372036854775808 ≤ n ∧ n ≤ 9223372036854775807) (hT : Tabs w) :
    Calls Tryd.prog 8 #[.string s, .int .i64 n] w (Yes w) := by
  have cF := few_any s w hs
  have ht := fw_le s
  generalize fw s = t at cF ht
  clear hs
  have hz : t.size ≤ 1000000000 := by omega
  have cD := goodDecode t w hz hT
  unfold DecPost at cD
  cases hv : vls t 0
  · rw [er_false hv] at cD
    have cC : ∀ W, Tabs W → Calls Tryd.prog 25 #[.string t, .int .i64 n] W _ := fun W h => goodCut t n W hz h hn
    rw [ctr_false hv] at cC
    have CC := Lib.hid cC
    clear cC hv hn
    go_enter Tryd.func8, Tryd.ntmps8
    go_wp2_with fail
    refine cF.mono ?_
    rintro e w' ⟨rfl, rfl⟩
    go_wp2_with fail
    refine cD.mono ?_
    rintro e w1 ⟨v1, rfl, _, hb1⟩
    have hT1 := hT.below hb1
    go_wp2_with fail
    refine (CC.out w1 hT1).mono ?_
    rintro e w2 ⟨rfl, hb2⟩
    have hT2 := hT1.below hb2
    go_wp2_with fail
    refine (works_any w2 hT2).mono ?_
    rintro e w3 ⟨rfl, hb3⟩
    have hfin := chn (chn hb1 hb2) hb3
    go_wp2
    go_ret
    exact ⟨rfl, hfin⟩
  · rw [er_true hv, rl_true hv] at cD
    have cC : ∀ (N : Nat) W, N ≤ 1000000000 → Tabs W → Calls Tryd.prog 25 #[.string t, .int .i64 (N : Int)] W _ := fun N W h0 h => goodCut t (N : Int) W hz h ⟨by omega, by omega⟩
    have CC := Lib.hid cC
    have HV := Lib.hid hv
    have hlen := rns_len_le t 0
    obtain ⟨l, hl⟩ : ∃ l, rns t 0 = l := ⟨_, rfl⟩
    rw [hl] at cD hlen
    have HLL := Lib.hid hl
    clear cC hv hl
    go_enter Tryd.func8, Tryd.ntmps8
    go_wp2_with fail
    refine cF.mono ?_
    rintro e w' ⟨rfl, rfl⟩
    go_wp2_with fail
    refine cD.mono ?_
    rintro e w1 ⟨v1, rfl, hs1, hb1⟩
    have hT1 := hT.below hb1
    obtain ⟨A, c, rfl, hc⟩ := hs1
    have HS1 : Hid (Sl w1 w1.heap.size (.slice A l.length c) l) := Lib.hid ⟨A, c, rfl, hc⟩
    clear hc cD cF
    go_wp2_with fail
    obtain ⟨N, hN, hNl⟩ := turn_of n l.length (by omega)
    rw [hN]
    clear hN
    refine (CC.out N w1 (by omega) hT1).mono ?_
    rintro e w2 ⟨rfl, hb2⟩
    have hT2 := hT1.below hb2
    rw [ctr_true HV.out]
    have hcut := cut_runes t 0 (Nat.zero_le _) HV.out N (by rw [HLL.out]; exact hNl)
    have hsuf := suf_runes t (ct t (N : Int) 0) 0
    have hcl := ct_le t 0 (Nat.zero_le _) (N : Int)
    obtain ⟨C, hC⟩ : ∃ C, ct t (N : Int) 0 = C := ⟨_, rfl⟩
    rw [hC] at hcut hsuf hcl ⊢
    rw [HLL.out] at hcut
    rw [Nat.add_zero] at hsuf
    rw [hcut.2.2.1, hcut.2.2.2] at hsuf
    have hx1 := ext_size t 0 C
    have hx2 := ext_size t C t.size
    have hxs : (t.extract 0 C).size = C := by omega
    obtain ⟨a, ha⟩ : ∃ a, t.extract 0 C = a := ⟨_, rfl⟩
    have HAX := Lib.hid ha
    rw [ha] at hcut hxs ⊢
    have hC2 : C ≤ t.size := hcl.2
    have haz : a.size ≤ 1000000000 := by omega
    have HCUT := Lib.hid hcut
    have HSUF := Lib.hid hsuf
    have HX2 := Lib.hid hx2
    clear hC hx1 hcut hsuf hx2 hcl
    go_wp2_with fail
    have cA := goodDecode a w2 haz hT2
    unfold DecPost at cA
    rw [er_true HCUT.out.2.1, rl_true HCUT.out.2.1, HCUT.out.1] at cA
    have HA := Lib.hid ha
    clear ha
    refine cA.mono ?_
    rintro e w3 ⟨v3, rfl, hs3, hb3⟩
    have hT3 := hT2.below hb3
    clear cA
    go_wp2_with fail
    have cS := goodDecode (t.extract C t.size) w3 (by have := HX2.out; omega) hT3
    unfold DecPost at cS
    rw [er_true HSUF.out.2, rl_true HSUF.out.2, HSUF.out.1] at cS
    refine cS.mono ?_
    rintro e w4 ⟨v4, rfl, hs4, hb4⟩
    have hT4 := hT3.below hb4
    clear cS
    have hs3' := hs3.below hb4
    have hs4g := hb4.size
    have hs3g := hb3.size
    have hl3 : (List.take N l).length = N := by rw [List.length_take]; omega
    have hl4 : (List.drop N l).length ≤ l.length := by rw [List.length_drop]; omega
    have hl34 : N + (List.drop N l).length ≤ l.length := by rw [List.length_drop]; omega
    have ho5 : (w4.alloc (.cells #[] 21)).ownsRow w4.heap.size 21 1 (.slice (some ⟨w4.heap.size, 0, none⟩) 0 0) 0 [] := World.ownsRow_made w4 #[] 0 (Nat.le_refl _) (by unfold maxLen; omega) rfl
    have hk5 : ∀ p : Addr, p.block < w4.heap.size → (w4.alloc (.cells #[] 21)).cell? p = w4.cell? p := fun p hp => World.cell?_alloc_lt w4 _ p hp
    have hs35 := (hs3'.more hs4g).keep hk5
    have hs45 := hs4.keep hk5
    obtain ⟨v6, w6, hr6, ho6, hg6⟩ := run_app _ w4.heap.size w4.heap.size _ 0 [] ho5 v3 (List.take N l) hs35 (by omega) (by simp)
    have hs46 : Sl w6 w4.heap.size v4 (List.drop N l) := hs45.keep fun p hp => World.cell?_of_block (hg6.block p.block (by simp; omega) (by simp [Value.ownBlock]; omega))
    have hg6s := hg6.size
    obtain ⟨v7, w7, hr7, ho7, hg7⟩ := run_app w6 w4.heap.size w4.heap.size v6 _ _ ho6 v4 (List.drop N l) hs46 (by omega) (by simp at hg6s; omega)
    have hb47 : Below w4.heap.size w4 w7 := by
      have h5 : Below w4.heap.size w4 (w4.alloc (.cells #[] 21)) := (Below.refl _ _).alloc (Nat.le_refl _) _
      have h6 : Below w4.heap.size w4 w6 := h5.grown hg6 (by simp) (fun k hk => by simp [Value.ownBlock] at hk; omega)
      exact h6.grown hg7 (by simp at hg6s; omega) (fun k hk => (ho6.lt k hk).1)
    have hs7 : Sl w7 w7.heap.size v7 l := by
      refine Sl.own (l := l) (n := 0 + (List.take N l).length + (List.drop N l).length) (e := 21) (base := w4.heap.size) ?_
      rw [List.nil_append, cel_app, List.take_append_drop] at ho7
      exact ho7
    have hs1w : Sl w7 w4.heap.size (.slice A l.length c) l := (((HS1.out.below hb2).more hb2.size |>.below hb3).more hb3.size |>.below hb4).more hb4.size |>.below hb47
    have hT7 := hT4.below hb47
    obtain ⟨A3, c3, hv3, hc3⟩ := hs35
    rw [hl3] at hv3
    subst hv3
    have hfin := chn (chn (chn (chn hb1 hb2) hb3) hb4) hb47
    have HF := Lib.hid hfin
    have HS7 := Lib.hid hs7
    have HS1w := Lib.hid hs1w
    have HT7 := Lib.hid hT7
    have hnn : ((N : Int) == (N : Int)) = true := by simp
    have HR6 := Lib.hid hr6
    have HR7 := Lib.hid hr7
    clear hr6 hr7 hc3 hl3 hl4 hl34 ho5 hk5 hs45 hs46 hg6 hg7 ho6 ho7 hb47 hs7 hs1w hT7 hs3 hs3' hs4 hfin hg6s
    go_wp2_with (first
      | (at_builtin; refine wpList_app (.tmp 83) (.tmp 84) 23 rfl rfl rfl rfl HR6.out ?_)
      | (at_builtin; refine wpList_app (.tmp 85) (.tmp 86) 23 rfl rfl rfl rfl HR7.out ?_)
      | (go_at_call 13; refine (same_self w7 HS7.out HS1w.out (by omega)).mono ?_; rintro e w8 ⟨rfl, hb8⟩)
      | (go_at_call 16; refine (works_any _ (HT7.out.below hb8)).mono ?_; rintro e w9 ⟨rfl, hb9⟩))
    go_ret
    exact ⟨rfl, chn (chn HF.out hb8) hb9⟩
end Go.Proofs.YtdmeeaojbajapaaDoor
