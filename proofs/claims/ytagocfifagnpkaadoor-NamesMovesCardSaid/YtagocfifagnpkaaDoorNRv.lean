/-
  The document's Move: what it tells.
-/
import Derived.Test.YtagocfifagnpkaaDoorNRm
namespace Go.Proofs.YtagocfifagnpkaaDoor
open Go.RowKit

/-- What is made of two names' pieces. -/
def mvL (s f t : ByteArray) : List ByteArray := splt t ++ (splt s).drop (splt f).length
theorem mv_list {s f t : ByteArray} (h : und s f = true) (ht : long t = true) : 0 < (splt f).length ∧ (splt f).length ≤ (splt s).length ∧ 0 < (splt t).length ∧
    mvR s f t = if (jb (mvL s f t)).size ≤ 128 then (jb (mvL s f t), 0) else (⟨#[]⟩, 3) := by
  obtain ⟨h1, h2, h3⟩ := und_is.1 h
  obtain ⟨k1, k2, _⟩ := (und_list s f).1 h
  refine ⟨k1, k2, by have := splt_len t; rw [ht] at this; simpa using this.symm, ?_⟩
  unfold mvL
  rw [splt_long h1, splt_long h2, splt_long ht]
  exact mv_yes h ht rfl
theorem mvL_sz {s f t : ByteArray} : ∀ x ∈ mvL s f t, x.size ≤ 1000 := by
  intro x hx
  unfold mvL at hx
  rcases List.mem_append.1 hx with hx | hx
  · have := splt_sz t x hx; omega
  · have := splt_sz s x (List.mem_of_mem_drop hx); omega
theorem own_made {B : Nat} {w : World} (h : B ≤ w.heap.size) (e : TypeId) : (w.alloc (.cells #[] e)).ownsRow B e 1 (.slice (some ⟨w.heap.size, 0, none⟩) 0 0) 0 [] :=
  ⟨rfl, .inr ⟨w.heap.size, 0, #[], rfl, h, heap_alloc_new w _, Nat.le_refl _, Nat.zero_le _, rfl, rfl⟩⟩
/-- The cells of a slice that reads as texts. -/
theorem Ss.cells {w : World} {b o : Nat} {l : List ByteArray} (h : ∀ (j : Nat) (u : ByteArray), l[j]? = some u → w.cell? ⟨b, o + j, none⟩ = some (.string u)) : ∀ (j : Nat) (u : Value), (sv l)[j]? = some u → w.cell? ((⟨b, o, none⟩ : Addr).add j) = some u := by
  intro j u hu
  unfold sv at hu
  rw [List.getElem?_map] at hu
  obtain ⟨x, hx, rfl⟩ := Option.map_eq_some_iff.1 hu
  have e : (⟨b, o, none⟩ : Addr).add j = ⟨b, o + j, none⟩ := by unfold Addr.add; split <;> simp_all
  rw [e]
  exact h j x hx
theorem drop_cells {w : World} {b o n : Nat} {l : List ByteArray} (h : ∀ (j : Nat) (u : ByteArray), l[j]? = some u → w.cell? ⟨b, o + j, none⟩ = some (.string u)) : ∀ (j : Nat) (u : ByteArray), (l.drop n)[j]? = some u → w.cell? ⟨b, (o + n) + j, none⟩ = some (.string u) := by
  intro j u hu
  rw [List.getElem?_drop] at hu
  have := h (n + j) u hu
  rwa [← Nat.add_assoc] at this
set_option maxHeartbeats 3200000 in
set_option maxRecDepth 100000 in
theorem refMove (s f t : ByteArray) (w : World) (hs : s.size ≤ 1000000000) (hf : f.size ≤ 1000000000) (ht : t.size ≤ 1000000000) :
    Calls Tryd.prog 26 #[.string s, .string f, .string t] w (SePost (mvR s f t) w) := by
  have c1 := refUnder s f w hs hf
  have c2 := fun W => refLong t W ht
  obtain ⟨a, ha⟩ : ∃ a, und s f = a := ⟨_, rfl⟩
  obtain ⟨b, hb⟩ : ∃ b, long t = b := ⟨_, rfl⟩
  rw [ha] at c1
  rw [hb] at c2
  cases a
  · have HU := Lib.hid (mv_no (t := t) (.inl ha))
    clear ha hb c2
    go_enter Tryd.func26, Tryd.ntmps26
    go_wp2_with fail
    refine c1.mono ?_
    rintro e w1 ⟨rfl, hb1⟩
    go_wp2
    go_ret2
    exact se_ret HU.out hb1
  · cases b
    · have HU := Lib.hid (mv_no (s := s) (f := f) (.inr hb))
      clear ha hb
      go_enter Tryd.func26, Tryd.ntmps26
      go_wp2_with fail
      refine c1.mono ?_
      rintro e w1 ⟨rfl, hb1⟩
      have HB1 := Lib.hid hb1
      clear hb1
      go_wp2_with fail
      refine (c2 _).mono ?_
      rintro e w2 ⟨rfl, hb2⟩
      have hb3 := chn HB1.out hb2
      clear hb2
      go_wp2
      go_ret2
      exact se_ret HU.out hb3
    · obtain ⟨k1, k2, k3, k4⟩ := mv_list ha hb
      have hLL : mvL s f t = splt t ++ (splt s).drop (splt f).length := rfl
      have hLz := mvL_sz (s := s) (f := f) (t := t)
      have cS := fun W => refSplit s W hs
      have cF := fun W => refSplit f W hf
      have cT := fun W => refSplit t W ht
      have q1 := splt_count s
      have q2 := splt_count t
      obtain ⟨L, hL⟩ : ∃ L, mvL s f t = L := ⟨_, rfl⟩
      obtain ⟨ls, hls⟩ : ∃ l, splt s = l := ⟨_, rfl⟩
      obtain ⟨lf, hlf⟩ : ∃ l, splt f = l := ⟨_, rfl⟩
      obtain ⟨lt, hlt⟩ : ∃ l, splt t = l := ⟨_, rfl⟩
      rw [hls] at cS k2 q1 hLL
      rw [hlf] at cF k1 k2 hLL
      rw [hlt] at cT k3 q2 hLL
      rw [hL] at k4 hLL hLz
      have HLL := Lib.hid hLL
      have HLZ := Lib.hid hLz
      have HU := Lib.hid k4
      have hLn : L.length = lt.length + (ls.length - lf.length) := by rw [hLL, List.length_append, List.length_drop]
      obtain ⟨i0, hi, hz0, hz1, hz2⟩ := info_parts infoStr
      clear ha hb hL hls hlf hlt k4 hLL hLz
      have kz : (lf.length : Int) ≤ (ls.length : Int) := by omega
      go_enter Tryd.func26, Tryd.ntmps26
      go_wp2_with fail
      refine c1.mono ?_
      rintro e w1 ⟨rfl, hb1⟩
      have HB1 := Lib.hid hb1
      clear hb1
      go_wp2_with fail
      refine (c2 _).mono ?_
      rintro e w2 ⟨rfl, hb2⟩
      have HB2 := Lib.hid (chn HB1.out hb2)
      clear hb2 HB1
      go_wp2_with fail
      have hs2 := HB2.out.size
      have hba := HB2.out.alloc hs2 (.cells #[] 9)
      have hm0 := own_made hs2 9
      have HBA := Lib.hid hba
      have HM := Lib.hid hm0
      clear hba hm0
      refine (cT _).mono ?_
      rintro e w3 ⟨v3, rfl, hv3, hb3⟩
      obtain ⟨b3, o3, d3, rfl, hd3, hbl3, hcl3⟩ := hv3.form k3
      have HM3 := Lib.hid (own_below HM.out hb3)
      have HB3 := Lib.hid (HBA.out.trans (hb3.mono HBA.out.size))
      have hs3 := HB3.out.size
      have HCL3 := Lib.hid hcl3
      clear hv3 hb3 hcl3 HBA HM
      go_wp2_with (at_builtin; (refine wpList_append_own _ rfl _ _ 22 rfl w.heap.size 9 i0 (.string ⟨#[]⟩) 1 16 Tryd.underlying22 hi hz0 hz1 hz2 rfl (by decide) _ _ _ rfl HM3.out ⟨b3, o3, none⟩ lt.length d3 (sv lt) rfl (by rw [sv_len, Nat.mul_one]) (Ss.cells HCL3.out) sv_one (by unfold maxLen; omega) (by omega) (by omega) ?_); intro v4 w4 hown4 hgrow4 _)
      have hb4 := HB3.out.grown hgrow4 (by omega) (fun g hg => (HM3.out.lt g hg).1)
      have HB4 := Lib.hid hb4
      have HM4 := Lib.hid hown4
      have hs4 := hb4.size
      clear hgrow4 hb4 hown4
      refine (cS _).mono ?_
      rintro e w5 ⟨v5, rfl, hv5, hb5⟩
      have HV5 := Lib.hid hv5
      have HB5 := Lib.hid (HB4.out.trans (hb5.mono hs4))
      have HM5 := Lib.hid (own_below HM4.out hb5)
      clear hv5 hb5 HM4 HB4 HM3 HB3 HCL3
      go_wp2_with fail
      refine (cF _).mono ?_
      rintro e w6 ⟨v6, rfl, ⟨A6, d6, rfl, hd6, hcl6⟩, hb6⟩
      have hv6 := HV5.out.on hb6
      obtain ⟨b6, o6, c6, rfl, hc6, hbl6, hcl6'⟩ := hv6.form (by omega)
      have HCL6 := Lib.hid (drop_cells (n := lf.length) hcl6')
      have HB6 := Lib.hid (HB5.out.trans (hb6.mono HB5.out.size))
      have HM6 := Lib.hid (own_below HM5.out hb6)
      have hs6 := HB6.out.size
      clear hv6 hb6 hcl6 hcl6' HV5 HB5 HM5
      by_cases hcc : c6 = lf.length
      · have hl0 : (ls.drop lf.length) = [] := List.drop_eq_nil_of_le (by omega)
        subst hcc
        go_wp2_with (at_builtin; (refine wpList_append_own _ rfl _ _ 22 rfl w.heap.size 9 i0 (.string ⟨#[]⟩) 1 16 Tryd.underlying22 hi hz0 hz1 hz2 rfl (by decide) _ _ _ rfl HM6.out ⟨b6, o6, none⟩ 0 0 [] rfl rfl (by intro j u hu; simp at hu) (by intro u hu; cases hu) (by unfold maxLen; omega) (by omega) (by omega) ?_); intro v7 w7 hown7 hgrow7 _)
        have hb7 := HB6.out.grown hgrow7 (by omega) (fun g hg => (HM6.out.lt g hg).1)
        have hown8 : w7.ownsRow w.heap.size 9 1 v7 L.length (sv L) := by
          have e1 : L = lt := by rw [HLL.out, hl0, List.append_nil]
          rw [e1]
          simpa using hown7
        have HV := Lib.hid (Ss.own hown8)
        have HB7 := Lib.hid hb7
        clear hgrow7 hb7 hown7 hown8
        obtain ⟨b8, o8, d8, rfl, hd8, hbl8, hcl8⟩ := HV.out.form (by omega)
        have HCL8 := Lib.hid hcl8
        obtain ⟨n, hn⟩ : ∃ n, L.length = n := ⟨_, rfl⟩
        rw [hn] at hLn hd8 ⊢
        have HN := Lib.hid hn
        clear hcl8 HM6 HB6 HCL6 hn HV
        go_loop [9, 10] (fun s i => ∃ k : Nat, k ≤ n ∧ i = .int .i64 k ∧ s = .string (jb (L.take k))) (fun _ i => n - (intOf i).toNat)
        case atStart => exact ⟨0, Nat.zero_le _, rfl, rfl⟩
        case round =>
          obtain ⟨k, hk, rfl, rfl⟩ := hrel
          have hjz := jb_take HLZ.out k (by omega)
          by_cases hkl : k < n
          · obtain ⟨y, hy⟩ : ∃ y, L[k]? = some y := ⟨_, List.getElem?_eq_getElem (by rw [HN.out]; exact hkl)⟩
            have hcell := HCL8.out k y hy
            have hyz := HLZ.out y (List.mem_of_getElem? hy)
            by_cases hk0 : k = 0
            · subst hk0
              have HJ := Lib.hid (jb_first hy)
              have e0 : jb (L.take 0) = ⟨#[]⟩ := rfl
              rw [e0]
              rw [Nat.add_zero] at hcell
              clear hjz e0 hy
              go_wp2
              go_round
              case rel => exact ⟨0 + 1, by omega, by go_num, by rw [HJ.out]; first | rfl | exact congrArg Value.string (nil_app _)⟩
              case measure => simp [intOf]; omega
            · have HJ := Lib.hid (jb_more hy hk0)
              obtain ⟨J, hJ⟩ : ∃ J, jb (L.take k) = J := ⟨_, rfl⟩
              rw [hJ] at HJ hjz ⊢
              clear hJ hy
              have hkz : (0 : Int) < (k : Int) := by omega
              have hs1 : (J ++ (⟨#[46]⟩ : ByteArray)).size = J.size + 1 := app_size _ _
              go_wp2
              go_round
              case rel => exact ⟨k + 1, by omega, by go_num, by rw [HJ.out]⟩
              case measure => simp [intOf]; omega
          · have hkn : k = n := by omega
            subst hkn
            have e0 : L.take k = L := List.take_of_length_le (by rw [HN.out]; exact Nat.le_refl _)
            rw [e0] at hjz ⊢
            have hu := HU.out
            obtain ⟨J, hJ⟩ : ∃ J, jb L = J := ⟨_, rfl⟩
            rw [hJ] at hu hjz ⊢
            clear hJ e0
            by_cases hbig : J.size ≤ 128
            · rw [if_pos hbig] at hu
              have HU2 := Lib.hid hu
              have hz1 : ¬ (128 : Int) < (J.size : Int) := by omega
              clear hu HU
              go_wp2
              go_ret2
              exact se_ret HU2.out HB7.out
            · rw [if_neg hbig] at hu
              have HU2 := Lib.hid hu
              have hz1 : (128 : Int) < (J.size : Int) := by omega
              clear hu HU
              go_wp2
              go_ret2
              exact se_ret HU2.out HB7.out
      · have hcc' : lf.length < c6 := by omega
        have hcz : (lf.length : Int) < (c6 : Int) := by omega
        go_wp2_with (at_builtin; (refine wpList_append_own _ rfl _ _ 22 rfl w.heap.size 9 i0 (.string ⟨#[]⟩) 1 16 Tryd.underlying22 hi hz0 hz1 hz2 rfl (by decide) _ _ _ rfl HM6.out ⟨b6, o6 + lf.length, none⟩ (ls.length - lf.length) (c6 - lf.length) (sv (ls.drop lf.length)) rfl (by rw [sv_len, List.length_drop, Nat.mul_one]) (Ss.cells HCL6.out) sv_one (by unfold maxLen; omega) (by omega) (by omega) ?_); intro v7 w7 hown7 hgrow7 _)
        have hb7 := HB6.out.grown hgrow7 (by omega) (fun g hg => (HM6.out.lt g hg).1)
        have hown8 : w7.ownsRow w.heap.size 9 1 v7 L.length (sv L) := by
          rw [hLn, HLL.out, ← sv_app]
          simpa using hown7
        have HV := Lib.hid (Ss.own hown8)
        have HB7 := Lib.hid hb7
        clear hgrow7 hb7 hown7 hown8
        obtain ⟨b8, o8, d8, rfl, hd8, hbl8, hcl8⟩ := HV.out.form (by omega)
        have HCL8 := Lib.hid hcl8
        obtain ⟨n, hn⟩ : ∃ n, L.length = n := ⟨_, rfl⟩
        rw [hn] at hLn hd8 ⊢
        have HN := Lib.hid hn
        clear hcl8 HM6 HB6 HCL6 hn HV
        go_loop [9, 10] (fun s i => ∃ k : Nat, k ≤ n ∧ i = .int .i64 k ∧ s = .string (jb (L.take k))) (fun _ i => n - (intOf i).toNat)
        case atStart => exact ⟨0, Nat.zero_le _, rfl, rfl⟩
        case round =>
          obtain ⟨k, hk, rfl, rfl⟩ := hrel
          have hjz := jb_take HLZ.out k (by omega)
          by_cases hkl : k < n
          · obtain ⟨y, hy⟩ : ∃ y, L[k]? = some y := ⟨_, List.getElem?_eq_getElem (by rw [HN.out]; exact hkl)⟩
            have hcell := HCL8.out k y hy
            have hyz := HLZ.out y (List.mem_of_getElem? hy)
            by_cases hk0 : k = 0
            · subst hk0
              have HJ := Lib.hid (jb_first hy)
              have e0 : jb (L.take 0) = ⟨#[]⟩ := rfl
              rw [e0]
              rw [Nat.add_zero] at hcell
              clear hjz e0 hy
              go_wp2
              go_round
              case rel => exact ⟨0 + 1, by omega, by go_num, by rw [HJ.out]; first | rfl | exact congrArg Value.string (nil_app _)⟩
              case measure => simp [intOf]; omega
            · have HJ := Lib.hid (jb_more hy hk0)
              obtain ⟨J, hJ⟩ : ∃ J, jb (L.take k) = J := ⟨_, rfl⟩
              rw [hJ] at HJ hjz ⊢
              clear hJ hy
              have hkz : (0 : Int) < (k : Int) := by omega
              have hs1 : (J ++ (⟨#[46]⟩ : ByteArray)).size = J.size + 1 := app_size _ _
              go_wp2
              go_round
              case rel => exact ⟨k + 1, by omega, by go_num, by rw [HJ.out]⟩
              case measure => simp [intOf]; omega
          · have hkn : k = n := by omega
            subst hkn
            have e0 : L.take k = L := List.take_of_length_le (by rw [HN.out]; exact Nat.le_refl _)
            rw [e0] at hjz ⊢
            have hu := HU.out
            obtain ⟨J, hJ⟩ : ∃ J, jb L = J := ⟨_, rfl⟩
            rw [hJ] at hu hjz ⊢
            clear hJ e0
            by_cases hbig : J.size ≤ 128
            · rw [if_pos hbig] at hu
              have HU2 := Lib.hid hu
              have hz1 : ¬ (128 : Int) < (J.size : Int) := by omega
              clear hu HU
              go_wp2
              go_ret2
              exact se_ret HU2.out HB7.out
            · rw [if_neg hbig] at hu
              have HU2 := Lib.hid hu
              have hz1 : (128 : Int) < (J.size : Int) := by omega
              clear hu HU
              go_wp2
              go_ret2
              exact se_ret HU2.out HB7.out
end Go.Proofs.YtagocfifagnpkaaDoor
