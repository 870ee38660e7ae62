/-
  The program's Long, parts, Head, Rest, Under and Move: what they tell.
-/
import Derived.Test.YtagocfifagnpkaaDoorNCut
namespace Go.Proofs.YtagocfifagnpkaaDoor
open Go.RowKit

set_option maxHeartbeats 1600000 in
set_option maxRecDepth 100000 in
theorem long_any (s : ByteArray) (w : World) (hs : s.size ≤ 1000000000) (hL : Nx w) : Calls Tryd.prog 15 #[.string s] w (NmPost (long s) w) := by
  have cS := split_any s w hs hL
  have hln := splt_len s
  obtain ⟨l, hl⟩ : ∃ l, splt s = l := ⟨_, rfl⟩
  obtain ⟨b, hb⟩ : ∃ b, long s = b := ⟨_, rfl⟩
  rw [hl] at cS hln
  rw [hb] at hln ⊢
  have HLN := Lib.hid hln
  clear hl hb hln hL
  by_cases h0 : 0 < l.length
  · have hz : (0 : Int) < (l.length : Int) := by omega
    go_enter Tryd.func15, Tryd.ntmps15
    go_wp2_with fail
    refine cS.mono ?_
    rintro e w1 ⟨v, rfl, ⟨A, c, rfl, hlc, hcl⟩, hb⟩
    have HCL := Lib.hid hcl
    clear hcl
    go_wp2
    go_ret
    exact nm_ret (by rw [HLN.out, decide_eq_true h0]) hb
  · have hz : ¬ (0 : Int) < (l.length : Int) := by omega
    go_enter Tryd.func15, Tryd.ntmps15
    go_wp2_with fail
    refine cS.mono ?_
    rintro e w1 ⟨v, rfl, ⟨A, c, rfl, hlc, hcl⟩, hb⟩
    have HCL := Lib.hid hcl
    clear hcl
    go_wp2
    go_ret
    exact nm_ret (by rw [HLN.out, decide_eq_false h0]) hb

/-! ### parts -/
theorem parts_is {s : ByteArray} (h : long s = true) : (ctx s).1 = hd s ∧ (ctx s).2.1 = rst s := by
  obtain ⟨h1, _, _, h4⟩ := ctx_pc s
  cases hm : (ctx s).2.2
  · rw [hm] at h1
    have hp : pc s = [(ctx s).1] := h1
    have e := jb_pc s
    rw [hp, jb_one] at e
    obtain ⟨k1, k2⟩ := long_one h hp
    exact ⟨by rw [k1, e], by rw [k2, h4 hm]⟩
  · rw [hm] at h1
    have hp : pc s = (ctx s).1 :: pc (ctx s).2.1 := h1
    cases hq : pc (ctx s).2.1 with
    | nil => exact absurd hq (pc_ne _)
    | cons y r =>
      rw [hq] at hp
      obtain ⟨k1, k2, _⟩ := long_more h hp
      exact ⟨k1.symm, by rw [k2, ← hq, jb_pc]⟩
theorem parts_not {s : ByteArray} (h : long s = false) : hd s = ⟨#[]⟩ ∧ rst s = ⟨#[]⟩ := by
  unfold hd rst
  rw [splt_not h]
  exact ⟨rfl, rfl⟩
def PtPost (s : ByteArray) (W : World) (e : Ending) (w' : World) : Prop := e = .returned (.tuple #[.string (hd s), .string (rst s)]) ∧ Below W.heap.size W w'
theorem pt_ret {s a b : ByteArray} {W w' : World} (h : a = hd s ∧ b = rst s) (hb : Below W.heap.size W w') : PtPost s W (.returned (.tuple #[.string a, .string b])) w' := by
  obtain ⟨rfl, rfl⟩ := h; exact ⟨rfl, hb⟩
set_option maxHeartbeats 1600000 in
set_option maxRecDepth 100000 in
theorem parts_any (s : ByteArray) (w : World) (hs : s.size ≤ 1000000000) (hL : Nx w) : Calls Tryd.prog 41 #[.string s] w (PtPost s w) := by
  have cL := long_any s w hs hL
  have cC := fun W (hL : Nx W) => cut_any s hs W hL
  obtain ⟨b, hb⟩ : ∃ b, long s = b := ⟨_, rfl⟩
  rw [hb] at cL
  have HNX := Lib.hid hL
  clear hL
  cases b
  · have HP := Lib.hid (parts_not hb)
    clear hb cC
    go_enter Tryd.func41, Tryd.ntmps41
    go_wp2_with fail
    refine cL.mono ?_
    rintro e w1 ⟨rfl, hb1⟩
    go_wp2
    go_ret2
    exact pt_ret ⟨HP.out.1.symm, HP.out.2.symm⟩ hb1
  · have hp := parts_is hb
    obtain ⟨p, y, m, hc⟩ : ∃ p y m, ctx s = (p, y, m) := ⟨_, _, _, rfl⟩
    rw [hc] at cC hp
    dsimp only at cC hp
    have HP := Lib.hid hp
    have CC := Lib.hid cC
    clear hb hc hp cC
    go_enter Tryd.func41, Tryd.ntmps41
    go_wp2_with fail
    refine cL.mono ?_
    rintro e w1 ⟨rfl, hb1⟩
    have HB1 := Lib.hid hb1
    clear hb1
    go_wp2_with fail
    refine (CC.out w1 (HNX.out.below HB1.out)).mono ?_
    rintro e w2 ⟨rfl, hb2⟩
    have hb3 := chn HB1.out hb2
    clear hb2
    go_wp2
    go_ret2
    exact pt_ret HP.out hb3
set_option maxHeartbeats 1600000 in
set_option maxRecDepth 100000 in
theorem head_any (s : ByteArray) (w : World) (hs : s.size ≤ 1000000000) (hL : Nx w) : Calls Tryd.prog 20 #[.string s] w (TxPost (hd s) w) := by
  have cP := parts_any s w hs hL
  unfold PtPost at cP
  obtain ⟨a, ha⟩ : ∃ a, hd s = a := ⟨_, rfl⟩
  obtain ⟨b, hb⟩ : ∃ b, rst s = b := ⟨_, rfl⟩
  rw [ha, hb] at cP
  rw [ha]
  clear ha hb hL
  go_enter Tryd.func20, Tryd.ntmps20
  go_wp2_with fail
  refine cP.mono ?_
  rintro e w1 ⟨rfl, hb1⟩
  go_wp2
  go_ret
  exact ⟨rfl, hb1⟩
set_option maxHeartbeats 1600000 in
set_option maxRecDepth 100000 in
theorem rest_any (s : ByteArray) (w : World) (hs : s.size ≤ 1000000000) (hL : Nx w) : Calls Tryd.prog 22 #[.string s] w (TxPost (rst s) w) := by
  have cP := parts_any s w hs hL
  unfold PtPost at cP
  obtain ⟨a, ha⟩ : ∃ a, hd s = a := ⟨_, rfl⟩
  obtain ⟨b, hb⟩ : ∃ b, rst s = b := ⟨_, rfl⟩
  rw [ha, hb] at cP
  rw [hb]
  clear ha hb hL
  go_enter Tryd.func22, Tryd.ntmps22
  go_wp2_with fail
  refine cP.mono ?_
  rintro e w1 ⟨rfl, hb1⟩
  go_wp2
  go_ret
  exact ⟨rfl, hb1⟩

/-! ### Under -/
theorem und_no {s p : ByteArray} (h : long s = false ∨ long p = false) : und s p = false := by
  unfold und
  rcases h with h | h <;> simp [h]
theorem und_pre {s p : ByteArray} (h : Lib.hasPrefix s.data.toList p.data.toList = false) : und s p = false := by
  unfold und
  rw [Bool.and_eq_false_iff]
  right
  rw [decide_eq_false_iff_not]
  intro hp
  obtain ⟨t, ht, _⟩ := und_text.2 hp
  have : Lib.hasPrefix s.data.toList p.data.toList = true := by
    unfold Lib.hasPrefix
    rw [List.isPrefixOf_iff_prefix]
    exact ⟨t, ht.symm⟩
  rw [h] at this
  cases this
theorem und_ok {s p : ByteArray} {t : List UInt8} (h1 : long s = true) (h2 : long p = true) (h : s.data.toList = p.data.toList ++ t) (ht : t = [] ∨ ∃ u, t = 46 :: u) : und s p = true :=
  und_is.2 ⟨h1, h2, und_text.1 ⟨t, h, ht⟩⟩
theorem und_bad {s p : ByteArray} {c : UInt8} {t : List UInt8} (h : s.data.toList = p.data.toList ++ c :: t) (hc : c ≠ 46) : und s p = false := by
  unfold und
  rw [Bool.and_eq_false_iff]
  right
  rw [decide_eq_false_iff_not]
  intro hp
  obtain ⟨t', ht, ht'⟩ := und_text.2 hp
  rw [h] at ht
  have e := List.append_cancel_left ht
  rcases ht' with rfl | ⟨u, rfl⟩
  · cases e
  · injection e with e1 _
    exact hc e1
theorem trim_is {s p : ByteArray} (h : Lib.hasPrefix s.data.toList p.data.toList = true) : s.data.toList = p.data.toList ++ Lib.trimPrefix s.data.toList p.data.toList := by
  unfold Lib.trimPrefix
  rw [if_pos h]
  unfold Lib.hasPrefix at h
  rw [List.isPrefixOf_iff_prefix] at h
  obtain ⟨t, ht⟩ := h
  rw [← ht, List.drop_left]
set_option maxHeartbeats 3200000 in
set_option maxRecDepth 100000 in
theorem under_any (s p : ByteArray) (w : World) (hs : s.size ≤ 1000000000) (hp : p.size ≤ 1000000000) (hL : Nx w) : Calls Tryd.prog 27 #[.string s, .string p] w (NmPost (und s p) w) := by
  have c1 := long_any s w hs hL
  have c2 := fun W (hL : Nx W) => long_any p W hp hL
  obtain ⟨a, ha⟩ : ∃ a, long s = a := ⟨_, rfl⟩
  obtain ⟨b, hb⟩ : ∃ b, long p = b := ⟨_, rfl⟩
  rw [ha] at c1
  rw [hb] at c2
  have C2 := Lib.hid c2
  have HNX := Lib.hid hL
  clear hL c2
  cases a
  · have HU := Lib.hid (und_no (p := p) (.inl ha))
    clear ha hb
    go_enter Tryd.func27, Tryd.ntmps27
    go_wp2_with fail
    refine c1.mono ?_
    rintro e w1 ⟨rfl, hb1⟩
    go_wp2
    go_ret
    exact nm_ret HU.out hb1
  · cases b
    · have HU := Lib.hid (und_no (s := s) (.inr hb))
      clear ha hb
      go_enter Tryd.func27, Tryd.ntmps27
      go_wp2_with fail
      refine c1.mono ?_
      rintro e w1 ⟨rfl, hb1⟩
      have HB1 := Lib.hid hb1
      clear hb1
      go_wp2_with fail
      refine (C2.out w1 (HNX.out.below HB1.out)).mono ?_
      rintro e w2 ⟨rfl, hb2⟩
      have hb3 := chn HB1.out hb2
      clear hb2
      go_wp2
      go_ret
      exact nm_ret HU.out hb3
    · have cP := fun W => Tryd.strings_CutPrefix s p W
      have H1 := Lib.hid ha
      have H2 := Lib.hid hb
      clear ha hb
      obtain ⟨h, hh⟩ : ∃ h, Lib.hasPrefix s.data.toList p.data.toList = h := ⟨_, rfl⟩
      rw [hh] at cP
      have htr := fun h => trim_is (s := s) (p := p) h
      obtain ⟨R, hR⟩ : ∃ R, Lib.trimPrefix s.data.toList p.data.toList = R := ⟨_, rfl⟩
      rw [hR] at cP htr
      clear hR
      have HT := Lib.hid htr
      have HH := Lib.hid hh
      clear htr hh
      obtain ⟨X, hX⟩ : ∃ X : ByteArray, X = ⟨R.toArray⟩ := ⟨_, rfl⟩
      rw [← hX] at cP
      have hXl : X.data.toList = R := by rw [hX]
      have HX := Lib.hid hXl
      have hXt : X.toList = R := by rw [Lib.toList_data]; exact hXl
      have hXz : X.size = R.length := by rw [Lib.size_eq, hXl]
      clear hX hXl
      cases h
      · clear hXt hXz
        go_enter Tryd.func27, Tryd.ntmps27
        go_wp2_with fail
        refine c1.mono ?_
        rintro e w1 ⟨rfl, hb1⟩
        have HB1 := Lib.hid hb1
        clear hb1
        go_wp2_with fail
        refine (C2.out w1 (HNX.out.below HB1.out)).mono ?_
        rintro e w2 ⟨rfl, hb2⟩
        have HB3 := Lib.hid (chn HB1.out hb2)
        clear hb2
        go_wp2_with fail
        refine (cP w2).mono ?_
        rintro e w3 ⟨rfl, rfl⟩
        go_wp2
        go_ret
        exact nm_ret (und_pre HH.out) HB3.out
      · cases R with
        | nil =>
          go_enter Tryd.func27, Tryd.ntmps27
          go_wp2_with fail
          refine c1.mono ?_
          rintro e w1 ⟨rfl, hb1⟩
          have HB1 := Lib.hid hb1
          clear hb1
          go_wp2_with fail
          refine (C2.out w1 (HNX.out.below HB1.out)).mono ?_
          rintro e w2 ⟨rfl, hb2⟩
          have HB3 := Lib.hid (chn HB1.out hb2)
          clear hb2
          go_wp2_with fail
          refine (cP w2).mono ?_
          rintro e w3 ⟨rfl, rfl⟩
          go_wp2
          go_ret
          exact nm_ret (und_ok H1.out H2.out (HT.out HH.out) (.inl rfl)) HB3.out
        | cons c t =>
          have h0 : 0 < X.size := by rw [hXz]; simp
          have hz0 : (0 : Int) < (X.size : Int) := by omega
          have hXe : X.toList.isEmpty = false := by rw [hXt]; rfl
          have hXc : X[0].toNat = c.toNat := by
            have : X[0] = c := by
              have e1 : X[0] = X.data.toList[0]'(by rw [← Lib.size_eq]; exact h0) := by simp; rfl
              rw [e1]
              simp [HX.out]
            rw [this]
          have hne : ¬ X.toList = [] := by rw [hXt]; simp
          clear hXt hXz
          by_cases hc : c = 46
          · have hX46 : ((X[0].toNat : Int) == 46) = true := by rw [hXc, hc]; rfl
            have HC := Lib.hid hc
            clear hXc hc
            go_enter Tryd.func27, Tryd.ntmps27
            go_wp2_with fail
            refine c1.mono ?_
            rintro e w1 ⟨rfl, hb1⟩
            have HB1 := Lib.hid hb1
            clear hb1
            go_wp2_with fail
            refine (C2.out w1 (HNX.out.below HB1.out)).mono ?_
            rintro e w2 ⟨rfl, hb2⟩
            have HB3 := Lib.hid (chn HB1.out hb2)
            clear hb2
            go_wp2_with fail
            refine (cP w2).mono ?_
            rintro e w3 ⟨rfl, rfl⟩
            go_wp2
            go_ret
            exact nm_ret (und_ok H1.out H2.out (HT.out HH.out) (.inr ⟨t, by rw [HC.out]⟩)) HB3.out
          · have hX46 : ((X[0].toNat : Int) == 46) = false := by
              rw [hXc, beq_eq_false_iff_ne]
              intro e
              apply hc
              apply UInt8.toNat.inj
              show c.toNat = 46
              omega
            have HC := Lib.hid hc
            clear hXc hc
            go_enter Tryd.func27, Tryd.ntmps27
            go_wp2_with fail
            refine c1.mono ?_
            rintro e w1 ⟨rfl, hb1⟩
            have HB1 := Lib.hid hb1
            clear hb1
            go_wp2_with fail
            refine (C2.out w1 (HNX.out.below HB1.out)).mono ?_
            rintro e w2 ⟨rfl, hb2⟩
            have HB3 := Lib.hid (chn HB1.out hb2)
            clear hb2
            go_wp2_with fail
            refine (cP w2).mono ?_
            rintro e w3 ⟨rfl, rfl⟩
            go_wp2
            go_ret
            exact nm_ret (und_bad (HT.out HH.out) HC.out) HB3.out
end Go.Proofs.YtagocfifagnpkaaDoor
