/-
  The document's Paths: what it tells.
-/
import Derived.Test.YtmjdeadkekhpdaaPtu
namespace Go.Proofs.Ytmjdeadkekhpdaa
open Go.RowKit

set_option maxHeartbeats 6400000 in
set_option maxRecDepth 100000 in
theorem refPaths : ∀ (n : Nat) (t : Tr), szT t ≤ n → n ≤ 1000000 → ∀ (kind : Int) (w : World) (Sq : Nat → Prop) (v : Value), Bel Sq w.heap.size → InT w Sq v t →
    Calls Try.prog 29 #[v, .int .i64 kind] w (PaPost (pathsT kind t) w)
  | 0, t, h, _, _, _, _, _, _, _ => absurd h (by unfold szT; omega)
  | n + 1, (x, ks), hn, hbig, kind, w, Sq, v, hS, hin => by
    have ih := refPaths n
    obtain ⟨q, p, A, c, rfl, hq1, c0, c1, c2, c3, c4, hc, hkid⟩ := hin.open
    have hqw : q < w.heap.size := hS q hq1
    have HK := Lib.hid hkid
    have HBEL := Lib.hid hS
    have hsz : szT (x, ks) = 1 + ks.sz := rfl
    have hll := Fr.len_le ks
    obtain ⟨N, hN⟩ : ∃ N, ks.len = N := ⟨_, rfl⟩
    rw [hN] at c4 hll
    have hN1 : N ≤ 1000000 := by omega
    have HNN := Lib.hid hN
    have HSZ := Lib.hid hsz
    have hcase : kind < 0 ∨ (¬ kind < 0 ∧ x.k = kind ∧ (x.k == kind) = true) ∨ (¬ kind < 0 ∧ x.k ≠ kind ∧ (x.k == kind) = false) := by
      by_cases h1 : kind < 0
      · exact .inl h1
      · by_cases h2 : x.k = kind
        · exact .inr (.inl ⟨h1, h2, by simpa using h2⟩)
        · exact .inr (.inr ⟨h1, h2, by simpa using h2⟩)
    have hnumT := pathsT_num kind (x, ks)
    have HNUM := Lib.hid hnumT
    have hopt : (kind < 0 ∨ x.k = kind → optT kind x = [[]]) ∧ (¬ (kind < 0 ∨ x.k = kind) → optT kind x = []) := ⟨fun h => if_pos h, fun h => if_neg h⟩
    have HPT := Lib.hid (show pathsT kind (x, ks) = optT kind x ++ pathsF kind ks 0 from rfl)
    have HOPT := Lib.hid hopt
    have HIH := Lib.hid ih
    clear hin hkid hc hN hsz hS ih hnumT hopt
    obtain ⟨H, hH⟩ : ∃ H, w.heap.size = H := ⟨_, rfl⟩
    have HH := Lib.hid hH
    clear hH
    obtain ⟨i0, hi, hz0, hz1, hz2⟩ := info_parts infoSl
    rcases hcase with hk0 | ⟨hk0, hk1, hk2⟩ | ⟨hk0, hk1, hk2⟩
    all_goals
      go_enter Try.func29, Try.ntmps29
      go_wp2_with (at_builtin; (refine wpList_append_own_at _ rfl _ _ 51 rfl H 45 i0 _ 1 24 Try.underlying51 hi hz0 hz1 hz2 rfl (by decide) (.slice none 0 0) 0 [] rfl (World.ownsRow_nil _ _ _ _) ⟨w.heap.size, 0, none⟩ 1 1 [.slice none 0 0] rfl rfl (cell_one_new _ _ _) (fun x hx => by simp at hx; subst hx; rfl) (by unfold maxLen; omega) (by omega) (by have := HH.out; simp; omega) ?_); intro v' w4 hown4 hgrow4 _ hat4; have HOWN4 := Lib.hid hown4; have HG4 := Lib.hid hgrow4; have HAT4 := Lib.hid hat4; clear hown4 hgrow4 hat4)
      go_loopw [5, 6, 7, 8] (fun vo i _ _ wr => ∃ (k : Nat) (done rest : Fr), i = .int .i64 k ∧ k = done.len ∧ ks = done.app rest ∧ Kid w Sq A rest k ∧ OwnP wr H vo (optT kind x ++ pathsF kind done 0) ∧ Below H w wr) (fun _ i _ _ _ => N - (intOf i).toNat)
      case atStart =>
        first
        | (rw [HOPT.out.2 (by omega)]; exact ⟨0, .nil, ks, rfl, rfl, rfl, HK.out, OwnP.nil _ _, Below.refl _ _⟩)
        | (rw [HOPT.out.1 (by omega)]; exact ⟨0, .nil, ks, rfl, rfl, rfl, HK.out, path_more (wa := w) (vo := .slice none 0 0) (L := []) (t := []) (ps := []) trivial (.inl ⟨rfl, rfl⟩) HOWN4.out HG4.out (by have := HAT4.out; simpa using this), ((Below.refl H w).alloc (by rw [HH.out]; omega) _).grown HG4.out (by have := HH.out; simp; omega) (by simp [Value.ownBlock])⟩)
      case round =>
        obtain ⟨k, done, rest, rfl, hk, hks, hkid, hown, hbw⟩ := hrel
        have hl : N = done.len + rest.len := by rw [← HNN.out, hks, Fr.len_app]
        have hss : ks.sz = done.sz + rest.sz := by rw [hks, Fr.sz_app]
        have hsz := HSZ.out
        have hbs := hbw.size
        rw [HH.out] at hbs
        have hqr : q < H := by rw [← HH.out]; exact hqw
        have c4r := (hbw.cell (p := ⟨q, p + 4, none⟩) hqr).trans c4
        have hbel : Bel Sq wr.heap.size := fun q' h => by have := HBEL.out q' h; rw [HH.out] at this; omega
        have HBW := Lib.hid hbw
        have HOWN := Lib.hid hown
        have HKS := Lib.hid hks
        clear hbw hown
        by_cases hlt : 0 < rest.len
        · obtain ⟨y, l, r, rfl⟩ := Fr.cut hlt
          obtain ⟨kb, ko, u, rfl, hkb, hcell, hu, hnext⟩ := hkid.next
          have hyl : szT (y, l) = 1 + l.sz := rfl
          have hsr : (Fr.cons y l r).sz = 1 + l.sz + r.sz := rfl
          have hlr : (Fr.cons y l r).len = r.len + 1 := rfl
          have hkbH : kb < H := by rw [← HH.out]; exact HBEL.out _ hkb
          have hcr := (HBW.out.cell (p := ⟨kb, ko + k, none⟩) hkbH).trans hcell
          have cI := HIH.out (y, l) (by omega) (by omega) kind wr Sq u hbel (hu.keep (fun _ h => h) fun pp hp => HBW.out.block _ (by have := HBEL.out _ hp; rw [HH.out] at this; exact this))
          have hnumL := pathsT_num kind (y, l)
          have hb1 : (pathsT kind (y, l)).length ≤ 1000000 := by omega
          have hb2 : ∀ pp ∈ pathsT kind (y, l), pp.length ≤ 1000000 := fun pp hp => by have := hnumL.2 pp hp; omega
          have hkN : k < N := by omega
          have hkz : (k : Int) < (N : Int) := by omega
          have HNX := Lib.hid (pathsF_snoc kind y l done 0)
          obtain ⟨L, hL⟩ : ∃ L, pathsT kind (y, l) = L := ⟨_, rfl⟩
          rw [hL] at cI hb1 hb2
          have HL := Lib.hid hL
          have HLN := Lib.hid hb2
          have HK1 := Lib.hid hk
          have HN := Lib.hid hnext
          obtain ⟨q1, o1, rfl⟩ := hu.ptr
          have HQ := Lib.hid (show (optT kind x ++ pathsF kind done 0).length ≤ 1000000 from by
            have h1 := (pathsF_num kind done 0).1
            rw [List.length_append]
            unfold optT
            split <;> simp only [List.length_singleton, List.length_nil] <;> omega)
          clear hkid hnext hu hks hk hl hlr hsr hss hsz hyl hL hcell hbel hnumL hb2
          go_wp2_with (go_at_call 29; refine cI.mono ?_; rintro e w2 ⟨v2, rfl, hv2, hb2'⟩; have HV2 := Lib.hid hv2; have HB2 := Lib.hid hb2'; clear hv2 hb2')
          obtain ⟨H2, hH2⟩ : ∃ H2, wr.heap.size = H2 := ⟨_, rfl⟩
          obtain ⟨H3, hH3⟩ : ∃ H3, w2.heap.size = H3 := ⟨_, rfl⟩
          obtain ⟨A2, cc2, rfl, hc2, hat2⟩ := HV2.out.open
          obtain ⟨LK, hLK⟩ : ∃ LK, optT kind x ++ pathsF kind done 0 = LK := ⟨_, rfl⟩
          have hs23 := HB2.out.size
          have hlt5 : ∀ g, u5.ownBlock = some g → g < H2 := by
            obtain ⟨_, h1, _⟩ := HOWN.out
            intro g hg
            have := (h1.lt g hg).2
            omega
          have hin0 : PIn w w2 H H2 H3 LK u5 w2 := ⟨by rw [← hLK]; exact HOWN.out.below HB2.out, HBW.out.trans (HB2.out.mono hbs), fun g hg => .inl (hlt5 g hg), fun _ _ _ => rfl, by omega⟩
          have HIN0 := Lib.hid hin0
          have HNX2 : Hid (optT kind x ++ pathsF kind (done.app (.cons y l .nil)) 0 = LK ++ L.map fun pp => (k : Int) :: pp) := Lib.hid (by
            rw [HNX.out, ← List.append_assoc, hLK, HL.out, HK1.out, Int.zero_add])
          have hHH : H ≤ H2 ∧ H2 ≤ H3 := by omega
          have hq2 : LK.length ≤ 1000000 := by rw [← hLK]; exact HQ.out
          rw [hH2, hH3] at hat2
          have HAT2 := Lib.hid hat2
          obtain ⟨M, hM⟩ : ∃ M, L.length = M := ⟨_, rfl⟩
          rw [hM] at hb1 hc2 ⊢
          have HM := Lib.hid hM
          have hqr3 : q < H3 := by omega
          have HS2 := Lib.hid hH2
          have HS3 := Lib.hid hH3
          clear hin0 hlt5 hat2 hLK hM hcr cI c4r hs23 HV2 HB2 HOWN HBW HQ HNX hH2 hH3
          go_loopw [5, 8] (fun vo j wb => ∃ m : Nat, j = .int .i64 m ∧ m ≤ M ∧ PIn w w2 H H2 H3 (LK ++ (L.take m).map fun pp => (k : Int) :: pp) vo wb) (fun _ j _ => M - (intOf j).toNat)
          case atStart => exact ⟨0, rfl, Nat.zero_le _, by simpa using HIN0.out⟩
          case round =>
            obtain ⟨m, rfl, hm, hpin⟩ := hrel
            have HPIN := Lib.hid hpin
            clear hpin
            by_cases hmlt : m < M
            · have hmz : (m : Int) < (M : Int) := by omega
              obtain ⟨t, ht⟩ : ∃ t, L[m]? = some t := ⟨_, List.getElem?_eq_getElem (by rw [HM.out]; exact hmlt)⟩
              obtain ⟨g, u, rfl, hg1, hg2, hgc, hgs⟩ := HAT2.out m t ht
              rw [Nat.zero_add] at hgc
              obtain ⟨UA, UL, uc, rfl⟩ : ∃ UA UL uc, u = .slice UA UL uc := by
                rcases hgs with ⟨_, rfl⟩ | ⟨b, c', rfl, _⟩
                · exact ⟨_, _, _, rfl⟩
                · exact ⟨_, _, _, rfl⟩
              have hgcr := (HPIN.out.2.2.2.1 ⟨g, m, none⟩ hg1 hg2).trans hgc
              have hHr : H3 ≤ wr.heap.size := HPIN.out.2.2.2.2
              have hgr : g < wr.heap.size := by omega
              have htl := HLN.out t (List.mem_of_getElem? ht)
              have HUS : Hid (∀ ob, Sl1 (wr.alloc ob) (fun q' => q' < wr.heap.size) (.slice UA UL uc) t) := Lib.hid fun ob => hgs.keep (fun q' h => by have := h.2.1; have := HS3.out; omega) fun pp hp => by
                have h1 := hp.1
                have h2 := hp.2.1
                rw [HS3.out] at h2
                exact (((Below.refl wr.heap.size wr).alloc (Nat.le_refl _) ob).cell (by omega)).trans (HPIN.out.2.2.2.1 pp h1 h2)
              have HROW : Hid ((L.take (m + 1)).map (fun pp => (k : Int) :: pp) = (L.take m).map (fun pp => (k : Int) :: pp) ++ [(k : Int) :: t]) := Lib.hid (by rw [List.take_add_one, ht, List.map_append]; rfl)
              obtain ⟨LL, hLL⟩ : ∃ LL, (LK ++ (L.take m).map fun pp => (k : Int) :: pp) = LL := ⟨_, rfl⟩
              have hLn : LL.length ≤ 2000000 := by
                rw [← hLL, List.length_append, List.length_map, List.length_take]
                omega
              have hpin := HPIN.out
              rw [hLL] at hpin
              obtain ⟨⟨ps, hro, hpp⟩, hbw, hvo, hkp, -⟩ := hpin
              have HLL := Lib.hid hLL
              have HRO := Lib.hid hro
              have HPP := Lib.hid hpp
              have HBW := Lib.hid hbw
              have HVO := Lib.hid hvo
              have HKP := Lib.hid hkp
              obtain ⟨NL, hNL⟩ : ∃ NL, LL.length = NL := ⟨_, rfl⟩
              have HNL := Lib.hid hNL
              rw [hNL] at hLn
              clear hgs ht hLL hro hpp hbw hvo hkp hgc HPIN hNL
              go_wp2_with (at_builtin; first
                | (refine wpList_tail rfl _ _ rfl wr.heap.size (by simp) (k : Int) rfl (own_one wr k) (fun q' => q' < wr.heap.size) _ t rfl (HUS.out _) (by omega) ?_; intro v5 w5 hown5 hgrow5 hat5; obtain ⟨g5, cap5, hv5, _, _⟩ := hown5.form (by simp); subst hv5; have HOWN5 := Lib.hid hown5; have HG5 := Lib.hid hgrow5; clear hown5 hgrow5 hat5; have HB5 : Hid (Below wr.heap.size wr w5) := Lib.hid (((Below.refl wr.heap.size wr).alloc (Nat.le_refl _) _).grown HG5.out (by simp) (fun k' hk' => by injection hk' with hk'; omega)); have hs5 := HB5.out.size)
                | (refine wpList_append_own_at _ rfl _ _ 51 rfl H 45 i0 _ 1 24 Try.underlying51 hi hz0 hz1 hz2 rfl (by decide) u5 NL ps rfl ((own_below (by rw [← HNL.out]; exact HRO.out) HB5.out).alloc _) ⟨w5.heap.size, 0, none⟩ 1 1 [_] rfl rfl (cell_one_new _ _ _) (fun x hx => by simp at hx; subst hx; exact (Sl1.made (S := fun _ => True) HOWN5.out (by simp) fun _ _ => trivial).one) (by unfold maxLen; omega) (by omega) (by simp; omega) ?_; intro v6 w6 hown6 hgrow6 _ hat6; have HOWN6 := Lib.hid hown6; have HG6 := Lib.hid hgrow6; have HAT6 := Lib.hid hat6; clear hown6 hgrow6 hat6))
              go_roundw
              case rel =>
                refine ⟨m + 1, by go_num, by omega, ?_⟩
                rw [HROW.out, ← List.append_assoc, HLL.out]
                exact PIn.step (by omega) (by omega) HBW.out HPP.out (fun g' hg' => (HRO.out.lt g' hg').2) HVO.out HKP.out hHr HOWN5.out HG5.out (by rw [HNL.out]; exact HOWN6.out) HG6.out (by have := HAT6.out; simpa using this) (fun g' hg' => (HRO.out.lt g' hg').1)
              case measure => simp [intOf]; omega
            · have hmM : m = M := by omega
              have hmz : ¬ (m : Int) < (M : Int) := by omega
              have HFIN : Hid (L.take m = L) := Lib.hid (List.take_of_length_le (by rw [HM.out]; omega))
              clear hmM
              go_wp2_with fail
              go_roundw
              case rel => exact ⟨k + 1, done.app (.cons y l .nil), r, by go_num, by rw [Fr.len_app, HK1.out]; rfl, by rw [HKS.out, Fr.app_cons], HN.out, by
                rw [HNX2.out]
                have := HPIN.out.1
                rw [HFIN.out] at this
                exact this, HPIN.out.2.1⟩
              case measure => simp [intOf]; omega
        · have h0 : rest = .nil := by
            cases rest with
            | nil => rfl
            | cons y l r => exact absurd (Nat.succ_pos _) hlt
          subst h0
          have hkN : N = k := by rw [hl, hk]; rfl
          have hkz : ¬ (k : Int) < (N : Int) := by omega
          clear hkid hk hl hkN hks hss
          go_wp2_with fail
          go_ret
          rw [HPT.out]
          have hfin : ks = done := by rw [HKS.out, Fr.app_nil]
          rw [hfin]
          exact pa_ret (by rw [HH.out]; exact HOWN.out) (by rw [HH.out]; exact HBW.out)
end Go.Proofs.Ytmjdeadkekhpdaa
