/-
  The document's Show: the walk.
-/
import Derived.Test.YteennkekpblccaaGreatDoorRefL
import Derived.Test.YteennkekpblccaaGreatDoorBck
import Derived.Test.YteennkekpblccaaGreatDoorShow
namespace Go.Proofs.YteennkekpblccaaGreatDoor
open Go.RowKit

theorem told_q {X : ByteArray} {t : Tok} {q : Nat} (h : (lexR X).1 = [(t, q)]) (hx : T t.x = X) : q = 0 := by
  rcases lexR_out (s := X) (l := [(t, q)]) (a := (lexR X).2.1) (b := (lexR X).2.2) (by rw [← h]) with ⟨_, _, L, hT, hL⟩ | ⟨_, e⟩
  · obtain ⟨⟨_, d, n, r, hl, _, _, _, htok, _⟩, _⟩ := (lex_places L.length L 0 _ (Nat.le_refl _) hL).1 0 t q rfl
    have hod : okl d := (okl_app.1 (hl ▸ hT.ok)).2
    have hrd : ∀ r ∈ d, rdb (r : Int) = true := fun r hr => hT.rd r (by rw [hl]; exact List.mem_append_right _ hr)
    have hox := (tok_text htok hod hrd).1
    have e : t.x = L := T_inj hox hT.ok (by rw [hx, hT.txt])
    have hs := tok_self htok 0
    rw [e, hL] at hs
    injection hs with hs
    injection hs with hs _
    injection hs
  · cases e
theorem told_three {K : Int} {X : ByteArray} {M : Int} {t : Tok} {q : Nat} (h : (lexR X).1 = [(t, q)]) {b : Bool} (hb : b = decide (t.k = K ∧ T t.x = X ∧ t.n = M)) : toldB K X M = b := by
  refine told_one h ?_
  rw [hb, decide_eq_decide]
  constructor
  · rintro ⟨h1, h2, h3⟩; exact ⟨h1, h2, h3, told_q h h2⟩
  · rintro ⟨h1, h2, h3, _⟩; exact ⟨h1, h2, h3⟩
theorem join_snoc (xs : List (List UInt8)) (y : List UInt8) : Lib.join (xs ++ [y]) [32] = if xs = [] then y else Lib.join xs [32] ++ [32] ++ y := by
  cases xs with
  | nil => rw [if_pos rfl]; exact Lib.join_one y [32]
  | cons x r =>
    rw [if_neg (by simp), List.cons_append, Lib.join_cons, Lib.join_cons]
    simp [Lib.joinTail]
theorem shB_zero (l : List RTok) : shB (l.take 0) = ⟨#[]⟩ := rfl
theorem shB_first {l : List RTok} {x : RTok} (h : l[0]? = some x) : shB (l.take (0 + 1)) = ByteArray.mk #[] ++ x.s := by
  have e : l.take (0 + 1) = [x] := by rw [List.take_add_one, h]; rfl
  rw [e]
  unfold shB
  rw [show [x].map (fun t : RTok => t.s.data.toList) = [x.s.data.toList] from rfl, Lib.join_one]
  apply ba_ext
  simp [ByteArray.data_append]
theorem shB_next {l : List RTok} {k : Nat} {x : RTok} (h : l[k]? = some x) (hk : k ≠ 0) : shB (l.take (k + 1)) = shB (l.take k) ++ ByteArray.mk #[32] ++ x.s := by
  have hlt := (List.getElem?_eq_some_iff.1 h).1
  unfold shB
  rw [List.take_add_one, h, List.map_append]
  rw [show (Option.toList (some x)).map (fun t : RTok => t.s.data.toList) = [x.s.data.toList] from rfl, join_snoc, if_neg ?_]
  · apply ba_ext
    simp [ByteArray.data_append]
  · intro e
    have := congrArg List.length e
    rw [List.length_map, List.length_take] at this
    have h2 : min k l.length = 0 := this
    omega
theorem shB_size {l : List RTok} (hx : ∀ t ∈ l, t.s.size ≤ 140) : ∀ k, k ≤ l.length → (shB (l.take k)).size ≤ 141 * k
  | 0, _ => by rw [shB_zero]; exact Nat.le_refl _
  | k + 1, h => by
    have ih := shB_size hx k (by omega)
    have hg : l[k]? = some l[k] := List.getElem?_eq_getElem (by omega)
    have hs := hx l[k] (List.getElem_mem _)
    by_cases hk : k = 0
    · subst hk
      rw [shB_first hg, ByteArray.size_append]
      have : (ByteArray.mk #[]).size = 0 := rfl
      omega
    · rw [shB_next hg hk, ByteArray.size_append, ByteArray.size_append]
      have : (ByteArray.mk #[32]).size = 1 := rfl
      omega

set_option maxHeartbeats 12800000 in
set_option maxRecDepth 100000 in
theorem show_ref (v : Value) (l : List RTok) (B : Nat) (hl : l.length ≤ 20) (hx : ∀ t ∈ l, t.s.size ≤ 140) (w : World) (ht : RTks w B v l) (hB : B ≤ w.heap.size) :
    Calls Tryz.prog 5 #[v] w (ShowPost l w) := by
  obtain ⟨A, c, rfl, hA⟩ := ht
  have HA := Lib.hid hA
  have HX := Lib.hid hx
  clear hA hx
  obtain ⟨n, hn⟩ : ∃ n, l.length = n := ⟨_, rfl⟩
  rw [hn] at hl ⊢
  have HN := Lib.hid hn
  clear hn
  go_enter Tryz.func5, Tryz.ntmps5
  go_wp2_with fail
  go_loopw [4, 5, 6, 7, 8] (fun z i _ _ _ wr => ∃ k : Nat, k ≤ n ∧ z = .string (shB (l.take k)) ∧ i = .int .i64 (k : Int) ∧ Below w.heap.size w wr ∧ ∀ (j : Nat) t, j < k → l[j]? = some t → tld t = true) (fun _ i _ _ _ _ => n - (intOf i).toNat)
  case atStart => exact ⟨0, Nat.zero_le _, rfl, rfl, Below.refl _ _, fun j t hj => absurd hj (Nat.not_lt_zero _)⟩
  case round =>
    obtain ⟨k, hk, rfl, rfl, hbw, hall⟩ := hrel
    have HALL := Lib.hid hall
    clear hall
    obtain ⟨S, hS⟩ : ∃ S, shB (l.take k) = S := ⟨_, rfl⟩
    have hSs : S.size ≤ 2820 := by have := shB_size HX.out k (by rw [HN.out]; exact hk); rw [hS] at this; omega
    rw [hS]
    have HS := Lib.hid hS
    clear hS
    by_cases hlt : k < n
    · obtain ⟨x, hx⟩ : ∃ x, l[k]? = some x := ⟨_, List.getElem?_eq_getElem (by rw [HN.out]; exact hlt)⟩
      obtain ⟨ad, rfl, hadB, hat⟩ := HA.out k x hx
      have hlB : (ad.add (k * 4)).block < w.heap.size := by rw [addBlock]; omega
      have hat2 := hat.below hbw hlB
      have hxs := HX.out x (List.mem_of_getElem? hx)
      have c1 := lex_ref x.s (by omega)
      have HXK := Lib.hid hx
      have HT : Hid (tld x = toldB x.k x.s x.n) := Lib.hid rfl
      have hnx : (k = 0 → shB (l.take (k + 1)) = S ++ x.s) ∧ (k ≠ 0 → shB (l.take (k + 1)) = S ++ ByteArray.mk #[32] ++ x.s) := by
        constructor
        · intro e
          subst e
          rw [shB_first hx, ← HS.out]; rfl
        · intro e
          rw [shB_next hx e, HS.out]
      have HNX := Lib.hid hnx
      clear hat hx hnx
      obtain ⟨K, X, M, P⟩ := x
      dsimp only at hat2 c1 HT HNX hxs
      obtain ⟨toks, a, b, hr⟩ : ∃ toks a b, lexR X = (toks, a, b) := ⟨_, _, _, rfl⟩
      have hr1 : (lexR X).1 = toks := by rw [hr]
      have hr2 := lexR_out hr
      rw [hr] at c1
      have C1 := Lib.hid c1
      clear c1 hr
      have HLB := Lib.hid hlB
      clear hlB
      by_cases hb0 : b = 0
      · subst hb0
        clear hr2
        by_cases hlen : toks.length = 1
        · obtain ⟨⟨tk, q⟩, rfl⟩ : ∃ x, toks = [x] := by
            cases toks with
            | nil => simp at hlen
            | cons x r => cases r with
              | nil => exact ⟨x, rfl⟩
              | cons y z => simp at hlen
          have HONE : Hid (∀ b, b = decide (tk.k = K ∧ T tk.x = X ∧ tk.n = M) → toldB K X M = b) := Lib.hid fun b hb => told_three hr1 hb
          clear hr1 hlen
          have HAT2 := Lib.hid hat2
          obtain ⟨p0, p1, p2, p3⟩ := hat2
          go_wp2_with fail
          refine (C1.out _).mono ?_
          rintro e w2 ⟨v, rfl, ht, hb2⟩
          clear p0 p1 p2 p3
          obtain ⟨p0, p1, p2, p3⟩ := HAT2.out.below hb2 (Nat.lt_of_lt_of_le HLB.out hbw.size)
          have hfin := hbw.trans (hb2.mono hbw.size)
          obtain ⟨A', c', rfl⟩ := ht.form
          dsimp only at ht
          obtain ⟨ad', rfl, _, hat'⟩ := ht.at_ (k := 0) rfl
          have e0 : ad'.add (0 * 4) = ad' := by simp [Addr.add]
          rw [e0] at hat'
          dsimp only at hat'
          dsimp only
          obtain ⟨K', hK⟩ : ∃ K', tk.k = K' := ⟨_, rfl⟩
          obtain ⟨X', hX'⟩ : ∃ X', T tk.x = X' := ⟨_, rfl⟩
          obtain ⟨M', hM⟩ : ∃ M', tk.n = M' := ⟨_, rfl⟩
          rw [hK, hX', hM] at hat' HONE
          have HTK := Lib.hid ht
          have HB2 := Lib.hid hb2
          clear hK hX' hM ht e0 hb2
          obtain ⟨t0, t1, t2, t3⟩ := hat'
          rw [show [(tk, q)].length = 1 from rfl]
          by_cases h1 : K' = K
          · subst h1
            have e1 : (K' != K') = false := by simp
            by_cases h2 : X' = X
            · subst h2
              have e2 : (X'.toList != X'.toList) = false := by simp
              by_cases h3 : M' = M
              · subst h3
                have HTRUE := Lib.hid (HT.out.trans (HONE.out true (by simp)))
                by_cases hk0 : k = 0
                · have hkz : ¬ (0 : Int) < (k : Int) := by omega
                  have HK := Lib.hid hk0
                  clear hk0
                  go_wp2
                  go_quiet (fail)
                  have hf := below_drewN' hfin nq
                  go_wp2
                  go_roundw
                  case rel => exact ⟨k + 1, by omega, by rw [HNX.out.1 HK.out], by go_num, hf, fun j t hj ht => by
                    rcases Nat.lt_or_ge j k with h | h
                    · exact HALL.out j t h ht
                    · have hjk : j = k := by omega
                      subst hjk
                      rw [HXK.out] at ht
                      injection ht with ht
                      subst ht
                      exact HTRUE.out⟩
                  case measure => simp [intOf]; omega
                · have hkz : (0 : Int) < (k : Int) := by omega
                  have HK := Lib.hid hk0
                  clear hk0
                  go_wp2
                  go_quiet (fail)
                  have hf := below_drewN' hfin nq
                  go_wp2
                  go_roundw
                  case rel => exact ⟨k + 1, by omega, by rw [HNX.out.2 HK.out], by go_num, hf, fun j t hj ht => by
                    rcases Nat.lt_or_ge j k with h | h
                    · exact HALL.out j t h ht
                    · have hjk : j = k := by omega
                      subst hjk
                      rw [HXK.out] at ht
                      injection ht with ht
                      subst ht
                      exact HTRUE.out⟩
                  case measure => simp [intOf]; omega
              · have h3' : (M' == M) = false := by rw [beq_eq_false_iff_ne]; exact h3
                have h3n : (M' != M) = true := by rw [bne, h3']; rfl
                have HNO := Lib.hid (HT.out.trans (HONE.out false (by simp [h3])))
                clear h3
                go_wp2
                go_quiet (fail)
                have hf := below_drewN' hfin nq
                go_wp2
                go_ret2
                exact show_no (not_told HXK.out HNO.out) hf
            · have h2' : (X'.toList == X.toList) = false := by
                rw [beq_eq_false_iff_ne]
                intro h
                rw [Lib.toList_data, Lib.toList_data] at h
                exact h2 (ba_ext h)
              have h2n : (X'.toList != X.toList) = true := by rw [bne, h2']; rfl
              have HNO := Lib.hid (HT.out.trans (HONE.out false (by simp [h2])))
              clear h2
              go_wp2
              go_quiet (fail)
              have hf := below_drewN' hfin nq
              go_wp2
              go_ret2
              exact show_no (not_told HXK.out HNO.out) hf
          · have h1' : (K' == K) = false := by rw [beq_eq_false_iff_ne]; exact h1
            have h1n : (K' != K) = true := by rw [bne, h1']; rfl
            have HNO := Lib.hid (HT.out.trans (HONE.out false (by simp [h1])))
            clear h1
            go_wp2
            go_quiet (fail)
            have hf := below_drewN' hfin nq
            go_wp2
            go_ret2
            exact show_no (not_told HXK.out HNO.out) hf
        · have HNO := Lib.hid (HT.out.trans (told_len (by rw [hr1]; exact hlen)))
          have hlz : ((toks.length : Int) == 1) = false := by rw [beq_eq_false_iff_ne]; omega
          have hln : ((toks.length : Int) != 1) = true := by rw [bne, hlz]; rfl
          clear hr1
          obtain ⟨p0, p1, p2, p3⟩ := hat2
          go_wp2_with fail
          refine (C1.out _).mono ?_
          rintro e w2 ⟨v, rfl, ht, hb2⟩
          have hfin := hbw.trans (hb2.mono hbw.size)
          obtain ⟨A', c', rfl⟩ := ht.form
          dsimp only
          clear ht hb2
          go_wp2
          go_quiet (fail)
          have hf := below_drewN' hfin nq
          go_wp2
          go_ret2
          exact show_no (not_told HXK.out HNO.out) hf
      · have htk : toks = [] := by rcases hr2 with ⟨e, _⟩ | ⟨_, e⟩; exact absurd e hb0; exact e
        have HNO := Lib.hid (HT.out.trans (told_len (by rw [hr1, htk]; simp)))
        have hbz : (b == 0) = false := by rw [beq_eq_false_iff_ne]; exact hb0
        have hbn : (b != 0) = true := by rw [bne, hbz]; rfl
        clear hr1 hr2 hb0 htk
        obtain ⟨p0, p1, p2, p3⟩ := hat2
        go_wp2_with fail
        refine (C1.out _).mono ?_
        rintro e w2 ⟨v, rfl, ht, hb2⟩
        have hfin := hbw.trans (hb2.mono hbw.size)
        obtain ⟨A', c', rfl⟩ := ht.form
        dsimp only
        clear ht hb2
        go_wp2
        go_quiet (fail)
        have hf := below_drewN' hfin nq
        go_wp2
        go_ret2
        exact show_no (not_told HXK.out HNO.out) hf
    · have hkn : k = n := by omega
      subst hkn
      have HALLT := Lib.hid (all_told (l := l) (by rw [HN.out]; exact HALL.out))
      have HSH : Hid (S = shB l) := Lib.hid (by have := HS.out; rw [List.take_of_length_le (by rw [HN.out]; exact Nat.le_refl _)] at this; exact this.symm)
      go_wp2
      go_ret2
      exact show_yes HALLT.out HSH.out hbw
end Go.Proofs.YteennkekpblccaaGreatDoor
