/-
  The document's Lex: the walk.
-/
import Derived.Test.YthonaeigacfmbaaGreatDoorGp13
namespace Go.Proofs.YthonaeigacfmbaaGreatDoor.B
open Go.RowKit

theorem lex_skip {d : List Nat} {k p : Nat} (h : btw d = k + btw (d.drop k)) : lexL d p = lexL (d.drop k) (p + sz (d.take k)) := by
  have hd : d.drop (btw d) = (d.drop k).drop (btw (d.drop k)) := by rw [h, List.drop_drop]
  have ht : sz (d.take (btw d)) = sz (d.take k) + sz ((d.drop k).take (btw (d.drop k))) := by rw [h, List.take_add, sz_app]
  by_cases he : (d.drop k).drop (btw (d.drop k)) = []
  · rw [lex_end he, lex_end (by rw [hd]; exact he)]
  · cases e : tokT ((d.drop k).drop (btw (d.drop k))) with
    | none => rw [lex_bad he e, lex_bad (by rw [hd]; exact he) (by rw [hd]; exact e), ht, Nat.add_assoc]
    | some tn =>
      obtain ⟨t, m⟩ := tn
      rw [lex_next he e, lex_next (by rw [hd]; exact he) (by rw [hd]; exact e), ht, hd, ← Nat.add_assoc p]
theorem rel_skip {L b : List Nat} {out : List (Tok × Nat)} {a k : Nat} (h : Rel L out b a) (hb : btw b = k + btw (b.drop k)) : Rel L out (b.drop k) (a + sz (b.take k)) := by
  unfold Rel at h ⊢
  rw [lex_skip hb] at h
  exact h
theorem btw_blk {r : Nat} {t : List Nat} (h : blk r = true) : btw (r :: t) = 1 + btw t := by
  have h1 : cnt blk [r] = 1 := by simp [cnt, h]
  have h2 : btw [r] = 1 := by rw [btw_end (by rw [h1]; rfl), h1]
  exact btw_absorb 1 [r] t (Nat.le_refl _) h2
theorem opens_is {d : List Nat} (h : opens d = true) : ∃ t, d = 40 :: 42 :: t := by
  obtain ⟨t, ht⟩ := List.isPrefixOf_iff_prefix.1 h
  exact ⟨t, ht.symm⟩
theorem btw_cm {d : List Nat} {k : Nat} (h : cm 0 32 d = some k) (ho : opens d = true) : btw d = k + btw (d.drop k) := by
  have hk := cm_some h
  obtain ⟨t, ht⟩ := opens_is ho
  have h1 : cnt blk d = 0 := by rw [ht]; rfl
  have h2 : cmt d = k := by unfold cmt; rw [if_pos ho, h]; rfl
  have h3 := btw_step (l := d) (by rw [h1, List.drop_zero, h2]; omega)
  rw [h1, List.drop_zero, h2, Nat.zero_add] at h3
  exact h3
theorem cm_bad {d : List Nat} (h : cm 0 32 d = none) (ho : opens d = true) : btw d = 0 ∧ tokT d = none := by
  obtain ⟨t, ht⟩ := opens_is ho
  have h1 : cnt blk d = 0 := by rw [ht]; rfl
  have h2 : cmt d = 0 := by unfold cmt; rw [if_pos ho, h]; rfl
  refine ⟨btw_zero h1 h2, ?_⟩
  rw [ht]; rfl
theorem btw_tok {r : Nat} {t : List Nat} (h : blk r = false) (ho : opens (r :: t) = false) : btw (r :: t) = 0 := by
  refine btw_zero (by simp [cnt, h]) ?_
  unfold cmt
  rw [if_neg (by rw [ho]; simp)]
theorem rel_end0 {L : List Nat} {out : List (Tok × Nat)} {a : Nat} (h : Rel L out [] a) : lexL L 0 = .inl out := rel_end h rfl
theorem rel_bad0 {L b : List Nat} {out : List (Tok × Nat)} {a : Nat} (h : Rel L out b a) (e : b ≠ []) (h0 : btw b = 0) (e2 : tokT b = none) : lexL L 0 = .inr a := by
  have := rel_bad h (by rw [h0]; exact e) (by rw [h0]; exact e2)
  rw [h0] at this
  exact this
theorem rel_next0 {L b : List Nat} {out : List (Tok × Nat)} {a : Nat} {t : Tok} {n : Nat} (h : Rel L out b a) (e : b ≠ []) (h0 : btw b = 0) (e2 : tokT b = some (t, n)) :
    Rel L (out ++ [(t, a)]) (b.drop n) (a + sz (b.take n)) := by
  have := rel_next h (by rw [h0]; exact e) (by rw [h0]; exact e2)
  rw [h0] at this
  exact this
theorem blk_cls (r : Nat) : blk r = decide (cls (r : Int) = 3) := rfl
theorem sz_next (L : List Nat) (i k : Nat) : sz (L.take (i + k)) = sz (L.take i) + sz ((L.drop i).take k) := by rw [List.take_add, sz_app]

set_option maxHeartbeats 12800000 in
set_option maxRecDepth 100000 in
theorem lex_ref (s : ByteArray) (hs : s.size ≤ 1000000000) (w : World) :
    Calls Tryz.prog 29 #[.string s] w (LexPost (lexR s) w) := by
  have cK := refCheck s w hs
  have hck : CkPost s w = fun e w' => e = .returned (.tuple #[.int .i64 (ckr s).1, .int .i64 (ckr s).2]) ∧ Below w.heap.size w w' := rfl
  rw [hck] at cK
  clear hck
  by_cases hok : (ckr s).2 = 0
  · obtain ⟨hc, hv, hrd, hsz⟩ := ckr_ok hok
    rw [hc] at cK
    have cD := fun W => refDecode s W hs
    obtain ⟨L, hLd⟩ : ∃ L, rns s 0 = L := ⟨_, rfl⟩
    have hlen : L.length ≤ 16384 := by have := rl_len s; rw [rl_true hv, hLd] at this; omega
    have hoL : okl L := by rw [← hLd]; exact rns_okl hv
    have hdec : ∀ W, DecPost s W = fun e w' => ∃ v, e = .returned (.tuple #[v, .int .i64 0]) ∧ Sl w' w'.heap.size v L ∧ Below W.heap.size W w' := by
      intro W
      unfold DecPost
      rw [er_true hv, rl_true hv, hLd]
    have HOK := Lib.hid hok
    have HLD := Lib.hid hLd
    have HDEC := Lib.hid hdec
    obtain ⟨i0, hi, hz0, hz1, hz2⟩ := info_parts infoTok
    clear hok hc hv hrd hLd hdec
    obtain ⟨n, hn⟩ : ∃ n, L.length = n := ⟨_, rfl⟩
    rw [hn] at hlen
    have HN := Lib.hid hn
    clear hn
    go_enter Tryz.func29, Tryz.ntmps29
    go_wp2_with fail
    refine cK.mono ?_
    rintro e w1 ⟨rfl, hb1⟩
    go_wp2_with fail
    have cD1 := cD w1
    rw [HDEC.out] at cD1
    refine cD1.mono ?_
    rintro e w2 ⟨v, rfl, hsl, hb2⟩
    have hb3 := hb1.trans (hb2.mono hb1.size)
    obtain ⟨A, c, rfl, hlc, _⟩ := id hsl
    have HSL := Lib.hid hsl
    rw [HN.out] at HSL hlc ⊢
    have HB3 := Lib.hid hb3
    have hle2 := hb3.size
    clear cD1 hsl hb1 hb2 hb3
    go_wp2_with fail
    go_loopw [9, 10, 11, 12, 13, 14] (fun v x _ _ _ _ wr => ∃ (i : Nat) (out : List (Tok × Nat)), x = .int .i64 (i : Int) ∧ i ≤ n ∧ out.length ≤ i ∧ wr.ownsRow w2.heap.size 63 4 v out.length (tcel out) ∧ Below w.heap.size w wr ∧ Below w2.heap.size w2 wr ∧ Rel L out (L.drop i) (sz (L.take i))) (fun _ x _ _ _ _ _ => n - (intOf x).toNat)
    case atStart => exact ⟨0, [], rfl, Nat.zero_le _, Nat.zero_le _, ⟨rfl, .inl ⟨rfl, rfl⟩⟩, HB3.out, Below.refl _ _, rel_start L⟩
    case round =>
      obtain ⟨i, out, rfl, hile, hol, hown, hbr, hbr2, hrel⟩ := hrel
      have HREL := Lib.hid hrel
      have HBR := Lib.hid hbr
      have HBR2 := Lib.hid hbr2
      have HOWN := Lib.hid hown
      have hszr := hbr.size
      clear hrel hbr hbr2 hown
      by_cases hlt : i < n
      · obtain ⟨r, hr⟩ : ∃ r, L[i]? = some r := ⟨_, List.getElem?_eq_getElem (by rw [HN.out]; exact hlt)⟩
        obtain ⟨ad, hA, hc⟩ := cell_of (HSL.out.below HBR2.out) (by exact hr)
        subst hA
        have hzl : (i : Int) < (n : Int) := by omega
        have hd : L.drop i = r :: L.drop (i + 1) := drop_succ hr
        have cC := fun W => refClass (r : Int) W
        obtain ⟨k0, hk0⟩ : ∃ c, cls (r : Int) = c := ⟨_, rfl⟩
        rw [hk0] at cC
        obtain ⟨P, hP⟩ : ∃ P, sz (L.take i) = P := ⟨_, rfl⟩
        obtain ⟨Q, hQ⟩ : ∃ Q, T (L.take i) = Q := ⟨_, rfl⟩
        have hQz : Q.size = P := by rw [← hQ, T_size, hP]
        have hPb : P ≤ 65536 := by have := sz_le (L.take i); rw [List.length_take, hP] at this; omega
        have hT : ∀ W, Below w.heap.size w W → Below w2.heap.size w2 W → Calls Tryz.prog 61 #[.slice (some ad) n c, .int .i64 0, .int .i64 (i : Int)] W (StrSame Q W) := fun W _ hb => by
          have := text_any (.slice (some ad) n c) L w2.heap.size 0 i W (HSL.out.below hb) hoL (Nat.zero_le _) (by rw [HN.out]; exact hile) (by have := HN.out; omega)
          rw [List.drop_zero, Nat.sub_zero, hQ] at this
          exact this
        have hTw : ∀ W, W = wr → Calls Tryz.prog 61 #[.slice (some ad) n c, .int .i64 0, .int .i64 (i : Int)] W (StrSame Q W) := fun W e => by subst e; exact hT _ HBR.out HBR2.out
        have HT : Hid (∀ W, Below w.heap.size w W → W = wr → Calls Tryz.prog 61 #[.slice (some ad) n c, .int .i64 0, .int .i64 (i : Int)] W (StrSame Q W)) := Lib.hid (fun W _ e => hTw W e)
        have HP := Lib.hid hP
        have HR := Lib.hid hr
        have HD := Lib.hid hd
        have HK0 := Lib.hid hk0
        clear hr hd hk0 hP hQ hT hTw
        subst hQz
        by_cases hb : k0 = 3
        · subst hb
          have HB1 : Hid (btw (L.drop i) = 1 + btw ((L.drop i).drop 1)) := Lib.hid (by
            rw [HD.out, btw_blk (by rw [blk_cls, HK0.out]; rfl)]; rfl)
          have HNX := Lib.hid (rel_skip HREL.out HB1.out)
          go_wp2_with fail
          refine (HT.out _ HBR.out rfl).mono ?_
          rintro e w' ⟨rfl, rfl⟩
          go_wp2_with fail
          refine (cC _).mono ?_
          rintro e w' ⟨rfl, rfl⟩
          go_wp2_with fail
          go_roundw
          case rel => exact ⟨i + 1, out, by go_num, by omega, by omega, HOWN.out, HBR.out, HBR2.out, by have := HNX.out; rw [List.drop_drop, ← sz_next] at this; exact this⟩
          case measure => simp [intOf]; omega
        · have hbz : (k0 == 3) = false := by rw [beq_eq_false_iff_ne]; exact hb
          have HBLK : Hid (blk r = false) := Lib.hid (by rw [blk_cls, HK0.out, decide_eq_false_iff_not]; exact hb)
          clear hb
          have HNE : Hid (L.drop i ≠ []) := Lib.hid (by rw [HD.out]; simp)
          cases hop : opens (L.drop i)
          · have HOP := Lib.hid hop
            have HB0 : Hid (btw (L.drop i) = 0) := Lib.hid (by rw [HD.out]; exact btw_tok HBLK.out (by rw [← HD.out]; exact hop))
            by_cases h1n : i + 1 < n
            · obtain ⟨q, hq⟩ : ∃ q, L[i + 1]? = some q := ⟨_, List.getElem?_eq_getElem (by rw [HN.out]; exact h1n)⟩
              obtain ⟨ad2, hA2, hc2⟩ := cell_of (HSL.out.below HBR2.out) (by exact hq)
              injection hA2 with hA2
              subst hA2
              have hc3 := cell_succ hc2
              have h1z : (i : Int) + 1 < (n : Int) := by omega
              have hnot : ¬ (r = 40 ∧ q = 42) := by
                rintro ⟨rfl, rfl⟩
                rw [drop_two HR.out hq] at hop
                exact absurd hop (by simp [opens])
              by_cases hr40 : r = 40
              · have hq42 : ((q : Int) == 42) = false := by rw [beq_eq_false_iff_ne]; omega
                subst hr40
                clear hop hq hnot
                cases htok : tokT (L.drop i) with
                | none =>
                  have HBAD := Lib.hid (rel_bad0 HREL.out HNE.out HB0.out htok)
                  have CT := Lib.hid (token_ref (.slice (some ad) n c) L w2.heap.size i _ wr (HSL.out.below HBR2.out) HBR2.out.size hoL (by have := HN.out; omega) HR.out HOP.out)
                  have ct := CT.out
                  rw [htok] at ct
                  have CT2 := Lib.hid ct
                  clear htok ct CT
                  go_wp2_with fail
                  refine (HT.out _ HBR.out rfl).mono ?_
                  rintro e w' ⟨rfl, rfl⟩
                  go_wp2_with fail
                  refine (cC _).mono ?_
                  rintro e w' ⟨rfl, rfl⟩
                  go_wp2_with fail
                  refine CT2.out.mono ?_
                  rintro e w4 ⟨⟨K, S, M, Z, rfl, _⟩, hb4⟩
                  have hbz := HBR.out.trans (hb4.mono HBR.out.size)
                  obtain ⟨⟨q0, q1, q2, q3⟩, f0, f1, f2, f3⟩ := (Rc.newc w4 #[.int .i64 K, .string S, .int .i64 M, .int .i64 0]).cells
                  have HRC := Lib.hid (Rc.newc w4 #[.int .i64 K, .string S, .int .i64 M, .int .i64 0])
                  have HBZ := Lib.hid hbz
                  have hszz := hbz.size
                  clear hbz hb4
                  go_wp2
                  go_ret3
                  refine lexp_no ?_ (HBZ.out.alloc hszz _)
                  rw [lexR_bad HOK.out (by rw [HLD.out]; exact HBAD.out), HP.out]
                | some tn =>
                  obtain ⟨t, m⟩ := tn
                  have hm := tokT_some htok
                  rw [List.length_drop, HN.out] at hm
                  have HNEXT := Lib.hid (rel_next0 HREL.out HNE.out HB0.out htok)
                  have ct := token_ref (.slice (some ad) n c) L w2.heap.size i _ wr (HSL.out.below HBR2.out) HBR2.out.size hoL (by have := HN.out; omega) HR.out HOP.out
                  rw [htok] at ct
                  have CT2 := Lib.hid ct
                  clear htok ct
                  go_wp2_with fail
                  refine (HT.out _ HBR.out rfl).mono ?_
                  rintro e w' ⟨rfl, rfl⟩
                  go_wp2_with fail
                  refine (cC _).mono ?_
                  rintro e w' ⟨rfl, rfl⟩
                  go_wp2_with fail
                  refine CT2.out.mono ?_
                  rintro e w4 ⟨⟨K, S, M, Z, rfl, hv⟩, hb4⟩
                  obtain ⟨rfl, rfl, rfl, rfl⟩ := hv t m rfl
                  clear hv
                  obtain ⟨K, hK⟩ : ∃ K, t.k = K := ⟨_, rfl⟩
                  obtain ⟨X, hX⟩ : ∃ X, T t.x = X := ⟨_, rfl⟩
                  obtain ⟨M, hM⟩ : ∃ M, t.n = M := ⟨_, rfl⟩
                  rw [hK, hX, hM]
                  have HTC : Hid (tcl (t, sz (L.take i)) = [.int .i64 K, .string X, .int .i64 M, .int .i64 (Q.size : Int)]) := Lib.hid (by unfold tcl; rw [hK, hX, hM]; rw [HP.out])
                  have hbz := HBR.out.trans (hb4.mono HBR.out.size)
                  have hbz2 := HBR2.out.trans (hb4.mono HBR2.out.size)
                  obtain ⟨⟨q0, q1, q2, q3⟩, f0, f1, f2, f3⟩ := (Rc.newc w4 #[.int .i64 K, .string X, .int .i64 M, .int .i64 0]).cells
                  have HRC := Lib.hid (Rc.newc w4 #[.int .i64 K, .string X, .int .i64 M, .int .i64 0])
                  have HBZ := Lib.hid hbz
                  have HBZ2 := Lib.hid hbz2
                  have hszz := hbz.size
                  have HOWN4 := Lib.hid (own_below HOWN.out hb4)
                  clear hbz hbz2 hb4 hK hX hM
                  have hszz2 := HBZ2.out.size
                  go_wp2_with (at_builtin; (refine wpList_append_own _ rfl _ _ 22 rfl w2.heap.size 63 i0 (.agg #[.int .i64 0, .string ⟨#[]⟩, .int .i64 0, .int .i64 0]) 4 40 Tryz.underlying22 hi hz0 hz1 hz2 rfl (by decide) _ _ _ rfl ((HOWN4.out.alloc _).alloc _) ⟨w4.heap.size + 1, 0, none⟩ 1 1 [.int .i64 K, .string X, .int .i64 M, .int .i64 (Q.size : Int)] rfl rfl (cell_four_new _ _ _ _ _ _ _) (one_four rfl rfl rfl rfl) (by unfold maxLen; omega) (by omega) (by simp; omega) ?_); intro v' w5 hown5 hgrow5 _)
                  have hbel := ((HBZ.out.alloc hszz _).alloc (by simp; omega) _).grown hgrow5 (by simp; omega) (fun g hg => Nat.le_trans hle2 (HOWN4.out.lt g hg).1)
                  have hbel2 := ((HBZ2.out.alloc HBZ2.out.size _).alloc (by have := HBZ2.out.size; simp; omega) _).grown hgrow5 (by have := HBZ2.out.size; simp; omega) (fun g hg => (HOWN4.out.lt g hg).1)
                  have HBEL := Lib.hid hbel
                  have HBEL2 := Lib.hid hbel2
                  have HOWN5 := Lib.hid hown5
                  clear hbel hbel2 hown5 hgrow5
                  go_roundw
                  case rel =>
                    refine ⟨i + m, out ++ [(t, Q.size)], by go_num, by omega, by rw [List.length_append, List.length_singleton]; omega, ?_, HBEL.out, HBEL2.out, by have := HNEXT.out; rw [List.drop_drop, ← sz_next, HP.out] at this; exact this⟩
                    have e : tcel (out ++ [(t, Q.size)]) = tcel out ++ [.int .i64 K, .string X, .int .i64 M, .int .i64 (Q.size : Int)] := by
                      rw [tcel_app]
                      show tcel out ++ (tcl _ ++ []) = _
                      have h := HTC.out
                      rw [HP.out] at h
                      rw [List.append_nil, h]
                    rw [e, List.length_append, List.length_singleton]
                    exact HOWN5.out
                  case measure => simp [intOf]; omega
              · have hr40z : ((r : Int) == 40) = false := by rw [beq_eq_false_iff_ne]; omega
                clear hop hq hnot
                cases htok : tokT (L.drop i) with
                | none =>
                  have HBAD := Lib.hid (rel_bad0 HREL.out HNE.out HB0.out htok)
                  have CT := Lib.hid (token_ref (.slice (some ad) n c) L w2.heap.size i _ wr (HSL.out.below HBR2.out) HBR2.out.size hoL (by have := HN.out; omega) HR.out HOP.out)
                  have ct := CT.out
                  rw [htok] at ct
                  have CT2 := Lib.hid ct
                  clear htok ct CT
                  go_wp2_with fail
                  refine (HT.out _ HBR.out rfl).mono ?_
                  rintro e w' ⟨rfl, rfl⟩
                  go_wp2_with fail
                  refine (cC _).mono ?_
                  rintro e w' ⟨rfl, rfl⟩
                  go_wp2_with fail
                  refine CT2.out.mono ?_
                  rintro e w4 ⟨⟨K, S, M, Z, rfl, _⟩, hb4⟩
                  have hbz := HBR.out.trans (hb4.mono HBR.out.size)
                  obtain ⟨⟨q0, q1, q2, q3⟩, f0, f1, f2, f3⟩ := (Rc.newc w4 #[.int .i64 K, .string S, .int .i64 M, .int .i64 0]).cells
                  have HRC := Lib.hid (Rc.newc w4 #[.int .i64 K, .string S, .int .i64 M, .int .i64 0])
                  have HBZ := Lib.hid hbz
                  have hszz := hbz.size
                  clear hbz hb4
                  go_wp2
                  go_ret3
                  refine lexp_no ?_ (HBZ.out.alloc hszz _)
                  rw [lexR_bad HOK.out (by rw [HLD.out]; exact HBAD.out), HP.out]
                | some tn =>
                  obtain ⟨t, m⟩ := tn
                  have hm := tokT_some htok
                  rw [List.length_drop, HN.out] at hm
                  have HNEXT := Lib.hid (rel_next0 HREL.out HNE.out HB0.out htok)
                  have ct := token_ref (.slice (some ad) n c) L w2.heap.size i _ wr (HSL.out.below HBR2.out) HBR2.out.size hoL (by have := HN.out; omega) HR.out HOP.out
                  rw [htok] at ct
                  have CT2 := Lib.hid ct
                  clear htok ct
                  go_wp2_with fail
                  refine (HT.out _ HBR.out rfl).mono ?_
                  rintro e w' ⟨rfl, rfl⟩
                  go_wp2_with fail
                  refine (cC _).mono ?_
                  rintro e w' ⟨rfl, rfl⟩
                  go_wp2_with fail
                  refine CT2.out.mono ?_
                  rintro e w4 ⟨⟨K, S, M, Z, rfl, hv⟩, hb4⟩
                  obtain ⟨rfl, rfl, rfl, rfl⟩ := hv t m rfl
                  clear hv
                  obtain ⟨K, hK⟩ : ∃ K, t.k = K := ⟨_, rfl⟩
                  obtain ⟨X, hX⟩ : ∃ X, T t.x = X := ⟨_, rfl⟩
                  obtain ⟨M, hM⟩ : ∃ M, t.n = M := ⟨_, rfl⟩
                  rw [hK, hX, hM]
                  have HTC : Hid (tcl (t, sz (L.take i)) = [.int .i64 K, .string X, .int .i64 M, .int .i64 (Q.size : Int)]) := Lib.hid (by unfold tcl; rw [hK, hX, hM]; rw [HP.out])
                  have hbz := HBR.out.trans (hb4.mono HBR.out.size)
                  have hbz2 := HBR2.out.trans (hb4.mono HBR2.out.size)
                  obtain ⟨⟨q0, q1, q2, q3⟩, f0, f1, f2, f3⟩ := (Rc.newc w4 #[.int .i64 K, .string X, .int .i64 M, .int .i64 0]).cells
                  have HRC := Lib.hid (Rc.newc w4 #[.int .i64 K, .string X, .int .i64 M, .int .i64 0])
                  have HBZ := Lib.hid hbz
                  have HBZ2 := Lib.hid hbz2
                  have hszz := hbz.size
                  have HOWN4 := Lib.hid (own_below HOWN.out hb4)
                  clear hbz hbz2 hb4 hK hX hM
                  have hszz2 := HBZ2.out.size
                  go_wp2_with (at_builtin; (refine wpList_append_own _ rfl _ _ 22 rfl w2.heap.size 63 i0 (.agg #[.int .i64 0, .string ⟨#[]⟩, .int .i64 0, .int .i64 0]) 4 40 Tryz.underlying22 hi hz0 hz1 hz2 rfl (by decide) _ _ _ rfl ((HOWN4.out.alloc _).alloc _) ⟨w4.heap.size + 1, 0, none⟩ 1 1 [.int .i64 K, .string X, .int .i64 M, .int .i64 (Q.size : Int)] rfl rfl (cell_four_new _ _ _ _ _ _ _) (one_four rfl rfl rfl rfl) (by unfold maxLen; omega) (by omega) (by simp; omega) ?_); intro v' w5 hown5 hgrow5 _)
                  have hbel := ((HBZ.out.alloc hszz _).alloc (by simp; omega) _).grown hgrow5 (by simp; omega) (fun g hg => Nat.le_trans hle2 (HOWN4.out.lt g hg).1)
                  have hbel2 := ((HBZ2.out.alloc HBZ2.out.size _).alloc (by have := HBZ2.out.size; simp; omega) _).grown hgrow5 (by have := HBZ2.out.size; simp; omega) (fun g hg => (HOWN4.out.lt g hg).1)
                  have HBEL := Lib.hid hbel
                  have HBEL2 := Lib.hid hbel2
                  have HOWN5 := Lib.hid hown5
                  clear hbel hbel2 hown5 hgrow5
                  go_roundw
                  case rel =>
                    refine ⟨i + m, out ++ [(t, Q.size)], by go_num, by omega, by rw [List.length_append, List.length_singleton]; omega, ?_, HBEL.out, HBEL2.out, by have := HNEXT.out; rw [List.drop_drop, ← sz_next, HP.out] at this; exact this⟩
                    have e : tcel (out ++ [(t, Q.size)]) = tcel out ++ [.int .i64 K, .string X, .int .i64 M, .int .i64 (Q.size : Int)] := by
                      rw [tcel_app]
                      show tcel out ++ (tcl _ ++ []) = _
                      have h := HTC.out
                      rw [HP.out] at h
                      rw [List.append_nil, h]
                    rw [e, List.length_append, List.length_singleton]
                    exact HOWN5.out
                  case measure => simp [intOf]; omega
            · have h1z : ¬ (i : Int) + 1 < (n : Int) := by omega
              clear hop
              cases htok : tokT (L.drop i) with
              | none =>
                have HBAD := Lib.hid (rel_bad0 HREL.out HNE.out HB0.out htok)
                have CT := Lib.hid (token_ref (.slice (some ad) n c) L w2.heap.size i _ wr (HSL.out.below HBR2.out) HBR2.out.size hoL (by have := HN.out; omega) HR.out HOP.out)
                have ct := CT.out
                rw [htok] at ct
                have CT2 := Lib.hid ct
                clear htok ct CT
                go_wp2_with fail
                refine (HT.out _ HBR.out rfl).mono ?_
                rintro e w' ⟨rfl, rfl⟩
                go_wp2_with fail
                refine (cC _).mono ?_
                rintro e w' ⟨rfl, rfl⟩
                go_wp2_with fail
                refine CT2.out.mono ?_
                rintro e w4 ⟨⟨K, S, M, Z, rfl, _⟩, hb4⟩
                have hbz := HBR.out.trans (hb4.mono HBR.out.size)
                obtain ⟨⟨q0, q1, q2, q3⟩, f0, f1, f2, f3⟩ := (Rc.newc w4 #[.int .i64 K, .string S, .int .i64 M, .int .i64 0]).cells
                have HRC := Lib.hid (Rc.newc w4 #[.int .i64 K, .string S, .int .i64 M, .int .i64 0])
                have HBZ := Lib.hid hbz
                have hszz := hbz.size
                clear hbz hb4
                go_wp2
                go_ret3
                refine lexp_no ?_ (HBZ.out.alloc hszz _)
                rw [lexR_bad HOK.out (by rw [HLD.out]; exact HBAD.out), HP.out]
              | some tn =>
                obtain ⟨t, m⟩ := tn
                have hm := tokT_some htok
                rw [List.length_drop, HN.out] at hm
                have HNEXT := Lib.hid (rel_next0 HREL.out HNE.out HB0.out htok)
                have ct := token_ref (.slice (some ad) n c) L w2.heap.size i _ wr (HSL.out.below HBR2.out) HBR2.out.size hoL (by have := HN.out; omega) HR.out HOP.out
                rw [htok] at ct
                have CT2 := Lib.hid ct
                clear htok ct
                go_wp2_with fail
                refine (HT.out _ HBR.out rfl).mono ?_
                rintro e w' ⟨rfl, rfl⟩
                go_wp2_with fail
                refine (cC _).mono ?_
                rintro e w' ⟨rfl, rfl⟩
                go_wp2_with fail
                refine CT2.out.mono ?_
                rintro e w4 ⟨⟨K, S, M, Z, rfl, hv⟩, hb4⟩
                obtain ⟨rfl, rfl, rfl, rfl⟩ := hv t m rfl
                clear hv
                obtain ⟨K, hK⟩ : ∃ K, t.k = K := ⟨_, rfl⟩
                obtain ⟨X, hX⟩ : ∃ X, T t.x = X := ⟨_, rfl⟩
                obtain ⟨M, hM⟩ : ∃ M, t.n = M := ⟨_, rfl⟩
                rw [hK, hX, hM]
                have HTC : Hid (tcl (t, sz (L.take i)) = [.int .i64 K, .string X, .int .i64 M, .int .i64 (Q.size : Int)]) := Lib.hid (by unfold tcl; rw [hK, hX, hM]; rw [HP.out])
                have hbz := HBR.out.trans (hb4.mono HBR.out.size)
                have hbz2 := HBR2.out.trans (hb4.mono HBR2.out.size)
                obtain ⟨⟨q0, q1, q2, q3⟩, f0, f1, f2, f3⟩ := (Rc.newc w4 #[.int .i64 K, .string X, .int .i64 M, .int .i64 0]).cells
                have HRC := Lib.hid (Rc.newc w4 #[.int .i64 K, .string X, .int .i64 M, .int .i64 0])
                have HBZ := Lib.hid hbz
                have HBZ2 := Lib.hid hbz2
                have hszz := hbz.size
                have HOWN4 := Lib.hid (own_below HOWN.out hb4)
                clear hbz hbz2 hb4 hK hX hM
                have hszz2 := HBZ2.out.size
                go_wp2_with (at_builtin; (refine wpList_append_own _ rfl _ _ 22 rfl w2.heap.size 63 i0 (.agg #[.int .i64 0, .string ⟨#[]⟩, .int .i64 0, .int .i64 0]) 4 40 Tryz.underlying22 hi hz0 hz1 hz2 rfl (by decide) _ _ _ rfl ((HOWN4.out.alloc _).alloc _) ⟨w4.heap.size + 1, 0, none⟩ 1 1 [.int .i64 K, .string X, .int .i64 M, .int .i64 (Q.size : Int)] rfl rfl (cell_four_new _ _ _ _ _ _ _) (one_four rfl rfl rfl rfl) (by unfold maxLen; omega) (by omega) (by simp; omega) ?_); intro v' w5 hown5 hgrow5 _)
                have hbel := ((HBZ.out.alloc hszz _).alloc (by simp; omega) _).grown hgrow5 (by simp; omega) (fun g hg => Nat.le_trans hle2 (HOWN4.out.lt g hg).1)
                have hbel2 := ((HBZ2.out.alloc HBZ2.out.size _).alloc (by have := HBZ2.out.size; simp; omega) _).grown hgrow5 (by have := HBZ2.out.size; simp; omega) (fun g hg => (HOWN4.out.lt g hg).1)
                have HBEL := Lib.hid hbel
                have HBEL2 := Lib.hid hbel2
                have HOWN5 := Lib.hid hown5
                clear hbel hbel2 hown5 hgrow5
                go_roundw
                case rel =>
                  refine ⟨i + m, out ++ [(t, Q.size)], by go_num, by omega, by rw [List.length_append, List.length_singleton]; omega, ?_, HBEL.out, HBEL2.out, by have := HNEXT.out; rw [List.drop_drop, ← sz_next, HP.out] at this; exact this⟩
                  have e : tcel (out ++ [(t, Q.size)]) = tcel out ++ [.int .i64 K, .string X, .int .i64 M, .int .i64 (Q.size : Int)] := by
                    rw [tcel_app]
                    show tcel out ++ (tcl _ ++ []) = _
                    have h := HTC.out
                    rw [HP.out] at h
                    rw [List.append_nil, h]
                  rw [e, List.length_append, List.length_singleton]
                  exact HOWN5.out
                case measure => simp [intOf]; omega
          · have HOP := Lib.hid hop
            obtain ⟨u, hu⟩ := opens_is hop
            have hr40 : r = 40 := by rw [HD.out] at hu; injection hu
            have hu2 : L.drop (i + 1) = 42 :: u := by rw [HD.out] at hu; injection hu
            have hq : L[i + 1]? = some 42 := by
              have : (L.drop (i + 1))[0]? = some 42 := by rw [hu2]; rfl
              rw [List.getElem?_drop] at this
              simpa using this
            have h1n : i + 1 < n := by rw [← HN.out]; exact (List.getElem?_eq_some_iff.1 hq).1
            obtain ⟨ad2, hA2, hc2⟩ := cell_of (HSL.out.below HBR2.out) (by exact hq)
            injection hA2 with hA2
            subst hA2
            have hc3 := cell_succ hc2
            have h1z : (i : Int) + 1 < (n : Int) := by omega
            subst hr40
            have cM := comment_ref (.slice (some ad) n c) L w2.heap.size i wr (HSL.out.below HBR2.out) (by have := HN.out; omega) (by rw [HN.out]; exact hile) hop
            unfold cmAt at cM
            clear hu hu2 hq
            cases hcm : cm 0 32 (L.drop i) with
            | none =>
              rw [hcm] at cM
              have HBAD := Lib.hid (rel_bad0 HREL.out HNE.out (cm_bad hcm hop).1 (cm_bad hcm hop).2)
              have CM := Lib.hid cM
              clear hcm hop cM
              go_wp2_with fail
              refine (HT.out _ HBR.out rfl).mono ?_
              rintro e w' ⟨rfl, rfl⟩
              go_wp2_with fail
              refine (cC _).mono ?_
              rintro e w' ⟨rfl, rfl⟩
              go_wp2_with fail
              refine CM.out.mono ?_
              rintro e w' ⟨rfl, rfl⟩
              go_wp2
              go_ret3
              refine lexp_no ?_ HBR.out
              rw [lexR_bad HOK.out (by rw [HLD.out]; exact HBAD.out), HP.out]
            | some k =>
              rw [hcm] at cM
              have hk := cm_some hcm
              rw [List.length_drop, HN.out] at hk
              have HB1 := Lib.hid (btw_cm hcm hop)
              have HNX := Lib.hid (rel_skip HREL.out HB1.out)
              have hik : (((i + k : Nat) : Int) == 0) = false := by rw [beq_eq_false_iff_ne]; omega
              have cM2 : Calls Tryz.prog 63 #[.slice (some ad) n c, .int .i64 (i : Int)] wr (IntSame (i + k) wr) := cM
              obtain ⟨j, hj⟩ : ∃ j, i + k = j := ⟨_, rfl⟩
              rw [hj] at hik cM2
              have CM := Lib.hid cM2
              clear hcm hop cM cM2
              go_wp2_with fail
              refine (HT.out _ HBR.out rfl).mono ?_
              rintro e w' ⟨rfl, rfl⟩
              go_wp2_with fail
              refine (cC _).mono ?_
              rintro e w' ⟨rfl, rfl⟩
              go_wp2_with fail
              refine CM.out.mono ?_
              rintro e w' ⟨rfl, rfl⟩
              go_wp2_with fail
              go_roundw
              case rel => exact ⟨j, out, rfl, by omega, by omega, HOWN.out, HBR.out, HBR2.out, by have := HNX.out; rw [List.drop_drop, ← sz_next, hj] at this; exact this⟩
              case measure => simp [intOf]; omega
      · have hzl : ¬ (i : Int) < (n : Int) := by omega
        have HEND : Hid (lexL L 0 = .inl out) := Lib.hid (by
          have := HREL.out
          rw [List.drop_eq_nil_of_le (by rw [HN.out]; omega)] at this
          exact rel_end0 this)
        go_wp2
        go_ret3
        exact lexp_ok (lexR_ok HOK.out (by rw [HLD.out]; exact HEND.out)) HOWN.out HBR.out
  · obtain ⟨x, y, hxy⟩ : ∃ x y, ckr s = (x, y) := ⟨_, _, rfl⟩
    rw [hxy] at cK hok
    have hy : (y == 0) = false := by rw [beq_eq_false_iff_ne]; exact hok
    have hy2 : (y != 0) = true := by rw [bne, hy]; rfl
    have HXY := Lib.hid hxy
    have HOK := Lib.hid hok
    clear hxy hok
    go_enter Tryz.func29, Tryz.ntmps29
    go_wp2_with fail
    refine cK.mono ?_
    rintro e w1 ⟨rfl, hb1⟩
    go_wp2
    go_ret3
    exact lexp_no (lexR_ck HXY.out HOK.out) hb1
end Go.Proofs.YthonaeigacfmbaaGreatDoor.B
namespace Go.Proofs.YthonaeigacfmbaaGreatDoor.B
open Go.Lib

theorem spl_noD {l : List Nat} (h : 46 ∉ l) : spl l = [l] := by
  induction l with
  | nil => rfl
  | cons r t ih =>
    have h1 : ¬ r = 46 := fun e => h (by rw [e]; exact List.mem_cons_self ..)
    have h2 : 46 ∉ t := fun e => h (List.mem_cons_of_mem _ e)
    unfold spl
    rw [if_neg h1, ih h2]
theorem spl_atD {a r : List Nat} (h : 46 ∉ a) : spl (a ++ 46 :: r) = a :: spl r := by
  induction a with
  | nil =>
    show spl (46 :: r) = _
    conv => lhs; unfold spl
    rw [if_pos rfl]
  | cons x t ih =>
    have h1 : ¬ x = 46 := fun e => h (by rw [e]; exact List.mem_cons_self ..)
    have h2 : 46 ∉ t := fun e => h (List.mem_cons_of_mem _ e)
    show spl (x :: (t ++ 46 :: r)) = _
    conv => lhs; unfold spl
    rw [if_neg h1, ih h2]
theorem lng_46 : lng 46 = true := by decide
theorem lng_mst {r : Nat} {b : Bool} (h : mst (r : Int) b = true) : lng r = true := by
  unfold mst at h
  unfold lng inr
  rw [Bool.or_eq_true] at h
  rw [Bool.or_eq_true, decide_eq_true_iff]
  left
  rcases h with h | h
  · exact .inl (of_decide_eq_true h)
  · rw [Bool.and_eq_true] at h
    rcases of_decide_eq_true h.1 with h | h
    · exact .inr (.inl h)
    · exact .inr (.inr (by omega))
theorem cnt_allW {f : Nat → Bool} : ∀ {l : List Nat}, (∀ r ∈ l, f r = true) → cnt f l = l.length
  | [], _ => rfl
  | r :: t, h => by
    unfold cnt
    rw [if_pos (h r (List.mem_cons_self ..)), cnt_allW fun x hx => h x (List.mem_cons_of_mem _ hx)]
    rfl
structure Lr (l : List UInt8) (x : List Nat) : Prop where
  en : enc x = l
  ok : okl x
  ln : ∀ r ∈ x, lng r = true
  fi : ∃ r t, x = r :: t ∧ cls (r : Int) = 1
  pi : (spl x).all (fun y => !wrd (T y) && nm (T y)) = true
  wo : (46 : UInt8) ∉ l → wrd (T x) = false
theorem one_Lr {l : List UInt8} (h : nck (tx l) = true) : ∃ x, Lr l x := by
  obtain ⟨hn, hw⟩ := nck_nm h
  obtain ⟨h1, h2, h3, h4⟩ := nck_runes hn
  have he : enc (rns (tx l) 0) = l := by
    have := congrArg (fun s => s.data.toList) h3
    rw [T_list] at this
    exact this
  have hd : 46 ∉ rns (tx l) 0 := fun hm => by
    obtain ⟨b, hb⟩ := nmL_all h4 46 hm
    have e : mst ((46 : Nat) : Int) b = false := mst_46 b
    rw [e] at hb
    cases hb
  refine ⟨rns (tx l) 0, he, h2, fun r hr => ?_, ?_, ?_, fun _ => by rw [h3]; exact hw⟩
  · obtain ⟨b, hb⟩ := nmL_all h4 r hr
    exact lng_mst hb
  · cases hx : rns (tx l) 0 with
    | nil => rw [hx] at h3; rw [← h3] at h1; simp [T, enc, ByteArray.size] at h1
    | cons r t =>
      refine ⟨r, t, rfl, ?_⟩
      rw [hx] at h4
      unfold nmL at h4
      rw [Bool.and_eq_true] at h4
      have h5 := h4.1
      unfold mst at h5
      simpa using h5
  · rw [spl_noD hd, List.all_cons, List.all_nil, h3, hw, hn]
    rfl
theorem all_Lr : ∀ (l : List UInt8), ((pcl l).map tx).all nck = true → ∃ x, Lr l x := by
  refine by_pieces _ (fun l h46 h => ?_) (fun a r ha ih h => ?_)
  · rw [pcl_none h46] at h
    simp only [List.map_cons, List.map_nil, List.all_cons, List.all_nil, Bool.and_true] at h
    exact one_Lr h
  · rw [pcl_at ha] at h
    simp only [List.map_cons, List.all_cons, Bool.and_eq_true] at h
    obtain ⟨x, hx⟩ := one_Lr h.1
    obtain ⟨y, hy⟩ := ih h.2
    have hd : 46 ∉ x := fun hm => by
      have := hx.pi
      have hwo := hx.wo ha
      have hm2 : (46 : UInt8) ∈ enc x := by
        obtain ⟨p, q, e⟩ := List.append_of_mem hm
        rw [e, enc_app]
        refine List.mem_append_right _ ?_
        show (46 : UInt8) ∈ enc (46 :: q)
        have e1 : enc (46 :: q) = enc [46] ++ enc q := enc_app [46] q
        rw [e1]
        exact List.mem_append_left _ (by decide)
      rw [hx.en] at hm2
      exact ha hm2
    have o46 : okl [46] := ok_ascii fun r hr => by rw [List.mem_singleton.1 hr]; omega
    refine ⟨x ++ 46 :: y, ?_, ?_, ?_, ?_, ?_, fun h46 => absurd (List.mem_append_right a (List.mem_cons_self ..)) h46⟩
    · have e1 : enc (46 :: y) = enc [46] ++ enc y := enc_app [46] y
      rw [enc_app, hx.en, e1, hy.en]
      rfl
    · exact okl_app.2 ⟨hx.ok, okl_app (a := [46]).2 ⟨o46, hy.ok⟩⟩
    · intro r hr
      rcases List.mem_append.1 hr with hr | hr
      · exact hx.ln r hr
      · rcases List.mem_cons.1 hr with rfl | hr
        · exact lng_46
        · exact hy.ln r hr
    · obtain ⟨r, t, e, hc⟩ := hx.fi
      exact ⟨r, t ++ 46 :: y, by rw [e]; rfl, hc⟩
    · rw [spl_atD hd, List.all_cons, hy.pi, Bool.and_true]
      have := hx.pi
      rw [spl_noD hd, List.all_cons, List.all_nil, Bool.and_true] at this
      exact this
theorem words_dot : ∀ x ∈ WORDS, 46 ∉ x := by decide
theorem words_ok : ∀ x ∈ WORDS, ∀ r ∈ x, r < 128 := by decide
theorem lng_rdb {r : Nat} (h : lng r = true) : rdb (r : Int) = true := by
  refine rdb_is _ _ ⟨fun _ => ?_, fun _ => rfl⟩
  unfold lng inr at h
  rw [Bool.or_eq_true] at h
  rcases h with h | h
  · have h := of_decide_eq_true h
    unfold cls at h
    omega
  · have h := of_decide_eq_true h
    omega
theorem long_tok {s : ByteArray} (h : long s = true) : ∃ x, T x = s ∧ okl x ∧ tokT x = some (⟨1, x, 0⟩, x.length) ∧ ∀ r ∈ x, rdb (r : Int) = true := by
  obtain ⟨h1, h2⟩ := long_is.1 h
  obtain ⟨x, hx⟩ := all_Lr s.data.toList h2
  have hT : T x = s := ba_ext (by rw [T_list, hx.en])
  have hc := cnt_allW hx.ln
  have hw : wrd (T x) = false := by
    by_cases h46 : (46 : UInt8) ∈ s.data.toList
    · cases hq : wrd (T x) with
      | false => rfl
      | true =>
        unfold wrd at hq
        obtain ⟨y, hy, he⟩ := List.any_eq_true.1 hq
        have he := of_decide_eq_true he
        have oy : okl y := ok_ascii fun r hr => words_ok y hy r hr
        have := T_inj hx.ok oy he
        rw [← hx.en, this] at h46
        exfalso
        have hm : 46 ∈ y := mem_enc (c := 46) oy (by omega) h46
        exact words_dot y hy hm
    · exact hx.wo h46
  have hl : isLong x = true := by
    unfold isLong
    rw [hx.pi, Bool.and_true, decide_eq_true_iff]
    have : sz x = s.size := by rw [← hT]; rfl
    omega
  refine ⟨x, hT, hx.ok, ?_, fun r hr => lng_rdb (hx.ln r hr)⟩
  obtain ⟨r, t, e, hcl⟩ := hx.fi
  have e2 : tokT x = nameT x := by
    rw [e]
    show (if cls r = 1 then nameT (r :: t) else _) = _
    rw [if_pos hcl]
  rw [e2]
  unfold nameT
  rw [hc, List.take_length, hw, hl]
  rfl
def TKEYS : List (List Nat) := [[105, 110, 116], [98, 111, 111, 108], [117, 110, 105, 116], [40], [41], [109, 117], [123], [125], [111, 102], [124], [45, 62], [42]]
theorem keys_tok : ∀ x ∈ TKEYS, tokT x = some (⟨3, x, 0⟩, x.length) := by decide
end Go.Proofs.YthonaeigacfmbaaGreatDoor.B
