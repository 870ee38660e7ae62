/-
  Layer 12, the program's side: the parts of a node; the kind of a sum.
-/
import Derived.Test.YtmiicfdigkkbdaaDoorGt35
namespace Go.Proofs.YtmiicfdigkkbdaaDoor
open Go.RowKit

theorem InF.mid {w : World} {S : Nat → Prop} {y : Nod} {l r : Fr} : ∀ (done : Fr) {b o : Nat}, InF w S (done.app (.cons y l r)) b o → ∃ u, w.cell? ⟨b, o + done.len, none⟩ = some u ∧ InT w S u (y, l)
  | .nil, b, o, h => by obtain ⟨⟨v, h1, h2⟩, _⟩ := h; exact ⟨v, h1, h2⟩
  | .cons x k s, b, o, h => by
    have h1 := h.2
    obtain ⟨u, g1, g2⟩ := InF.mid s h1
    exact ⟨u, by rw [show o + (Fr.cons x k s).len = o + 1 + s.len by simp only [Fr.len]; omega]; exact g1, g2⟩
theorem Kid.mid {w : World} {S : Nat → Prop} {A : Option Addr} {done : Fr} {y : Nod} {l r : Fr} (h : Kid w S A (done.app (.cons y l r)) 0) : ∃ kb ko u, A = some ⟨kb, ko, none⟩ ∧ S kb ∧ w.cell? ⟨kb, ko + done.len, none⟩ = some u ∧ InT w S u (y, l) := by
  obtain ⟨kb, ko, hA, h1, h2⟩ := h (by rw [Fr.len_app]; simp only [Fr.len]; omega)
  obtain ⟨u, g1, g2⟩ := InF.mid done h2
  exact ⟨kb, ko, u, hA, h1, g1, g2⟩
theorem ApF.mid {c : List Tr} {y : Nod} {l r : Fr} : ∀ (done : Fr), ApF c (done.app (.cons y l r)) → ApT c (y, l)
  | .nil, h => ⟨h.1, h.2.1⟩
  | .cons _ _ s, h => ApF.mid s h.2.2
theorem sz_mid {done : Fr} {y : Nod} {l r : Fr} : szT (y, l) ≤ (done.app (.cons y l r)).sz := by
  rw [Fr.sz_app]
  show 1 + l.sz ≤ done.sz + (1 + l.sz + r.sz)
  omega
theorem pts_of {n : Nat} {w : World} {Sq : Nat → Prop} {es : Array MapEntry} {c : List Tr} {q p : Nat} {x : Nod} {ks : Fr} {A : Option Addr} {N cc : Nat} (h : Pl w Sq es c (.pointer (some ⟨q, p, none⟩)) (x, ks)) (c4 : w.cell? ⟨q, p + 4, none⟩ = some (.slice A N cc)) (hk : Kid w Sq A ks 0) (hn : szT (x, ks) ≤ n + 1)
    {done : Fr} {y : Nod} {l r : Fr} (he : ks = done.app (.cons y l r)) (hf : Fm (y, l)) : ∃ kb ko u, A = some ⟨kb, ko, none⟩ ∧ Sq kb ∧ w.cell? ⟨kb, ko + done.len, none⟩ = some u ∧ szT (y, l) ≤ n ∧ Pl w Sq es (ctxK c x ks) u (y, l) := by
  subst he
  obtain ⟨kb, ko, u, hA, hkb, h1, h2⟩ := hk.mid
  have h3 := sz_mid (done := done) (y := y) (l := l) (r := r)
  have h4 : szT (x, done.app (.cons y l r)) = 1 + (done.app (.cons y l r)).sz := rfl
  exact ⟨kb, ko, u, hA, hkb, h1, by omega, ⟨h2, h.cov.kid c4 hA h1, hf, ApF.mid done h.ap.2⟩⟩
theorem fm_mid {m : Nat} (hm : m ≠ 1) {done : Fr} {y : Nod} {l r : Fr} (h : coF m (done.app (.cons y l r)) = true) : Fm (y, l) := by
  rw [coF_app hm, Bool.and_eq_true] at h
  have h := h.2
  by_cases h0 : m = 0
  · subst h0
    rw [coF_0, Bool.and_eq_true] at h
    exact .inl h.1
  · rw [coF_f h0 hm, Bool.and_eq_true] at h
    exact .inr ⟨m, h.1⟩
theorem pts_all {n m : Nat} (hm : m ≠ 1) {w : World} {Sq : Nat → Prop} {es : Array MapEntry} {c : List Tr} {q p : Nat} {x : Nod} {ks : Fr} {A : Option Addr} {N cc : Nat} (h : Pl w Sq es c (.pointer (some ⟨q, p, none⟩)) (x, ks)) (c4 : w.cell? ⟨q, p + 4, none⟩ = some (.slice A N cc)) (hk : Kid w Sq A ks 0) (hn : szT (x, ks) ≤ n + 1) (hc : coF m ks = true) : Pts n w Sq es (ctxK c x ks) A ks := by
  intro done y l r he
  obtain ⟨kb, ko, u, h1, _, h2, h3, h4⟩ := pts_of h c4 hk hn he (fm_mid hm (by rw [← he]; exact hc))
  exact ⟨kb, ko, u, h1, h2, h3, h4⟩
theorem Pts.up {n : Nat} {W w : World} {Sq : Nat → Prop} {es : Array MapEntry} {c : List Tr} {A : Option Addr} {f : Fr} (h : Pts n W Sq es c A f) (hS : Bel Sq W.heap.size) (u : Up W w) : Pts n w Sq es c A f := by
  intro done y l r he
  obtain ⟨kb, ko, v, h1, h2, h3, h4⟩ := h done y l r he
  exact ⟨kb, ko, v, h1, u.cell h2, h3, h4.up hS u⟩
theorem pts_one {n : Nat} {w : World} {Sq : Nat → Prop} {es : Array MapEntry} {c : List Tr} {b : Nat} {v : Value} {t : Tr} (hb : w.heap[b]? = some (.cells #[v] 25 (0, 0))) (hn : szT t ≤ n) (h : Pl w Sq es c v t) : Pts n w Sq es c (some ⟨b, 0, none⟩) (.cons t.1 t.2 .nil) := by
  intro done y l r he
  cases done with
  | nil =>
    injection he with e1 e2 e3
    subst e1 e2 e3
    exact ⟨b, 0, v, rfl, cell_of_row w b 0 _ _ _ hb, hn, h⟩
  | cons z zk s =>
    injection he with _ _ e3
    cases s with
    | nil => cases e3
    | cons _ _ _ => cases e3
theorem musL_one (Q : Kx) : musL [Q] = musE Q := by
  cases Q with
  | error e => rfl
  | ok t =>
    show musB (true && decide (t.1.k = 100)) [] = if t.1.k = 100 then 0 else 10
    by_cases h : t.1.k = 100
    · rw [if_pos h, decide_eq_true h]; rfl
    · rw [if_neg h, decide_eq_false h]; rfl
set_option maxRecDepth 100000 in
theorem stray_at {w : World} {Sq : Nat → Prop} {mb : Nat} {es : Array MapEntry} {q p : Nat} {x : Nod} {ks : Fr} (hm : Mp w Sq mb es) (hin : InT w Sq (.pointer (some ⟨q, p, none⟩)) (x, ks)) (hcov : CovT w (InK es) (.pointer (some ⟨q, p, none⟩)) (x, ks)) (hco : coT (x, ks) = true) (h121 : x.k = 121) :
    (Instr.lookup 52 (.map (some mb)) (.pointer (some ⟨q, p, none⟩)) true).run Tryd.prog w = .ok (.tuple #[.agg #[], .bool (loF true ks)]) w := by
  obtain ⟨ck, hr⟩ := hm.row
  obtain ⟨b, hb, hl⟩ := look_st (a := ⟨q, p, none⟩) hr hin.pln hm.kys
  have e : b = loF true ks := by
    rw [← oc_sum hco h121]
    have h1 : b = true ↔ ocF 0 true ks = true := by
      rw [hb]
      constructor
      · rintro ⟨e, he, hk⟩
        obtain ⟨y, l, h2, h3⟩ := (hm.kys e he).2
        rw [hk] at h2
        have h4 := hin.uniq h2
        injection h4 with _ h4
        rw [h4]; exact h3
      · exact hcov.1 (by unfold innK; rw [if_pos (.inr h121)])
    cases b with
    | true => exact (h1.1 rfl).symm
    | false =>
      cases h2 : ocF 0 true ks with
      | false => rfl
      | true => exact absurd (h1.2 h2) (by decide)
  rw [← e]
  exact hl
theorem stray_of {w : World} {Sq : Nat → Prop} {mb : Nat} {es : Array MapEntry} {c : List Tr} {q p : Nat} {x : Nod} {ks : Fr} (hm : Mp w Sq mb es) (h : Pl w Sq es c (.pointer (some ⟨q, p, none⟩)) (x, ks)) (hco : coT (x, ks) = true) (h121 : x.k = 121) :
    (Instr.lookup 52 (.map (some mb)) (.pointer (some ⟨q, p, none⟩)) true).run Tryd.prog w = .ok (.tuple #[.agg #[], .bool (loF true ks)]) w := stray_at hm h.inn h.cov hco h121
set_option maxHeartbeats 12800000 in
set_option maxRecDepth 100000 in
theorem pSum {n : Nat} (hk : KnAt n) (x : Nod) (ks : Fr) (hn : szT (x, ks) ≤ n + 1) (h121 : x.k = 121) (hco : coT (x, ks) = true) (hbig : n ≤ 1000000) {c : List Tr} {M : Nat} (hg : GoodC c M) {w : World} {Sq : Nat → Prop} {es : Array MapEntry} {mb : Nat} {sv v : Value} (hS : Bel Sq w.heap.size) (hm : Mp w Sq mb es) (hs : Sc w sv c) (hp : Pl w Sq es c v (x, ks)) :
    Calls Tryd.prog 50 #[.agg #[.map (some mb)], sv, v] w (KxQ (ofT true c (x, ks)) w) := by
  obtain ⟨q, p, A, cc, rfl, hq1, c0, c1, c2, c3, c4, hc, hkid⟩ := hp.inn.open
  have hctx : ctxK c x ks = starT :: c := by unfold ctxK; rw [if_neg (by omega), if_pos h121]
  have hpts := pts_all (n := n) (m := 3) (by decide) hp c4 hkid hn ((co_rows hco).2 h121)
  rw [hctx] at hpts
  have hg2 : GoodC (starT :: c) (max M 1) := goodC_cons (k := starT) hg star_kd
  obtain ⟨oa, rfl, -⟩ := hs.ptr
  have hll := Fr.len_le ks
  have hsz : szT (x, ks) = 1 + ks.sz := rfl
  have hlen : ks.len ≤ 1000000 := by omega
  have CT := Lib.hid (fun (W : World) (hu : Up w W) (sv' qv : Value) (hs' : Sc W sv' (starT :: c)) (hq : Qn W qv mb sv') => pTypes hk hg2 (cap := cc) (belU hS hu) (hm.up hS hu) hs' hq (hpts.up hS hu) hlen)
  have HLK := Lib.hid (fun (W : World) (hu : Up w W) => stray_of (hm.up hS hu) (hp.up hS hu) hco h121)
  have HR : Hid (ofT true c (x, ks) = if musL (ofF true (starT :: c) ks) = 0 then (if loF true ks = true then .error 14 else .ok starT) else okS (musL (ofF true (starT :: c) ks))) := Lib.hid (by
    rw [ofT_eq]; unfold ofX
    rw [if_neg (by omega), if_neg (by omega), if_neg (by omega), if_neg (by omega), if_neg (by omega), if_pos h121]
    by_cases h1 : musL (ofF true (starT :: c) ks) = 0
    · rw [if_pos h1, if_pos h1]
      by_cases h2 : loF true ks = true
      · rw [if_pos ⟨rfl, h2⟩, if_pos h2]
      · rw [if_neg (fun h => h2 h.2), if_neg h2]
    · rw [if_neg h1, if_neg h1])
  obtain ⟨R, hR⟩ : ∃ R, ofT true c (x, ks) = R := ⟨_, rfl⟩
  obtain ⟨MU, hMU⟩ : ∃ MU, musL (ofF true (starT :: c) ks) = MU := ⟨_, rfl⟩
  obtain ⟨LO, hLO⟩ : ∃ LO, loF true ks = LO := ⟨_, rfl⟩
  obtain ⟨N, hN⟩ : ∃ N, ks.len = N := ⟨_, rfl⟩
  rw [hR, hMU, hLO] at HR
  rw [hMU, hN] at CT
  rw [hLO] at HLK
  rw [hN] at c4 hc
  rw [hR]
  obtain ⟨H, hH⟩ : ∃ H, w.heap.size = H := ⟨_, rfl⟩
  have HSC := Lib.hid hs
  obtain ⟨W0, hW0⟩ : ∃ W0, w.alloc (.cells #[.map (some mb)] 58) = W0 := ⟨_, rfl⟩
  have u0 : Up w W0 := by rw [← hW0]; exact (Up.refl w).alloc _
  have hb0 : W0.heap[H]? = some (.cells #[.map (some mb)] 58 (0, 0)) := by rw [← hW0, ← hH]; exact heap_alloc_new w _
  have k0 : W0.cell? ⟨H, 0, none⟩ = some (.map (some mb)) := cell_of_row W0 H 0 _ _ _ hb0
  have k4 : W0.cell? ⟨q, p + 4, none⟩ = some (.slice A N cc) := u0.cell c4
  have HW0 := Lib.hid hW0
  have HH := Lib.hid hH
  have U0 := Lib.hid u0
  clear hk hn hco hg hS hm hs hp hq1 c0 c1 c2 c3 c4 hkid hpts hg2 hll hsz hlen hR hMU hLO hN hH hW0 u0 hb0 hctx h121
  go_enter Tryd.func50, Tryd.ntmps50
  go_wp2_with fail
  rw [HW0.out, HH.out]
  by_cases h0 : MU = 0
  · subst h0
    have CT := Lib.hid (fun W hu sv' qv hs' hq => (KxQ.two (CT.out W hu sv' qv hs' hq)).2 starT rfl)
    go_region_held3 (fun w' => w'.cell? ⟨H, 0, none⟩ = some (.map (some mb)) ∧ w'.cell? ⟨q, p + 4, none⟩ = some (.slice A N cc)) (first | go_keep | (refine ⟨?_, ?_⟩ <;> assumption)) (first
      | (go_at_call 51; refine Calls.mono pStar0 ?_; rintro e1 w1 ⟨b1, rfl, h1, u1⟩; have uu1 : Up W0 w1 := (Up.drew1 W0).trans u1; have n1a := uu1.cell k0; have n1b := uu1.cell k4)
      | (go_at_call 27; refine Calls.mono (pAhead (c1 := [starT]) (c2 := c) (HSC.out.up (U0.out.trans (uu1.alloc _))) (cx_one (heap_alloc_new w1 _) (h1.up ((Up.refl w1).alloc _)))) ?_; rintro e2 w2 ⟨b2, rfl, h2, u2⟩; have uu2 : Up W0 w2 := (uu1.alloc _).trans u2; have n2a := uu2.cell k0; have n2b := uu2.cell k4)
      | (go_at_call 47; refine Calls.mono (pIn mb (some ⟨b2, 0, none⟩)) ?_; rintro e3 w3 ⟨v3, rfl, h3, u3⟩; have uu3 : Up W0 w3 := uu2.trans u3; have n3a := uu3.cell k0; have n3b := uu3.cell k4)
      | (go_at_call 46; refine Calls.mono (CT.out w3 (U0.out.trans uu3) _ _ (h2.up u3) h3) ?_; rintro e4 w4 ⟨v4, rfl, h4, u4⟩; have uu4 : Up W0 w4 := uu3.trans u4; have n4a := uu4.cell k0; have n4b := uu4.cell k4))
    have hlk := HLK.out w4 (U0.out.trans uu4)
    obtain ⟨q4, p4, rfl⟩ := InT.ptr (t := starT) h4
    have H4 := Lib.hid h4
    have U4 := Lib.hid (U0.out.trans uu4)
    clear h1 u1 uu1 n1a n1b h2 u2 uu2 n2a n2b h3 u3 uu3 n3a n3b h4 u4 uu4 n4b k0 k4
    cases LO with
    | true =>
      have HX : Hid (R = .error 14) := Lib.hid (by rw [HR.out]; simp)
      go_wp2_with fail
      go_ret2
      exact kxq_err HX.out rfl (Up.trans U4.out (by repeat (first | exact Up.refl _ | refine Up.alloc ?_ _)))
    | false =>
      have HX : Hid (R = .ok starT) := Lib.hid (by rw [HR.out]; simp)
      go_wp2_with fail
      go_ret2
      exact kxq_ok HX.out (HasT.up H4.out (by repeat (first | exact Up.refl _ | refine Up.alloc ?_ _))) (Up.trans U4.out (by repeat (first | exact Up.refl _ | refine Up.alloc ?_ _)))
  · obtain ⟨z, hz⟩ : ∃ z, MU = z + 1 := ⟨MU - 1, by omega⟩
    subst hz
    have CT := Lib.hid (fun W hu sv' qv hs' hq => (KxQ.two (CT.out W hu sv' qv hs' hq)).1 z rfl)
    have HX : Hid (R = .error z) := Lib.hid (by rw [HR.out, if_neg h0]; rfl)
    obtain ⟨Z, hZ⟩ : ∃ Z : Int, ((z + 1 : Nat) : Int) = Z := ⟨_, rfl⟩
    have h9 : (Z == 0) = false := by rw [beq_eq_false_iff_ne]; omega
    have HZ := Lib.hid hZ
    rw [hZ] at CT
    clear hZ h0 HR
    go_region_held3 (fun w' => w'.cell? ⟨H, 0, none⟩ = some (.map (some mb)) ∧ w'.cell? ⟨q, p + 4, none⟩ = some (.slice A N cc)) (first | go_keep | (refine ⟨?_, ?_⟩ <;> assumption)) (first
      | (go_at_call 51; refine Calls.mono pStar0 ?_; rintro e1 w1 ⟨b1, rfl, h1, u1⟩; have uu1 : Up W0 w1 := (Up.drew1 W0).trans u1; have n1a := uu1.cell k0; have n1b := uu1.cell k4)
      | (go_at_call 27; refine Calls.mono (pAhead (c1 := [starT]) (c2 := c) (HSC.out.up (U0.out.trans (uu1.alloc _))) (cx_one (heap_alloc_new w1 _) (h1.up ((Up.refl w1).alloc _)))) ?_; rintro e2 w2 ⟨b2, rfl, h2, u2⟩; have uu2 : Up W0 w2 := (uu1.alloc _).trans u2; have n2a := uu2.cell k0; have n2b := uu2.cell k4)
      | (go_at_call 47; refine Calls.mono (pIn mb (some ⟨b2, 0, none⟩)) ?_; rintro e3 w3 ⟨v3, rfl, h3, u3⟩; have uu3 : Up W0 w3 := uu2.trans u3; have n3a := uu3.cell k0; have n3b := uu3.cell k4)
      | (go_at_call 46; refine Calls.mono (CT.out w3 (U0.out.trans uu3) _ _ (h2.up u3) h3) ?_; rintro e4 w4 ⟨rfl, u4⟩; have uu4 : Up W0 w4 := uu3.trans u4; have n4a := uu4.cell k0; have n4b := uu4.cell k4))
    have hlk := HLK.out w4 (U0.out.trans uu4)
    have U4 := Lib.hid (U0.out.trans uu4)
    clear h1 u1 uu1 n1a n1b h2 u2 uu2 n2a n2b h3 u3 uu3 n3a n3b u4 uu4 n4b k0 k4
    cases LO with
    | true =>
      go_wp2_with fail
      go_ret2
      exact kxq_err HX.out HZ.out.symm (Up.trans U4.out (by repeat (first | exact Up.refl _ | refine Up.alloc ?_ _)))
    | false =>
      go_wp2_with fail
      go_ret2
      exact kxq_err HX.out HZ.out.symm (Up.trans U4.out (by repeat (first | exact Up.refl _ | refine Up.alloc ?_ _)))
end Go.Proofs.YtmiicfdigkkbdaaDoor
namespace Go.Proofs.YtmiicfdigkkbdaaDoor
open Go.RowKit

set_option maxHeartbeats 12800000 in
set_option maxRecDepth 100000 in
theorem kdLeaf (x : Nod) (ks : Fr) (hx : x.k = 111 ∨ x.k = 112 ∨ x.k = 113) {c : List Tr} {w : World} {Sq : Nat → Prop} {es : Array MapEntry} {mb : Nat} {sv v : Value} (hs : Sc w sv c) (hp : Pl w Sq es c v (x, ks)) :
    Calls Tryd.prog 26 #[.agg #[.map (some mb)], sv, v] w (KxQ (ofT true c (x, ks)) w) := by
  obtain ⟨q, p, A, cc, rfl, hq1, c0, c1, c2, c3, c4, hc, hkid⟩ := hp.inn.open
  have hR : ofT true c (x, ks) = .ok starT := by
    rw [ofT_eq]; unfold ofX
    rw [if_neg (by omega), if_neg (by omega), if_neg (by omega), if_neg (by omega), if_neg (by omega), if_neg (by omega), if_neg (by omega)]
  rw [hR]
  obtain ⟨oa, rfl, -⟩ := hs.ptr
  have kk0 : (w.alloc (.cells #[.map (some mb)] 58)).cell? ⟨q, p, none⟩ = some (.int .i64 x.k) := ((Up.refl w).alloc _).cell c0
  have U0 : Hid (Up w (w.alloc (.cells #[.map (some mb)] 58))) := Lib.hid ((Up.refl w).alloc _)
  obtain ⟨K, hK⟩ : ∃ K, x.k = K := ⟨_, rfl⟩
  rw [hK] at kk0 hx
  clear hs hp hq1 c0 c1 c2 c3 c4 hkid hK hR
  rcases hx with rfl | rfl | rfl
  all_goals
    go_enter Tryd.func26, Tryd.ntmps26
    go_wp2_with fail
    refine pStar0.mono ?_
    rintro e1 w1 ⟨b1, rfl, h1, u1⟩
    have H1 := Lib.hid h1
    have U1 := Lib.hid (U0.out.trans u1)
    clear h1 u1
    go_wp2_with fail
    go_ret2
    exact kxq_ok rfl H1.out U1.out
set_option maxHeartbeats 12800000 in
set_option maxRecDepth 100000 in
theorem kdVar (x : Nod) (ks : Fr) (hx : x.k = 110) (hco : coT (x, ks) = true) {c : List Tr} {w : World} {Sq : Nat → Prop} {es : Array MapEntry} {mb : Nat} {sv v : Value} (hs : Sc w sv c) (hp : Pl w Sq es c v (x, ks)) :
    Calls Tryd.prog 26 #[.agg #[.map (some mb)], sv, v] w (KxQ (ofT true c (x, ks)) w) := by
  obtain ⟨q, p, A, cc, rfl, hq1, c0, c1, c2, c3, c4, hc, hkid⟩ := hp.inn.open
  obtain ⟨i, hi, hib⟩ : ∃ i : Nat, x.n = (i : Int) ∧ i ≤ 65536 := by
    have h0 := (co_tvok hco).1.2 hx
    have h1 : 0 ≤ x.n ∧ x.n ≤ 65536 := ⟨h0.1, h0.2.1⟩
    exact ⟨x.n.toNat, by omega, by omega⟩
  have hR : ofT true c (x, ks) = vaX c (i : Int) := by
    rw [ofT_eq]; unfold ofX
    rw [if_pos hx, hi]
  obtain ⟨Q, hQ⟩ : ∃ Q, vaX c (i : Int) = Q := ⟨_, rfl⟩
  rw [hR, hQ]
  obtain ⟨oa, rfl, -⟩ := hs.ptr
  have kk0 : (w.alloc (.cells #[.map (some mb)] 58)).cell? ⟨q, p, none⟩ = some (.int .i64 110) := by rw [← hx]; exact ((Up.refl w).alloc _).cell c0
  have kk1 : (w.alloc (.cells #[.map (some mb)] 58)).cell? ⟨q, p + 1, none⟩ = some (.int .i64 (i : Int)) := by rw [← hi]; exact ((Up.refl w).alloc _).cell c1
  have U0 : Hid (Up w (w.alloc (.cells #[.map (some mb)] 58))) := Lib.hid ((Up.refl w).alloc _)
  have cA := pAt (hs.up U0.out) i (by omega)
  rw [hQ] at cA
  clear hs hp hq1 c0 c1 c2 c3 c4 hkid hR hQ hx hi hco
  cases Q with
  | error z =>
    have cA := (KxQ.two cA).1 z rfl
    go_enter Tryd.func26, Tryd.ntmps26
    go_wp2_with fail
    refine cA.mono ?_
    rintro e1 w1 ⟨rfl, u1⟩
    have U1 := Lib.hid (U0.out.trans u1)
    clear u1 cA
    go_wp2_with fail
    go_ret2
    exact kxq_err rfl rfl U1.out
  | ok kq =>
    have cA := (KxQ.two cA).2 kq rfl
    go_enter Tryd.func26, Tryd.ntmps26
    go_wp2_with fail
    refine cA.mono ?_
    rintro e1 w1 ⟨v1, rfl, h1, u1⟩
    have H1 := Lib.hid h1
    have U1 := Lib.hid (U0.out.trans u1)
    obtain ⟨q9, p9, rfl⟩ := InT.ptr (t := kq) h1
    clear h1 u1 cA
    go_wp2_with fail
    go_ret2
    exact kxq_ok rfl H1.out U1.out
set_option maxHeartbeats 12800000 in
set_option maxRecDepth 100000 in
theorem kdRow {n : Nat} (hk : KnAt n) (x : Nod) (ks : Fr) (hn : szT (x, ks) ≤ n + 1) (hx : x.k = 114 ∨ x.k = 115) (hco : coT (x, ks) = true) (hbig : n ≤ 1000000) {c : List Tr} {M : Nat} (hg : GoodC c M) {w : World} {Sq : Nat → Prop} {es : Array MapEntry} {mb : Nat} {sv v : Value} (hS : Bel Sq w.heap.size) (hm : Mp w Sq mb es) (hs : Sc w sv c) (hp : Pl w Sq es c v (x, ks)) :
    Calls Tryd.prog 26 #[.agg #[.map (some mb)], sv, v] w (KxQ (ofT true c (x, ks)) w) := by
  obtain ⟨q, p, A, cc, rfl, hq1, c0, c1, c2, c3, c4, hc, hkid⟩ := hp.inn.open
  have hll := Fr.len_le ks
  have hsz : szT (x, ks) = 1 + ks.sz := rfl
  have hlen : ks.len ≤ 1000000 := by omega
  have hctx : ctxK c x ks = c := by unfold ctxK; rw [if_neg (by omega), if_neg (by omega)]
  have hpts : Pts n w Sq es c A ks := by
    rw [← hctx]
    rcases hx with hx | hx
    · refine pts_all (m := 0) (by decide) hp c4 hkid hn ?_
      unfold coT at hco
      simp only at hco
      rw [if_neg (by omega), Bool.and_eq_true, if_neg (by omega), if_pos (.inl hx), Bool.and_eq_true] at hco
      exact hco.2.2
    · exact pts_all (m := 2) (by decide) hp c4 hkid hn ((co_rows hco).1 hx)
  have CT := Lib.hid (fun (W : World) (hu : Up w W) (qv : Value) (hq : Qn W qv mb sv) => pTypes hk hg (cap := cc) (belU hS hu) (hm.up hS hu) (hs.up hu) hq (hpts.up hS hu) hlen)
  have hR : ofT true c (x, ks) = okS (musL (ofF true c ks)) := by
    rw [ofT_eq]; unfold ofX
    rw [if_neg (by omega), if_pos hx]
  obtain ⟨Q, hQ⟩ : ∃ Q, okS (musL (ofF true c ks)) = Q := ⟨_, rfl⟩
  obtain ⟨N, hN⟩ : ∃ N, ks.len = N := ⟨_, rfl⟩
  rw [hQ, hN] at CT
  rw [hR, hQ]
  rw [hN] at c4 hc
  obtain ⟨H, hH⟩ : ∃ H, w.heap.size = H := ⟨_, rfl⟩
  obtain ⟨oa, rfl, -⟩ := hs.ptr
  have HSC := Lib.hid hs
  obtain ⟨W0, hW0⟩ : ∃ W0, w.alloc (.cells #[.map (some mb)] 58) = W0 := ⟨_, rfl⟩
  have u0 : Up w W0 := by rw [← hW0]; exact (Up.refl w).alloc _
  have hb0 : W0.heap[H]? = some (.cells #[.map (some mb)] 58 (0, 0)) := by rw [← hW0, ← hH]; exact heap_alloc_new w _
  have k0 : W0.cell? ⟨H, 0, none⟩ = some (.map (some mb)) := cell_of_row W0 H 0 _ _ _ hb0
  have kk0 : (w.alloc (.cells #[.map (some mb)] 58)).cell? ⟨q, p, none⟩ = some (.int .i64 x.k) := ((Up.refl w).alloc _).cell c0
  have kk4 := u0.cell c4
  have HW0 := Lib.hid hW0
  have HH := Lib.hid hH
  have U0 := Lib.hid u0
  obtain ⟨K, hK⟩ : ∃ K, x.k = K := ⟨_, rfl⟩
  rw [hK] at kk0 hx
  clear hpts hll hsz hlen hctx hco hR hN hk hn hg hS hm hs hp hq1 c0 c1 c2 c3 c4 hkid hQ hH hW0 u0 hb0 hK 
  rcases hx with rfl | rfl
  all_goals
    have CT := Lib.hid (fun W hu qv hq => KxQ.one (CT.out W hu qv hq))
    go_enter Tryd.func26, Tryd.ntmps26
    go_wp2_with fail
    rw [HW0.out, HH.out]
    go_region_held3 (fun w' => w'.cell? ⟨H, 0, none⟩ = some (.map (some mb)) ∧ w'.cell? ⟨q, p + 4, none⟩ = some (.slice A N cc)) (first | go_keep | (refine ⟨?_, ?_⟩ <;> assumption)) (first
      | (go_at_call 47; refine Calls.mono (pIn mb oa) ?_; rintro e2 w2 ⟨v2, rfl, h2, u2⟩; have uu2 : Up W0 w2 := (Up.drew1 W0).trans u2; have n2a := uu2.cell k0; have n2b := uu2.cell kk4)
      | (go_at_call 46; refine Calls.mono (CT.out w2 (U0.out.trans uu2) _ h2) ?_; rintro e9 w9 ⟨oq9, y9, rfl, k9⟩; have uu9 : Up W0 w9 := (uu2.trans k9.2.2); have K9 := Lib.hid k9; clear k9; have n9a := uu9.cell k0; have n9b := uu9.cell kk4))
    all_goals
      have U9 := Lib.hid (U0.out.trans uu9)
      go_wp2_with fail
      go_ret2
      exact ⟨K9.out.1, K9.out.2.1, U9.out⟩
set_option maxHeartbeats 12800000 in
set_option maxRecDepth 100000 in
theorem kdField {n : Nat} (hk : KnAt n) (x : Nod) (ks : Fr) (hn : szT (x, ks) ≤ n + 1) (hx : x.k = 116 ∨ x.k = 122) {m : Nat} (hfd : fdT m (x, ks) = true) {c : List Tr} {M : Nat} (hg : GoodC c M) {w : World} {Sq : Nat → Prop} {es : Array MapEntry} {mb : Nat} {sv v : Value} (hS : Bel Sq w.heap.size) (hm : Mp w Sq mb es) (hs : Sc w sv c) (hp : Pl w Sq es c v (x, ks)) :
    Calls Tryd.prog 26 #[.agg #[.map (some mb)], sv, v] w (KxQ (ofT true c (x, ks)) w) := by
  obtain ⟨q, p, A, cc, rfl, hq1, c0, c1, c2, c3, c4, hc, hkid⟩ := hp.inn.open
  obtain ⟨z, zk, rfl, hcz, -⟩ := fd_one hfd
  have hctx : ctxK c x (.cons z zk .nil) = c := by unfold ctxK; rw [if_neg (by omega), if_neg (by omega)]
  obtain ⟨kb, ko, u1, rfl, hkb, e0, hsz, hpz⟩ := pts_of hp c4 hkid hn (done := .nil) (y := z) (l := zk) (r := .nil) rfl (.inl hcz)
  rw [hctx] at hpz
  have hl0 : (Fr.nil).len = 0 := rfl
  rw [hl0, Nat.add_zero] at e0
  have hl1 : (Fr.cons z zk .nil).len = 1 := rfl
  rw [hl1] at c4 hc
  obtain ⟨qz, pz, rfl⟩ := hpz.inn.ptr
  have CT := Lib.hid (fun (W : World) (hu : Up w W) => hk (z, zk) hsz c M hg W Sq es mb sv _ (belU hS hu) (hm.up hS hu) (hs.up hu) (hpz.up hS hu))
  have hR : ofT true c (x, .cons z zk .nil) = ofT true c (z, zk) := of_fd hfd
  obtain ⟨Q, hQ⟩ : ∃ Q, ofT true c (z, zk) = Q := ⟨_, rfl⟩
  rw [hQ] at CT
  rw [hR, hQ]
  obtain ⟨H, hH⟩ : ∃ H, w.heap.size = H := ⟨_, rfl⟩
  obtain ⟨oa, rfl, -⟩ := hs.ptr
  have HSC := Lib.hid hs
  obtain ⟨W0, hW0⟩ : ∃ W0, w.alloc (.cells #[.map (some mb)] 58) = W0 := ⟨_, rfl⟩
  have u0 : Up w W0 := by rw [← hW0]; exact (Up.refl w).alloc _
  have hb0 : W0.heap[H]? = some (.cells #[.map (some mb)] 58 (0, 0)) := by rw [← hW0, ← hH]; exact heap_alloc_new w _
  have k0 : W0.cell? ⟨H, 0, none⟩ = some (.map (some mb)) := cell_of_row W0 H 0 _ _ _ hb0
  have kk0 : (w.alloc (.cells #[.map (some mb)] 58)).cell? ⟨q, p, none⟩ = some (.int .i64 x.k) := ((Up.refl w).alloc _).cell c0
  have kk4 := u0.cell c4
  have ke0 := u0.cell e0
  have HW0 := Lib.hid hW0
  have HH := Lib.hid hH
  have U0 := Lib.hid u0
  obtain ⟨K, hK⟩ : ∃ K, x.k = K := ⟨_, rfl⟩
  rw [hK] at kk0 hx
  clear hsz hpz hctx hfd hR hl0 hl1 e0 hcz hkb hk hn hg hS hm hs hp hq1 c0 c1 c2 c3 c4 hkid hQ hH hW0 u0 hb0 hK 
  rcases hx with rfl | rfl
  all_goals
    have CT := Lib.hid (fun W hu => KxQ.one (CT.out W hu))
    go_enter Tryd.func26, Tryd.ntmps26
    go_wp2_with fail
    rw [HW0.out, HH.out]
    go_region_held3 (fun w' => w'.cell? ⟨H, 0, none⟩ = some (.map (some mb)) ∧ w'.cell? ⟨q, p + 4, none⟩ = some (.slice (some ⟨kb, ko, none⟩) 1 cc) ∧ w'.cell? ⟨kb, ko, none⟩ = some (.pointer (some ⟨qz, pz, none⟩))) (first | go_keep | (refine ⟨?_, ?_, ?_⟩ <;> assumption)) (first
      | (go_at_call 26; refine Calls.mono (CT.out _ (U0.out.drew)) ?_; rintro e9 w9 ⟨oq9, y9, rfl, k9⟩; have uu9 : Up W0 w9 := ((Up.drew1 W0).trans k9.2.2); have K9 := Lib.hid k9; clear k9; have n9a := uu9.cell k0; have n9b := uu9.cell kk4; have n9c := uu9.cell ke0))
    all_goals
      have U9 := Lib.hid (U0.out.trans uu9)
      go_wp2_with fail
      go_ret2
      exact ⟨K9.out.1, K9.out.2.1, U9.out⟩
end Go.Proofs.YtmiicfdigkkbdaaDoor
