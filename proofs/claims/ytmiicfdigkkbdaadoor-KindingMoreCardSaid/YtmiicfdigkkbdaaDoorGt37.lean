/-
  Layer 12, the program's side: the kind of what binds a constructor (written by gkd.py).
-/
import Derived.Test.YtmiicfdigkkbdaaDoorGt36
namespace Go.Proofs.YtmiicfdigkkbdaaDoor
open Go.RowKit

theorem two_new (w : World) (o1 o2 : Obj) : ((w.alloc o1).alloc o2).drew.heap[w.heap.size + 1]? = some o2 := by
  have h := heap_alloc_new (w.alloc o1) o2
  rw [World.size_alloc] at h
  exact h
set_option maxHeartbeats 12800000 in
set_option maxRecDepth 100000 in
theorem kdAll {n : Nat} (hk : KnAt n) (x : Nod) (ks : Fr) (hn : szT (x, ks) ≤ n + 1) (hx : x.k = 117 ∨ x.k = 118) (hco : coT (x, ks) = true) {c : List Tr} {M : Nat} (hg : GoodC c M) {w : World} {Sq : Nat → Prop} {es : Array MapEntry} {mb : Nat} {sv v : Value} (hS : Bel Sq w.heap.size) (hm : Mp w Sq mb es) (hs : Sc w sv c) (hp : Pl w Sq es c v (x, ks)) :
    Calls Tryd.prog 26 #[.agg #[.map (some mb)], sv, v] w (KxQ (ofT true c (x, ks)) w) := by
  obtain ⟨q, p, A, cc, rfl, hq1, c0, c1, c2, c3, c4, hc, hkid⟩ := hp.inn.open
  obtain ⟨z, zk, b, bk, rfl, hkz, hcb⟩ : ∃ z zk b bk, ks = .cons z zk (.cons b bk .nil) ∧ kdT (z, zk) = true ∧ coT (b, bk) = true := by
    have hc' := hco
    unfold coT at hc'
    simp only at hc'
    rw [if_neg (by omega), Bool.and_eq_true, if_neg (by omega), if_neg (by omega), if_neg (by omega), if_pos (by omega), Bool.and_eq_true] at hc'
    obtain ⟨z, zk, b, bk, rfl⟩ := Fr.two (beq_iff_eq.1 hc'.2.1)
    have h2 := hc'.2.2
    rw [coF_1, coF_0, Bool.and_eq_true, Bool.and_eq_true] at h2
    exact ⟨z, zk, b, bk, rfl, h2.1, h2.2.1⟩
  have hctx : ctxK c x (.cons z zk (.cons b bk .nil)) = (z, zk) :: c := by unfold ctxK; rw [if_pos (by omega)]; rfl
  obtain ⟨kb, ko, u1, rfl, hkb, e1, hsb, hpb⟩ := pts_of hp c4 hkid hn (done := .cons z zk .nil) (y := b) (l := bk) (r := .nil) rfl (.inl hcb)
  rw [hctx] at hpb
  obtain ⟨kb', ko', u0', hAA, _, e0, hinz, _⟩ := hkid.next
  injection hAA with hAA
  injection hAA with g1 g2
  subst g1 g2
  rw [Nat.add_zero] at e0
  have hl2 : (Fr.cons z zk (.cons b bk .nil)).len = 2 := rfl
  rw [hl2] at c4 hc
  have hl1 : (Fr.cons z zk .nil).len = 1 := rfl
  rw [hl1] at e1
  obtain ⟨qz, pz, rfl⟩ := hinz.ptr
  obtain ⟨qb, pb, rfl⟩ := hpb.inn.ptr
  have hg2 : GoodC ((z, zk) :: c) (max M (szT (z, zk))) := goodC_cons hg hkz
  have HZ : Hid (∀ W, Up w W → HasT W (.pointer (some ⟨qz, pz, none⟩)) (some (z, zk))) := Lib.hid (fun W hu => HasT.up (HasT.of (o := some (z, zk)) hinz hS) hu)
  have CT := Lib.hid (fun (W : World) (hu : Up w W) (sv' qv : Value) (bl : Nat) (hb : W.heap[bl]? = some (.cells #[.pointer (some ⟨qb, pb, none⟩)] 25 (0, 0))) (hs' : Sc W sv' ((z, zk) :: c)) (hq : Qn W qv mb sv') => pTypes hk hg2 (cap := 1) (belU hS hu) (hm.up hS hu) hs' hq (pts_one (t := (b, bk)) hb hsb (hpb.up hS hu)) (by show 1 ≤ 1000000; omega))
  have hlo : (Fr.cons b bk .nil).len = 1 := rfl
  have hR : ofT true c (x, .cons z zk (.cons b bk .nil)) = okS (musL (ofF true ((z, zk) :: c) (.cons b bk .nil))) := by
    rw [ofT_eq]; unfold ofX
    rw [if_neg (by omega), if_neg (by omega), if_pos hx, ofF_c]
    show okS (musE (ofT true ((z, zk) :: c) (b, bk))) = okS (musL [ofT true ((z, zk) :: c) (b, bk)])
    rw [musL_one]
  rw [hR]
  obtain ⟨Q, hQ⟩ : ∃ Q, okS (musL (ofF true ((z, zk) :: c) (.cons b bk .nil))) = Q := ⟨_, rfl⟩
  rw [hQ, hlo] at CT
  rw [hQ]
  obtain ⟨H, hH⟩ : ∃ H, w.heap.size = H := ⟨_, rfl⟩
  obtain ⟨oa, rfl, -⟩ := hs.ptr
  have HSC := Lib.hid hs
  obtain ⟨W0, hW0⟩ : ∃ W0, w.alloc (.cells #[.map (some mb)] 58) = W0 := ⟨_, rfl⟩
  have u0 : Up w W0 := by rw [← hW0]; exact (Up.refl w).alloc _
  have hb0 : W0.heap[H]? = some (.cells #[.map (some mb)] 58 (0, 0)) := by rw [← hW0, ← hH]; exact heap_alloc_new w _
  have k0 : W0.cell? ⟨H, 0, none⟩ = some (.map (some mb)) := cell_of_row W0 H 0 _ _ _ hb0
  have kk0 : (w.alloc (.cells #[.map (some mb)] 58)).cell? ⟨q, p, none⟩ = some (.int .i64 x.k) := ((Up.refl w).alloc _).cell c0
  have kk4 := u0.cell c4
  have ke0 := u0.cell e0
  have ke1 := u0.cell e1
  have HW0 := Lib.hid hW0
  have HH := Lib.hid hH
  have U0 := Lib.hid u0
  obtain ⟨K, hK⟩ : ∃ K, x.k = K := ⟨_, rfl⟩
  rw [hK] at kk0 hx
  clear hpb hg2 hinz hsb hcb hkz e0 e1 hR hctx hl2 hl1 hlo hkb hco hk hn hg hS hm hs hp hq1 c0 c1 c2 c3 c4 hkid hQ hH hW0 u0 hb0 hK 
  rcases hx with rfl | rfl
  all_goals
    have CT := Lib.hid (fun W hu sv' qv bl hb hs' hq => KxQ.one (CT.out W hu sv' qv bl hb hs' hq))
    go_enter Tryd.func26, Tryd.ntmps26
    go_wp2_with fail
    rw [HW0.out, HH.out]
    go_region_held3 (fun w' => w'.cell? ⟨H, 0, none⟩ = some (.map (some mb)) ∧ w'.cell? ⟨q, p + 4, none⟩ = some (.slice (some ⟨kb, ko, none⟩) 2 cc) ∧ w'.cell? ⟨kb, ko, none⟩ = some (.pointer (some ⟨qz, pz, none⟩)) ∧ w'.cell? ⟨kb, ko + 1, none⟩ = some (.pointer (some ⟨qb, pb, none⟩))) (first | go_keep | (refine ⟨?_, ?_, ?_, ?_⟩ <;> assumption)) (first
      | (go_at_call 27; (with_reducible show Calls _ _ _ (World.drew (World.alloc W0 _)) _); refine Calls.mono (pAhead (c1 := [(z, zk)]) (c2 := c) (HSC.out.up (U0.out.alloc _).drew) (cx_one (heap_alloc_new W0 _) (HZ.out _ (U0.out.alloc _).drew))) ?_; rintro e1 w1 ⟨b1, rfl, h1, u1⟩; have uu1 : Up W0 w1 := ((Up.refl W0).alloc _).drew.trans u1; have n1a := uu1.cell k0; have n1b := uu1.cell kk4; have n1c := uu1.cell ke0; have n1d := uu1.cell ke1)
      | (go_at_call 27; (with_reducible show Calls _ _ #[_, Value.slice (some ⟨W0.heap.size, 0, none⟩) 1 1] (World.drew (World.alloc (World.alloc W0 _) _)) _); refine Calls.mono (pAhead (c1 := [(z, zk)]) (c2 := c) (HSC.out.up ((U0.out.alloc _).alloc _).drew) (cx_one (block_alloc _ (heap_alloc_new W0 _)) (HZ.out _ ((U0.out.alloc _).alloc _).drew))) ?_; rintro e1 w1 ⟨b1, rfl, h1, u1⟩; have uu1 : Up W0 w1 := (((Up.refl W0).alloc _).alloc _).drew.trans u1; have n1a := uu1.cell k0; have n1b := uu1.cell kk4; have n1c := uu1.cell ke0; have n1d := uu1.cell ke1; have rb : w1.heap[W0.heap.size + 1]? = some (.cells #[.pointer (some ⟨qb, pb, none⟩)] 25 (0, 0)) := u1.row (two_new W0 _ _))
      | (go_at_call 27; (with_reducible show Calls _ _ #[_, Value.slice (some ⟨W0.heap.size + 1, 0, none⟩) 1 1] (World.drew (World.alloc (World.alloc W0 _) _)) _); refine Calls.mono (pAhead (c1 := [(z, zk)]) (c2 := c) (HSC.out.up ((U0.out.alloc _).alloc _).drew) (cx_one (two_new W0 _ _) (HZ.out _ ((U0.out.alloc _).alloc _).drew))) ?_; rintro e1 w1 ⟨b1, rfl, h1, u1⟩; have uu1 : Up W0 w1 := (((Up.refl W0).alloc _).alloc _).drew.trans u1; have n1a := uu1.cell k0; have n1b := uu1.cell kk4; have n1c := uu1.cell ke0; have n1d := uu1.cell ke1; have rc : w1.heap[W0.heap.size]? = some (.cells #[.pointer (some ⟨qb, pb, none⟩)] 25 (0, 0)) := u1.row (block_alloc _ (heap_alloc_new W0 _)))
      | (go_at_call 47; (with_reducible show Calls _ _ _ w1 _); refine Calls.mono (pIn mb (some ⟨b1, 0, none⟩)) ?_; rintro e2 w2 ⟨v2, rfl, h2, u2⟩; have uu2 : Up W0 w2 := uu1.trans u2; have n2a := uu2.cell k0; have n2b := uu2.cell kk4; have n2c := uu2.cell ke0; have n2d := uu2.cell ke1; have i2 : Up w1 w2 := u2)
      | (go_at_call 47; (with_reducible show Calls _ _ _ (w1.alloc _) _); refine Calls.mono (pIn mb (some ⟨b1, 0, none⟩)) ?_; rintro e2 w2 ⟨v2, rfl, h2, u2⟩; have uu2 : Up W0 w2 := (uu1.alloc _).trans u2; have n2a := uu2.cell k0; have n2b := uu2.cell kk4; have n2c := uu2.cell ke0; have n2d := uu2.cell ke1; have i2 : Up w1 w2 := Up.trans ((Up.refl w1).alloc _) u2)
      | (go_at_call 46; (with_reducible show Calls _ _ _ (w2.alloc _) _); refine Calls.mono (CT.out _ ((U0.out.trans uu2).alloc _) _ _ w2.heap.size (heap_alloc_new w2 _) (h1.up (i2.alloc _)) (h2.up ((Up.refl w2).alloc _))) ?_; rintro e9 w9 ⟨oq9, y9, rfl, k9⟩; have uu9 : Up W0 w9 := ((uu2.alloc _).trans k9.2.2); have K9 := Lib.hid k9; clear k9; have n9a := uu9.cell k0; have n9b := uu9.cell kk4; have n9c := uu9.cell ke0; have n9d := uu9.cell ke1)
      | (go_at_call 46; (with_reducible show Calls _ _ #[_, Value.slice (some ⟨w1.heap.size, 0, none⟩) 1 1] w2 _); refine Calls.mono (CT.out w2 (U0.out.trans uu2) _ _ w1.heap.size (u2.row (heap_alloc_new w1 _)) (h1.up i2) h2) ?_; rintro e9 w9 ⟨oq9, y9, rfl, k9⟩; have uu9 : Up W0 w9 := (uu2.trans k9.2.2); have K9 := Lib.hid k9; clear k9; have n9a := uu9.cell k0; have n9b := uu9.cell kk4; have n9c := uu9.cell ke0; have n9d := uu9.cell ke1)
      | (go_at_call 46; (with_reducible show Calls _ _ #[_, Value.slice (some ⟨W0.heap.size + 1, 0, none⟩) 1 1] w2 _); refine Calls.mono (CT.out w2 (U0.out.trans uu2) _ _ (W0.heap.size + 1) (u2.row rb) (h1.up i2) h2) ?_; rintro e9 w9 ⟨oq9, y9, rfl, k9⟩; have uu9 : Up W0 w9 := (uu2.trans k9.2.2); have K9 := Lib.hid k9; clear k9; have n9a := uu9.cell k0; have n9b := uu9.cell kk4; have n9c := uu9.cell ke0; have n9d := uu9.cell ke1)
      | (go_at_call 46; (with_reducible show Calls _ _ #[_, Value.slice (some ⟨W0.heap.size, 0, none⟩) 1 1] w2 _); refine Calls.mono (CT.out w2 (U0.out.trans uu2) _ _ W0.heap.size (u2.row rc) (h1.up i2) h2) ?_; rintro e9 w9 ⟨oq9, y9, rfl, k9⟩; have uu9 : Up W0 w9 := (uu2.trans k9.2.2); have K9 := Lib.hid k9; clear k9; have n9a := uu9.cell k0; have n9b := uu9.cell kk4; have n9c := uu9.cell ke0; have n9d := uu9.cell ke1))
    all_goals
      have U9 := Lib.hid (U0.out.trans uu9)
      go_wp2_with fail
      go_ret2
      exact ⟨K9.out.1, K9.out.2.1, U9.out⟩
set_option maxHeartbeats 12800000 in
set_option maxRecDepth 100000 in
theorem kdLam {n : Nat} (hk : KnAt n) (x : Nod) (ks : Fr) (hn : szT (x, ks) ≤ n + 1) (hx : x.k = 119) (hco : coT (x, ks) = true) {c : List Tr} {M : Nat} (hg : GoodC c M) {w : World} {Sq : Nat → Prop} {es : Array MapEntry} {mb : Nat} {sv v : Value} (hS : Bel Sq w.heap.size) (hm : Mp w Sq mb es) (hs : Sc w sv c) (hp : Pl w Sq es c v (x, ks)) :
    Calls Tryd.prog 26 #[.agg #[.map (some mb)], sv, v] w (KxQ (ofT true c (x, ks)) w) := by
  obtain ⟨q, p, A, cc, rfl, hq1, c0, c1, c2, c3, c4, hc, hkid⟩ := hp.inn.open
  obtain ⟨z, zk, b, bk, rfl, hkz, hcb⟩ : ∃ z zk b bk, ks = .cons z zk (.cons b bk .nil) ∧ kdT (z, zk) = true ∧ coT (b, bk) = true := by
    have hc' := hco
    unfold coT at hc'
    simp only at hc'
    rw [if_neg (by omega), Bool.and_eq_true, if_neg (by omega), if_neg (by omega), if_neg (by omega), if_pos (by omega), Bool.and_eq_true] at hc'
    obtain ⟨z, zk, b, bk, rfl⟩ := Fr.two (beq_iff_eq.1 hc'.2.1)
    have h2 := hc'.2.2
    rw [coF_1, coF_0, Bool.and_eq_true, Bool.and_eq_true] at h2
    exact ⟨z, zk, b, bk, rfl, h2.1, h2.2.1⟩
  have hctx : ctxK c x (.cons z zk (.cons b bk .nil)) = (z, zk) :: c := by unfold ctxK; rw [if_pos (by omega)]; rfl
  obtain ⟨kb, ko, u1, rfl, hkb, e1, hsb, hpb⟩ := pts_of hp c4 hkid hn (done := .cons z zk .nil) (y := b) (l := bk) (r := .nil) rfl (.inl hcb)
  rw [hctx] at hpb
  obtain ⟨kb', ko', u0', hAA, _, e0, hinz, _⟩ := hkid.next
  injection hAA with hAA
  injection hAA with g1 g2
  subst g1 g2
  rw [Nat.add_zero] at e0
  have hl2 : (Fr.cons z zk (.cons b bk .nil)).len = 2 := rfl
  rw [hl2] at c4 hc
  have hl1 : (Fr.cons z zk .nil).len = 1 := rfl
  rw [hl1] at e1
  obtain ⟨qz, pz, rfl⟩ := hinz.ptr
  obtain ⟨qb, pb, rfl⟩ := hpb.inn.ptr
  have hg2 : GoodC ((z, zk) :: c) (max M (szT (z, zk))) := goodC_cons hg hkz
  have HZ : Hid (∀ W, Up w W → HasT W (.pointer (some ⟨qz, pz, none⟩)) (some (z, zk))) := Lib.hid (fun W hu => HasT.up (HasT.of (o := some (z, zk)) hinz hS) hu)
  have CT := Lib.hid (fun (W : World) (hu : Up w W) (sv' qv : Value) (hs' : Sc W sv' ((z, zk) :: c)) (hq : Qn W qv mb sv') => pFunction hk (z, zk) (b, bk) hsb hg2 (belU hS hu) (hm.up hS hu) hs' hq (HZ.out W hu) (hpb.up hS hu))
  have hR : ofT true c (x, .cons z zk (.cons b bk .nil)) = laX (z, zk) (ofT true ((z, zk) :: c) (b, bk)) := by
    rw [ofT_eq]; unfold ofX
    rw [if_neg (by omega), if_neg (by omega), if_neg (by omega), if_pos hx]
    rfl
  rw [hR]
  obtain ⟨Q, hQ⟩ : ∃ Q, laX (z, zk) (ofT true ((z, zk) :: c) (b, bk)) = Q := ⟨_, rfl⟩
  rw [hQ] at CT
  rw [hQ]
  obtain ⟨H, hH⟩ : ∃ H, w.heap.size = H := ⟨_, rfl⟩
  obtain ⟨oa, rfl, -⟩ := hs.ptr
  have HSC := Lib.hid hs
  obtain ⟨W0, hW0⟩ : ∃ W0, w.alloc (.cells #[.map (some mb)] 58) = W0 := ⟨_, rfl⟩
  have u0 : Up w W0 := by rw [← hW0]; exact (Up.refl w).alloc _
  have hb0 : W0.heap[H]? = some (.cells #[.map (some mb)] 58 (0, 0)) := by rw [← hW0, ← hH]; exact heap_alloc_new w _
  have k0 : W0.cell? ⟨H, 0, none⟩ = some (.map (some mb)) := cell_of_row W0 H 0 _ _ _ hb0
  have kk0 : (w.alloc (.cells #[.map (some mb)] 58)).cell? ⟨q, p, none⟩ = some (.int .i64 x.k) := ((Up.refl w).alloc _).cell c0
  have kk4 := u0.cell c4
  have ke0 := u0.cell e0
  have ke1 := u0.cell e1
  have HW0 := Lib.hid hW0
  have HH := Lib.hid hH
  have U0 := Lib.hid u0
  obtain ⟨K, hK⟩ : ∃ K, x.k = K := ⟨_, rfl⟩
  rw [hK] at kk0 hx
  clear hpb hg2 hinz hsb hcb hkz e0 e1 hR hctx hl2 hl1 hkb hco hk hn hg hS hm hs hp hq1 c0 c1 c2 c3 c4 hkid hQ hH hW0 u0 hb0 hK 
  subst hx
  have CT := Lib.hid (fun W hu sv' qv hs' hq => KxQ.one (CT.out W hu sv' qv hs' hq))
  go_enter Tryd.func26, Tryd.ntmps26
  go_wp2_with fail
  rw [HW0.out, HH.out]
  go_region_held3 (fun w' => w'.cell? ⟨H, 0, none⟩ = some (.map (some mb)) ∧ w'.cell? ⟨q, p + 4, none⟩ = some (.slice (some ⟨kb, ko, none⟩) 2 cc) ∧ w'.cell? ⟨kb, ko, none⟩ = some (.pointer (some ⟨qz, pz, none⟩)) ∧ w'.cell? ⟨kb, ko + 1, none⟩ = some (.pointer (some ⟨qb, pb, none⟩))) (first | go_keep | (refine ⟨?_, ?_, ?_, ?_⟩ <;> assumption)) (first
    | (go_at_call 27; refine Calls.mono (pAhead (c1 := [(z, zk)]) (c2 := c) (HSC.out.up (U0.out.alloc _).drew) (cx_one (heap_alloc_new W0 _) (HZ.out _ (U0.out.alloc _).drew))) ?_; rintro e1 w1 ⟨b1, rfl, h1, u1⟩; have uu1 : Up W0 w1 := ((Up.refl W0).alloc _).drew.trans u1; have n1a := uu1.cell k0; have n1b := uu1.cell kk4; have n1c := uu1.cell ke0; have n1d := uu1.cell ke1)
    | (go_at_call 47; refine Calls.mono (pIn mb (some ⟨b1, 0, none⟩)) ?_; rintro e2 w2 ⟨v2, rfl, h2, u2⟩; have uu2 : Up W0 w2 := uu1.trans u2; have n2a := uu2.cell k0; have n2b := uu2.cell kk4; have n2c := uu2.cell ke0; have n2d := uu2.cell ke1)
    | (go_at_call 48; refine Calls.mono (CT.out w2 (U0.out.trans uu2) _ _ (h1.up u2) h2) ?_; rintro e9 w9 ⟨oq9, y9, rfl, k9⟩; have uu9 : Up W0 w9 := (uu2.trans k9.2.2); have K9 := Lib.hid k9; clear k9; have n9a := uu9.cell k0; have n9b := uu9.cell kk4; have n9c := uu9.cell ke0; have n9d := uu9.cell ke1))
  all_goals
    have U9 := Lib.hid (U0.out.trans uu9)
    go_wp2_with fail
    go_ret2
    exact ⟨K9.out.1, K9.out.2.1, U9.out⟩
end Go.Proofs.YtmiicfdigkkbdaaDoor
namespace Go.Proofs.YtmiicfdigkkbdaaDoor
open Go.RowKit

set_option maxHeartbeats 12800000 in
set_option maxRecDepth 100000 in
theorem kdApp {n : Nat} (hk : KnAt n) (x : Nod) (ks : Fr) (hn : szT (x, ks) ≤ n + 1) (hx : x.k = 120) (hco : coT (x, ks) = true) {c : List Tr} {M : Nat} (hg : GoodC c M) {w : World} {Sq : Nat → Prop} {es : Array MapEntry} {mb : Nat} {sv v : Value} (hS : Bel Sq w.heap.size) (hm : Mp w Sq mb es) (hs : Sc w sv c) (hp : Pl w Sq es c v (x, ks)) :
    Calls Tryd.prog 26 #[.agg #[.map (some mb)], sv, v] w (KxQ (ofT true c (x, ks)) w) := by
  obtain ⟨q, p, A, cc, rfl, hq1, c0, c1, c2, c3, c4, hc, hkid⟩ := hp.inn.open
  obtain ⟨z, zk, b, bk, rfl, hcz, hcb⟩ := app_two hco hx
  have hctx : ctxK c x (.cons z zk (.cons b bk .nil)) = c := by unfold ctxK; rw [if_neg (by omega), if_neg (by omega)]
  obtain ⟨kb, ko, u1, rfl, hkb, e1, hsb, hpb⟩ := pts_of hp c4 hkid hn (done := .cons z zk .nil) (y := b) (l := bk) (r := .nil) rfl (.inl hcb)
  rw [hctx] at hpb
  obtain ⟨kb', ko', u0', hAA, _, e0, hsz0, hpz⟩ := pts_of hp c4 hkid hn (done := .nil) (y := z) (l := zk) (r := .cons b bk .nil) rfl (.inl hcz)
  rw [hctx] at hpz
  have hl0 : (Fr.nil).len = 0 := rfl
  rw [hl0] at e0
  injection hAA with hAA
  injection hAA with g1 g2
  subst g1 g2
  rw [Nat.add_zero] at e0
  have hl2 : (Fr.cons z zk (.cons b bk .nil)).len = 2 := rfl
  rw [hl2] at c4 hc
  have hl1 : (Fr.cons z zk .nil).len = 1 := rfl
  rw [hl1] at e1
  obtain ⟨qz, pz, rfl⟩ := hpz.inn.ptr
  obtain ⟨qb, pb, rfl⟩ := hpb.inn.ptr
  have CT := Lib.hid (fun (W : World) (hu : Up w W) (qv : Value) (hq : Qn W qv mb sv) => pApplied hk (z, zk) (b, bk) hsz0 hsb hg (belU hS hu) (hm.up hS hu) (hs.up hu) hq (hpz.up hS hu) (hpb.up hS hu) hcz (fun q hq => hp.ap.1 hx q hq))
  have hR : ofT true c (x, .cons z zk (.cons b bk .nil)) = apX (ofT true c (z, zk)) (ofT true c (b, bk)) := by
    rw [ofT_eq]; unfold ofX
    rw [if_neg (by omega), if_neg (by omega), if_neg (by omega), if_neg (by omega), if_pos hx]
    rfl
  rw [hR]
  obtain ⟨Q, hQ⟩ : ∃ Q, apX (ofT true c (z, zk)) (ofT true c (b, bk)) = Q := ⟨_, rfl⟩
  rw [hQ] at CT
  rw [hQ]
  obtain ⟨H, hH⟩ : ∃ H, w.heap.size = H := ⟨_, rfl⟩
  obtain ⟨oa, rfl, -⟩ := hs.ptr
  have HSC := Lib.hid hs
  obtain ⟨W0, hW0⟩ : ∃ W0, w.alloc (.cells #[.map (some mb)] 58) = W0 := ⟨_, rfl⟩
  have u0 : Up w W0 := by rw [← hW0]; exact (Up.refl w).alloc _
  have hb0 : W0.heap[H]? = some (.cells #[.map (some mb)] 58 (0, 0)) := by rw [← hW0, ← hH]; exact heap_alloc_new w _
  have k0 : W0.cell? ⟨H, 0, none⟩ = some (.map (some mb)) := cell_of_row W0 H 0 _ _ _ hb0
  have kk0 : (w.alloc (.cells #[.map (some mb)] 58)).cell? ⟨q, p, none⟩ = some (.int .i64 x.k) := ((Up.refl w).alloc _).cell c0
  have kk4 := u0.cell c4
  have ke0 := u0.cell e0
  have ke1 := u0.cell e1
  have HW0 := Lib.hid hW0
  have HH := Lib.hid hH
  have U0 := Lib.hid u0
  obtain ⟨K, hK⟩ : ∃ K, x.k = K := ⟨_, rfl⟩
  rw [hK] at kk0 hx
  clear hpb hpz hsz0 hl0 hcz hsb hcb e0 e1 hR hctx hl2 hl1 hkb hco hk hn hg hS hm hs hp hq1 c0 c1 c2 c3 c4 hkid hQ hH hW0 u0 hb0 hK 
  subst hx
  have CT := Lib.hid (fun W hu qv hq => KxQ.one (CT.out W hu qv hq))
  go_enter Tryd.func26, Tryd.ntmps26
  go_wp2_with fail
  rw [HW0.out, HH.out]
  go_region_held3 (fun w' => w'.cell? ⟨H, 0, none⟩ = some (.map (some mb)) ∧ w'.cell? ⟨q, p + 4, none⟩ = some (.slice (some ⟨kb, ko, none⟩) 2 cc) ∧ w'.cell? ⟨kb, ko, none⟩ = some (.pointer (some ⟨qz, pz, none⟩)) ∧ w'.cell? ⟨kb, ko + 1, none⟩ = some (.pointer (some ⟨qb, pb, none⟩))) (first | go_keep | (refine ⟨?_, ?_, ?_, ?_⟩ <;> assumption)) (first
    | (go_at_call 47; refine Calls.mono (pIn mb oa) ?_; rintro e2 w2 ⟨v2, rfl, h2, u2⟩; have uu2 : Up W0 w2 := (Up.drew1 W0).trans u2; have n2a := uu2.cell k0; have n2b := uu2.cell kk4; have n2c := uu2.cell ke0; have n2d := uu2.cell ke1)
    | (go_at_call 49; refine Calls.mono (CT.out w2 (U0.out.trans uu2) _ h2) ?_; rintro e9 w9 ⟨oq9, y9, rfl, k9⟩; have uu9 : Up W0 w9 := (uu2.trans k9.2.2); have K9 := Lib.hid k9; clear k9; have n9a := uu9.cell k0; have n9b := uu9.cell kk4; have n9c := uu9.cell ke0; have n9d := uu9.cell ke1))
  all_goals
    have U9 := Lib.hid (U0.out.trans uu9)
    go_wp2_with fail
    go_ret2
    exact ⟨K9.out.1, K9.out.2.1, U9.out⟩
set_option maxHeartbeats 12800000 in
set_option maxRecDepth 100000 in
theorem kdSum {n : Nat} (hk : KnAt n) (x : Nod) (ks : Fr) (hn : szT (x, ks) ≤ n + 1) (hx : x.k = 121) (hco : coT (x, ks) = true) (hbig : n ≤ 1000000) {c : List Tr} {M : Nat} (hg : GoodC c M) {w : World} {Sq : Nat → Prop} {es : Array MapEntry} {mb : Nat} {sv v : Value} (hS : Bel Sq w.heap.size) (hm : Mp w Sq mb es) (hs : Sc w sv c) (hp : Pl w Sq es c v (x, ks)) :
    Calls Tryd.prog 26 #[.agg #[.map (some mb)], sv, v] w (KxQ (ofT true c (x, ks)) w) := by
  obtain ⟨q, p, A, cc, rfl, hq1, c0, c1, c2, c3, c4, hc, hkid⟩ := hp.inn.open
  have CT := Lib.hid (fun (W : World) (hu : Up w W) => pSum hk x ks hn hx hco hbig hg (belU hS hu) (hm.up hS hu) (hs.up hu) (hp.up hS hu))
  obtain ⟨Q, hQ⟩ : ∃ Q, ofT true c (x, ks) = Q := ⟨_, rfl⟩
  rw [hQ] at CT
  rw [hQ]
  obtain ⟨H, hH⟩ : ∃ H, w.heap.size = H := ⟨_, rfl⟩
  obtain ⟨oa, rfl, -⟩ := hs.ptr
  have HSC := Lib.hid hs
  obtain ⟨W0, hW0⟩ : ∃ W0, w.alloc (.cells #[.map (some mb)] 58) = W0 := ⟨_, rfl⟩
  have u0 : Up w W0 := by rw [← hW0]; exact (Up.refl w).alloc _
  have hb0 : W0.heap[H]? = some (.cells #[.map (some mb)] 58 (0, 0)) := by rw [← hW0, ← hH]; exact heap_alloc_new w _
  have k0 : W0.cell? ⟨H, 0, none⟩ = some (.map (some mb)) := cell_of_row W0 H 0 _ _ _ hb0
  have kk0 : (w.alloc (.cells #[.map (some mb)] 58)).cell? ⟨q, p, none⟩ = some (.int .i64 x.k) := ((Up.refl w).alloc _).cell c0
  have HW0 := Lib.hid hW0
  have HH := Lib.hid hH
  have U0 := Lib.hid u0
  obtain ⟨K, hK⟩ : ∃ K, x.k = K := ⟨_, rfl⟩
  rw [hK] at kk0 hx
  clear hco hk hn hg hS hm hs hp hq1 c0 c1 c2 c3 c4 hkid hQ hH hW0 u0 hb0 hK 
  subst hx
  have CT := Lib.hid (fun W hu => KxQ.one (CT.out W hu))
  go_enter Tryd.func26, Tryd.ntmps26
  have k0w := k0
  rw [← HW0.out] at k0w
  rw [← HH.out] at k0w
  go_wp2_with fail
  rw [HW0.out]
  refine (CT.out W0 U0.out).mono ?_
  rintro e9 w9 ⟨oq9, y9, rfl, k9⟩; have uu9 : Up W0 w9 := (k9.2.2); have K9 := Lib.hid k9; clear k9
  clear k0w
  all_goals
    have U9 := Lib.hid (U0.out.trans uu9)
    go_wp2_with fail
    go_ret2
    exact ⟨K9.out.1, K9.out.2.1, U9.out⟩
theorem kd_all : ∀ n, n ≤ 1000000 → KnAt n
  | 0, _ => fun t h => absurd h (by unfold szT; omega)
  | n + 1, hbig => fun (x, ks) hn c M hg w Sq es mb sv v hS hm hs hp => by
    have ih := kd_all n (by omega)
    rcases hp.fm with hco | ⟨m, hfd⟩
    · rcases coT_kinds hco with h | h | h | h | h | h | h | h
      · exact kdVar x ks h hco hs hp
      · exact kdLeaf x ks h hs hp
      · exact kdRow ih x ks hn (.inl h) hco (by omega) hg hS hm hs hp
      · exact kdApp ih x ks hn h hco hg hS hm hs hp
      · exact kdRow ih x ks hn (.inr h) hco (by omega) hg hS hm hs hp
      · exact kdAll ih x ks hn h hco hg hS hm hs hp
      · exact kdLam ih x ks hn h hco hg hS hm hs hp
      · exact kdSum ih x ks hn h hco (by omega) hg hS hm hs hp
    · exact kdField ih x ks hn (fdT_k hfd) hfd hg hS hm hs hp
end Go.Proofs.YtmiicfdigkkbdaaDoor
