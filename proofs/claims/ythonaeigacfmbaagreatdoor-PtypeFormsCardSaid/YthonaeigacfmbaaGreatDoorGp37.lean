/-
  The document's atom: one step (written by gty.py).
-/
import Derived.Test.YthonaeigacfmbaaGreatDoorGp20
namespace Go.Proofs.YthonaeigacfmbaaGreatDoor
open Go.RowKit

def RcV (R : Rs Fr) (w w' : World) (v : Value) (j e : Int) : Prop := match R with
  | .inl (f, q) => (∃ g c, v = .slice (some ⟨g, 0, none⟩) f.len c ∧ f.len ≤ c ∧ NewS w w' g ∧ 0 < f.len ∧ InF w' (NewS w w') f g 0) ∧ j = (q : Int) ∧ e = 0
  | .inr (p, r) => j = (p : Int) ∧ e = r ∧ v = .slice none 0 0
def RcPost (R : Rs Fr) (w : World) (e : Ending) (w' : World) : Prop := ∃ v j er, e = .returned (.tuple #[v, .int .i64 j, .int .i64 er]) ∧ RcV R w w' v j er ∧ Up w w'
theorem leaf_new (k : Int) (s : ByteArray) {W w : World} (h : W.heap.size ≤ w.heap.size) : NewT W (w.alloc (.cells #[.int .i64 k, .int .i64 0, .string s, .string ⟨#[]⟩, .slice none 0 0] 66)) (.pointer (some ⟨w.heap.size, 0, none⟩)) (nd k s .nil) :=
  leaf_has (x := ⟨k, 0, s, nob⟩) (heap_alloc_new w _) ⟨h, heap_lt (heap_alloc_new w _)⟩
theorem row_new {W a w : World} {f : Fr} {g : Nat} (h : W.heap.size ≤ a.heap.size) {b : World} (u : Up b w) (hg : NewS a b g) (hf : InF b (NewS a b) f g 0) : NewS W w g ∧ InF w (NewS W w) f g 0 :=
  ⟨⟨Nat.le_trans h hg.1, Nat.lt_of_lt_of_le hg.2 u.size⟩, InF.keep (fun _ hq => ⟨Nat.le_trans h hq.1, Nat.lt_of_lt_of_le hq.2 u.size⟩) (fun q hq => Below.block u q hq.2) hg hf⟩
theorem mu_new {s : ByteArray} {W w : World} {f : Fr} {g n c : Nat} (hW : W.heap.size ≤ w.heap.size) (h1 : f.len = n) (h2 : n ≤ c) (hg : NewS W w g ∧ InF w (NewS W w) f g 0) :
    NewT W (w.alloc (.cells #[.int .i64 7, .int .i64 0, .string s, .string ⟨#[]⟩, .slice (some ⟨g, 0, none⟩) n c] 66)) (.pointer (some ⟨w.heap.size, 0, none⟩)) (nd 7 s f) := by
  have u : Up w (w.alloc (.cells #[.int .i64 7, .int .i64 0, .string s, .string ⟨#[]⟩, .slice (some ⟨g, 0, none⟩) n c] 66)) := (Up.refl w).alloc _
  obtain ⟨h3, h4⟩ := row_new (Nat.le_refl _) u hg.1 hg.2
  exact node_has (x := ⟨7, 0, s, nob⟩) (heap_alloc_new w _) h1 h2 ⟨hW, heap_lt (heap_alloc_new w _)⟩ h3 h4
theorem keyZ_nat (l : List Tk) (i : Nat) (x : ByteArray) : keyZ l (i : Int) x = key l i x := by unfold keyZ; rw [decide_eq_true (by omega), Int.toNat_natCast, Bool.true_and]
theorem keyZ_two (l : List Tk) (i : Nat) (x : ByteArray) : keyZ l ((i : Int) + 2) x = key l (i + 2) x := by rw [show (i : Int) + 2 = ((i + 2 : Nat) : Int) by omega, keyZ_nat]
theorem namZ_nat (p : ByteArray → Bool) (l : List Tk) (i : Nat) : namZ p l (i : Int) = nam p l i := by unfold namZ; rw [if_pos (by omega), Int.toNat_natCast]
theorem namZ_one (p : ByteArray → Bool) (l : List Tk) (i : Nat) : namZ p l ((i : Int) + 1) = nam p l (i + 1) := by rw [show (i : Int) + 1 = ((i + 1 : Nat) : Int) by omega, namZ_nat]
set_option maxHeartbeats 12800000 in
set_option maxRecDepth 100000 in
theorem ref_atom (l : List Tk) (i : Nat) (hi : i ≤ l.length) (hl : l.length ≤ 1000000) (hz : ∀ t ∈ l, t.s.size ≤ 1000000000) (w : World) (v : Value) (hv : Tkm w v l)
    (cT : ∀ j, i < j → j ≤ l.length → ∀ w', Up w w' → Calls Tryz.prog 49 #[v, .int .i64 (j : Int)] w' (RsPost (typL B.nck B.long l j) w'))
    (cC : ∀ j, i < j → j ≤ l.length → ∀ w', Up w w' → Calls Tryz.prog 53 #[v, .int .i64 (j : Int)] w' (RcPost (consL B.nck B.long l j .nil) w')) :
    Calls Tryz.prog 165 #[v, .int .i64 (i : Int)] w (RsPost (atomL B.nck B.long l i) w) := by
  have HV := Lib.hid hv
  have HT := Lib.hid cT
  have HCC := Lib.hid cC
  have cL : ∀ W, Up w W → Calls Tryz.prog 23 #[v, .int .i64 (i : Int)] W (NaP (nam B.long l i) W) := fun W u => by rw [← namZ_nat]; exact refLongT l i W v (hv.up u) hz
  have cN : ∀ W, Up w W → Calls Tryz.prog 21 #[v, .int .i64 ((i : Int) + 1)] W (NaP (nam B.nck l (i + 1)) W) := fun W u => by rw [← namZ_one]; exact refName l _ W v (hv.up u) hz
  have cK : ∀ (x : ByteArray) W, Up w W → Calls Tryz.prog 27 #[v, .int .i64 (i : Int), .string x] W (BoU (key l i x) W) := fun x W u => by rw [← keyZ_nat]; exact refKey l i x W v (hv.up u)
  have k2 : ∀ W, Up w W → Calls Tryz.prog 27 #[v, .int .i64 ((i : Int) + 2), .string kLeft] W (BoU (key l (i + 2) kLeft) W) := fun W u => by rw [← keyZ_two]; exact refKey l _ _ W v (hv.up u)
  have cQ : ∀ (q : Nat) (x : ByteArray) W, Up w W → Calls Tryz.prog 27 #[v, .int .i64 (q : Int), .string x] W (BoU (key l q x) W) := fun q x W u => by rw [← keyZ_nat]; exact refKey l q x W v (hv.up u)
  have kint := cK kInt
  have kbool := cK kBool
  have kunit := cK kUnit
  have kopen := cK kOpen
  have kmu := cK kMu
  have HQ := Lib.hid cQ
  clear hv cT cC cK cQ hz
  cases hL : nam B.long l i with
  | some s =>
    rw [hL] at cL
    have HE : Hid (atomL B.nck B.long l i = .inl (nd 4 s .nil, i + 1)) := Lib.hid (by rw [atomL_eq]; unfold atomS; rw [hL])
    rw [HE.out]
    clear HE hL cN k2 kint kbool kunit kopen kmu HQ
    go_enter Tryz.func165, Tryz.ntmps165
    go_wp2_with fail
    refine (cL w (Up.refl w)).mono ?_
    rintro e w1 ⟨rfl, u1⟩
    have U1 : Up w w1 := u1
    go_wp2_with fail
    refine (refNode 4 s _ _ _ _).mono ?_
    rintro e w9 ⟨rfl, rfl⟩
    go_wp2_with fail
    go_ret3
    exact ⟨_, _, _, rfl, ⟨leaf_new 4 s U1.size, by omega, rfl⟩, U1.alloc _⟩
  | none =>
    rw [hL] at cL
    cases hint : key l i kInt with
    | true =>
      rw [hint] at kint
      have HE : Hid (atomL B.nck B.long l i = .inl (nd 1 nob .nil, i + 1)) := Lib.hid (by rw [atomL_eq]; unfold atomS; rw [hL]; simp only [hint, if_true])
      rw [HE.out]
      clear HE
      clear hL hint cN k2 HQ HT HCC
      go_enter Tryz.func165, Tryz.ntmps165
      go_wp2_with fail
      refine (cL w (Up.refl w)).mono ?_
      rintro e w1 ⟨rfl, u1⟩
      have U1 : Up w w1 := u1
      go_wp2_with fail
      refine (kint w1 U1).mono ?_
      rintro e w2 ⟨rfl, u2⟩
      have U2 : Up w w2 := Up.trans U1 u2
      go_wp2_with fail
      refine (refNode 1 nob _ _ _ _).mono ?_
      rintro e w9 ⟨rfl, rfl⟩
      go_wp2_with fail
      go_ret3
      exact ⟨_, _, _, rfl, ⟨leaf_new 1 nob U2.size, by omega, rfl⟩, U2.alloc _⟩
    | false =>
      rw [hint] at kint
      cases hbool : key l i kBool with
      | true =>
        rw [hbool] at kbool
        have HE : Hid (atomL B.nck B.long l i = .inl (nd 2 nob .nil, i + 1)) := Lib.hid (by rw [atomL_eq]; unfold atomS; rw [hL]; simp only [hint, hbool, if_true, if_false, Bool.false_eq_true])
        rw [HE.out]
        clear HE
        clear hL hint hbool cN k2 HQ HT HCC
        go_enter Tryz.func165, Tryz.ntmps165
        go_wp2_with fail
        refine (cL w (Up.refl w)).mono ?_
        rintro e w1 ⟨rfl, u1⟩
        have U1 : Up w w1 := u1
        go_wp2_with fail
        refine (kint w1 U1).mono ?_
        rintro e w2 ⟨rfl, u2⟩
        have U2 : Up w w2 := Up.trans U1 u2
        go_wp2_with fail
        refine (kbool w2 U2).mono ?_
        rintro e w3 ⟨rfl, u3⟩
        have U3 : Up w w3 := Up.trans U2 u3
        go_wp2_with fail
        refine (refNode 2 nob _ _ _ _).mono ?_
        rintro e w9 ⟨rfl, rfl⟩
        go_wp2_with fail
        go_ret3
        exact ⟨_, _, _, rfl, ⟨leaf_new 2 nob U3.size, by omega, rfl⟩, U3.alloc _⟩
      | false =>
        rw [hbool] at kbool
        cases hunit : key l i kUnit with
        | true =>
          rw [hunit] at kunit
          have HE : Hid (atomL B.nck B.long l i = .inl (nd 3 nob .nil, i + 1)) := Lib.hid (by rw [atomL_eq]; unfold atomS; rw [hL]; simp only [hint, hbool, hunit, if_true, if_false, Bool.false_eq_true])
          rw [HE.out]
          clear HE
          clear hL hint hbool hunit cN k2 HQ HT HCC
          go_enter Tryz.func165, Tryz.ntmps165
          go_wp2_with fail
          refine (cL w (Up.refl w)).mono ?_
          rintro e w1 ⟨rfl, u1⟩
          have U1 : Up w w1 := u1
          go_wp2_with fail
          refine (kint w1 U1).mono ?_
          rintro e w2 ⟨rfl, u2⟩
          have U2 : Up w w2 := Up.trans U1 u2
          go_wp2_with fail
          refine (kbool w2 U2).mono ?_
          rintro e w3 ⟨rfl, u3⟩
          have U3 : Up w w3 := Up.trans U2 u3
          go_wp2_with fail
          refine (kunit w3 U3).mono ?_
          rintro e w4 ⟨rfl, u4⟩
          have U4 : Up w w4 := Up.trans U3 u4
          go_wp2_with fail
          refine (refNode 3 nob _ _ _ _).mono ?_
          rintro e w9 ⟨rfl, rfl⟩
          go_wp2_with fail
          go_ret3
          exact ⟨_, _, _, rfl, ⟨leaf_new 3 nob U4.size, by omega, rfl⟩, U4.alloc _⟩
        | false =>
          rw [hunit] at kunit
          cases hopen : key l i kOpen with
          | true =>
            rw [hopen] at kopen
            have hlt := key_lt hopen
            have cT1 := HT.out (i + 1) (by omega) (by omega)
            cases hT : typL B.nck B.long l (i + 1) with
            | inr e =>
              obtain ⟨p, er⟩ := e
              have hle := typL_le (nk := B.nck) (lg := B.long) l (i + 1) (by omega)
              rw [hT] at hle cT1
              have hne : ¬ er = 0 := hle.2 p er rfl
              have hpl : p ≤ l.length := hle.1
              have HE : Hid (atomL B.nck B.long l i = .inr (p, er)) := Lib.hid (by rw [atomL_eq]; unfold atomS; rw [hL]; simp only [hint, hbool, hunit, hopen, hT, if_true, if_false, Bool.false_eq_true])
              rw [HE.out]
              clear HE
              clear hL hint hbool hunit hopen hT cN k2 HQ HT HCC hle
              go_enter Tryz.func165, Tryz.ntmps165
              go_wp2_with fail
              refine (cL w (Up.refl w)).mono ?_
              rintro e w1 ⟨rfl, u1⟩
              have U1 : Up w w1 := u1
              go_wp2_with fail
              refine (kint w1 U1).mono ?_
              rintro e w2 ⟨rfl, u2⟩
              have U2 : Up w w2 := Up.trans U1 u2
              go_wp2_with fail
              refine (kbool w2 U2).mono ?_
              rintro e w3 ⟨rfl, u3⟩
              have U3 : Up w w3 := Up.trans U2 u3
              go_wp2_with fail
              refine (kunit w3 U3).mono ?_
              rintro e w4 ⟨rfl, u4⟩
              have U4 : Up w w4 := Up.trans U3 u4
              go_wp2_with fail
              refine (kopen w4 U4).mono ?_
              rintro e w5 ⟨rfl, u5⟩
              have U5 : Up w w5 := Up.trans U4 u5
              go_wp2_with fail
              refine (cT1 w5 U5).mono ?_
              rintro e w6 ⟨va, ja, ea, rfl, ⟨rfl, rfl, A1, rfl⟩, u6⟩
              have U6 : Up w w6 := Up.trans U5 u6
              go_wp2_with fail
              go_ret3
              exact ⟨_, _, _, rfl, ⟨by omega, rfl, _, rfl⟩, U6⟩
            | inl r =>
              obtain ⟨t, q⟩ := r
              have hle := typL_le (nk := B.nck) (lg := B.long) l (i + 1) (by omega)
              rw [hT] at hle cT1
              have hql : q ≤ l.length := hle.1
              have kshut := HQ.out q kShut
              cases hs : key l q kShut with
              | false =>
                rw [hs] at kshut
                have HE : Hid (atomL B.nck B.long l i = .inr (q, 6)) := Lib.hid (by rw [atomL_eq]; unfold atomS; rw [hL]; simp only [hint, hbool, hunit, hopen, hT, hs, if_true, if_false, Bool.false_eq_true])
                rw [HE.out]
                clear HE
                clear hL hint hbool hunit hopen hT hs cN k2 HQ HT HCC hle
                go_enter Tryz.func165, Tryz.ntmps165
                go_wp2_with fail
                refine (cL w (Up.refl w)).mono ?_
                rintro e w1 ⟨rfl, u1⟩
                have U1 : Up w w1 := u1
                go_wp2_with fail
                refine (kint w1 U1).mono ?_
                rintro e w2 ⟨rfl, u2⟩
                have U2 : Up w w2 := Up.trans U1 u2
                go_wp2_with fail
                refine (kbool w2 U2).mono ?_
                rintro e w3 ⟨rfl, u3⟩
                have U3 : Up w w3 := Up.trans U2 u3
                go_wp2_with fail
                refine (kunit w3 U3).mono ?_
                rintro e w4 ⟨rfl, u4⟩
                have U4 : Up w w4 := Up.trans U3 u4
                go_wp2_with fail
                refine (kopen w4 U4).mono ?_
                rintro e w5 ⟨rfl, u5⟩
                have U5 : Up w w5 := Up.trans U4 u5
                go_wp2_with fail
                refine (cT1 w5 U5).mono ?_
                rintro e w6 ⟨va, ja, ea, rfl, ⟨ht, rfl, rfl⟩, u6⟩
                have U6 : Up w w6 := Up.trans U5 u6
                go_wp2_with fail
                refine (kshut w6 U6).mono ?_
                rintro e w7 ⟨rfl, u7⟩
                have U7 : Up w w7 := Up.trans U6 u7
                go_wp2_with fail
                go_ret3
                exact ⟨_, _, _, rfl, ⟨by omega, rfl, _, rfl⟩, U7⟩
              | true =>
                rw [hs] at kshut
                have HE : Hid (atomL B.nck B.long l i = .inl (t, q + 1)) := Lib.hid (by rw [atomL_eq]; unfold atomS; rw [hL]; simp only [hint, hbool, hunit, hopen, hT, hs, if_true, if_false, Bool.false_eq_true])
                rw [HE.out]
                clear HE
                clear hL hint hbool hunit hopen hT hs cN k2 HQ HT HCC hle
                go_enter Tryz.func165, Tryz.ntmps165
                go_wp2_with fail
                refine (cL w (Up.refl w)).mono ?_
                rintro e w1 ⟨rfl, u1⟩
                have U1 : Up w w1 := u1
                go_wp2_with fail
                refine (kint w1 U1).mono ?_
                rintro e w2 ⟨rfl, u2⟩
                have U2 : Up w w2 := Up.trans U1 u2
                go_wp2_with fail
                refine (kbool w2 U2).mono ?_
                rintro e w3 ⟨rfl, u3⟩
                have U3 : Up w w3 := Up.trans U2 u3
                go_wp2_with fail
                refine (kunit w3 U3).mono ?_
                rintro e w4 ⟨rfl, u4⟩
                have U4 : Up w w4 := Up.trans U3 u4
                go_wp2_with fail
                refine (kopen w4 U4).mono ?_
                rintro e w5 ⟨rfl, u5⟩
                have U5 : Up w w5 := Up.trans U4 u5
                go_wp2_with fail
                refine (cT1 w5 U5).mono ?_
                rintro e w6 ⟨va, ja, ea, rfl, ⟨ht, rfl, rfl⟩, u6⟩
                have U6 : Up w w6 := Up.trans U5 u6
                go_wp2_with fail
                refine (kshut w6 U6).mono ?_
                rintro e w7 ⟨rfl, u7⟩
                have U7 : Up w w7 := Up.trans U6 u7
                go_wp2_with fail
                go_ret3
                exact ⟨_, _, _, rfl, ⟨(ht.base U5.size).up u7, by omega, rfl⟩, U7⟩
          | false =>
            rw [hopen] at kopen
            cases hmu : key l i kMu with
            | true =>
              rw [hmu] at kmu
              have hlt := key_lt hmu
              cases hN : nam B.nck l (i + 1) with
              | none =>
                rw [hN] at cN
                have HE : Hid (atomL B.nck B.long l i = .inr (i + 1, 6)) := Lib.hid (by rw [atomL_eq]; unfold atomS; rw [hL]; simp only [hint, hbool, hunit, hopen, hmu, hN, if_true, if_false, Bool.false_eq_true])
                rw [HE.out]
                clear HE
                clear hL hint hbool hunit hopen hmu hN k2 HQ HT HCC
                go_enter Tryz.func165, Tryz.ntmps165
                go_wp2_with fail
                refine (cL w (Up.refl w)).mono ?_
                rintro e w1 ⟨rfl, u1⟩
                have U1 : Up w w1 := u1
                go_wp2_with fail
                refine (kint w1 U1).mono ?_
                rintro e w2 ⟨rfl, u2⟩
                have U2 : Up w w2 := Up.trans U1 u2
                go_wp2_with fail
                refine (kbool w2 U2).mono ?_
                rintro e w3 ⟨rfl, u3⟩
                have U3 : Up w w3 := Up.trans U2 u3
                go_wp2_with fail
                refine (kunit w3 U3).mono ?_
                rintro e w4 ⟨rfl, u4⟩
                have U4 : Up w w4 := Up.trans U3 u4
                go_wp2_with fail
                refine (kopen w4 U4).mono ?_
                rintro e w5 ⟨rfl, u5⟩
                have U5 : Up w w5 := Up.trans U4 u5
                go_wp2_with fail
                refine (kmu w5 U5).mono ?_
                rintro e w6 ⟨rfl, u6⟩
                have U6 : Up w w6 := Up.trans U5 u6
                go_wp2_with fail
                refine (cN w6 U6).mono ?_
                rintro e w7 ⟨rfl, u7⟩
                have U7 : Up w w7 := Up.trans U6 u7
                go_wp2_with fail
                go_ret3
                exact ⟨_, _, _, rfl, ⟨by omega, rfl, _, rfl⟩, U7⟩
              | some s =>
                rw [hN] at cN
                cases hF : key l (i + 2) kLeft with
                | false =>
                  rw [hF] at k2
                  have HE : Hid (atomL B.nck B.long l i = .inr (i + 2, 6)) := Lib.hid (by rw [atomL_eq]; unfold atomS; rw [hL]; simp only [hint, hbool, hunit, hopen, hmu, hN, hF, if_true, if_false, Bool.false_eq_true])
                  rw [HE.out]
                  clear HE
                  clear hL hint hbool hunit hopen hmu hN hF HQ HT HCC
                  go_enter Tryz.func165, Tryz.ntmps165
                  go_wp2_with fail
                  refine (cL w (Up.refl w)).mono ?_
                  rintro e w1 ⟨rfl, u1⟩
                  have U1 : Up w w1 := u1
                  go_wp2_with fail
                  refine (kint w1 U1).mono ?_
                  rintro e w2 ⟨rfl, u2⟩
                  have U2 : Up w w2 := Up.trans U1 u2
                  go_wp2_with fail
                  refine (kbool w2 U2).mono ?_
                  rintro e w3 ⟨rfl, u3⟩
                  have U3 : Up w w3 := Up.trans U2 u3
                  go_wp2_with fail
                  refine (kunit w3 U3).mono ?_
                  rintro e w4 ⟨rfl, u4⟩
                  have U4 : Up w w4 := Up.trans U3 u4
                  go_wp2_with fail
                  refine (kopen w4 U4).mono ?_
                  rintro e w5 ⟨rfl, u5⟩
                  have U5 : Up w w5 := Up.trans U4 u5
                  go_wp2_with fail
                  refine (kmu w5 U5).mono ?_
                  rintro e w6 ⟨rfl, u6⟩
                  have U6 : Up w w6 := Up.trans U5 u6
                  go_wp2_with fail
                  refine (cN w6 U6).mono ?_
                  rintro e w7 ⟨rfl, u7⟩
                  have U7 : Up w w7 := Up.trans U6 u7
                  go_wp2_with fail
                  refine (k2 w7 U7).mono ?_
                  rintro e w8 ⟨rfl, u8⟩
                  have U8 : Up w w8 := Up.trans U7 u8
                  go_wp2_with fail
                  go_ret3
                  exact ⟨_, _, _, rfl, ⟨by omega, rfl, _, rfl⟩, U8⟩
                | true =>
                  rw [hF] at k2
                  have hlt2 := key_lt hF
                  have cC1 := HCC.out (i + 3) (by omega) (by omega)
                  have hle := consL_le (nk := B.nck) (lg := B.long) l (i + 3) .nil (by omega)
                  cases hC : consL B.nck B.long l (i + 3) .nil with
                  | inr e =>
                    obtain ⟨p, er⟩ := e
                    rw [hC] at hle cC1
                    have hne : ¬ er = 0 := hle.2 p er rfl
                    have hpl : p ≤ l.length := hle.1
                    have HE : Hid (atomL B.nck B.long l i = .inr (p, er)) := Lib.hid (by rw [atomL_eq]; unfold atomS; rw [hL]; simp only [hint, hbool, hunit, hopen, hmu, hN, hF, hC, if_true, if_false, Bool.false_eq_true])
                    rw [HE.out]
                    clear HE
                    clear hL hint hbool hunit hopen hmu hN hF hC HQ HT HCC hle
                    go_enter Tryz.func165, Tryz.ntmps165
                    go_wp2_with fail
                    refine (cL w (Up.refl w)).mono ?_
                    rintro e w1 ⟨rfl, u1⟩
                    have U1 : Up w w1 := u1
                    go_wp2_with fail
                    refine (kint w1 U1).mono ?_
                    rintro e w2 ⟨rfl, u2⟩
                    have U2 : Up w w2 := Up.trans U1 u2
                    go_wp2_with fail
                    refine (kbool w2 U2).mono ?_
                    rintro e w3 ⟨rfl, u3⟩
                    have U3 : Up w w3 := Up.trans U2 u3
                    go_wp2_with fail
                    refine (kunit w3 U3).mono ?_
                    rintro e w4 ⟨rfl, u4⟩
                    have U4 : Up w w4 := Up.trans U3 u4
                    go_wp2_with fail
                    refine (kopen w4 U4).mono ?_
                    rintro e w5 ⟨rfl, u5⟩
                    have U5 : Up w w5 := Up.trans U4 u5
                    go_wp2_with fail
                    refine (kmu w5 U5).mono ?_
                    rintro e w6 ⟨rfl, u6⟩
                    have U6 : Up w w6 := Up.trans U5 u6
                    go_wp2_with fail
                    refine (cN w6 U6).mono ?_
                    rintro e w7 ⟨rfl, u7⟩
                    have U7 : Up w w7 := Up.trans U6 u7
                    go_wp2_with fail
                    refine (k2 w7 U7).mono ?_
                    rintro e w8 ⟨rfl, u8⟩
                    have U8 : Up w w8 := Up.trans U7 u8
                    go_wp2_with fail
                    refine (cC1 w8 U8).mono ?_
                    rintro e w9 ⟨va, ja, ea, rfl, ⟨rfl, rfl, rfl⟩, u9⟩
                    have U9 : Up w w9 := Up.trans U8 u9
                    go_wp2_with fail
                    go_ret3
                    exact ⟨_, _, _, rfl, ⟨by omega, rfl, _, rfl⟩, U9⟩
                  | inl r =>
                    obtain ⟨cs, q⟩ := r
                    rw [hC] at hle cC1
                    have hql : q ≤ l.length := hle.1
                    have kright := HQ.out q kRight
                    cases hr : key l q kRight with
                    | false =>
                      rw [hr] at kright
                      have HE : Hid (atomL B.nck B.long l i = .inr (q, 6)) := Lib.hid (by rw [atomL_eq]; unfold atomS; rw [hL]; simp only [hint, hbool, hunit, hopen, hmu, hN, hF, hC, hr, if_true, if_false, Bool.false_eq_true])
                      rw [HE.out]
                      clear HE
                      clear hL hint hbool hunit hopen hmu hN hF hC hr HQ HT HCC hle
                      go_enter Tryz.func165, Tryz.ntmps165
                      go_wp2_with fail
                      refine (cL w (Up.refl w)).mono ?_
                      rintro e w1 ⟨rfl, u1⟩
                      have U1 : Up w w1 := u1
                      go_wp2_with fail
                      refine (kint w1 U1).mono ?_
                      rintro e w2 ⟨rfl, u2⟩
                      have U2 : Up w w2 := Up.trans U1 u2
                      go_wp2_with fail
                      refine (kbool w2 U2).mono ?_
                      rintro e w3 ⟨rfl, u3⟩
                      have U3 : Up w w3 := Up.trans U2 u3
                      go_wp2_with fail
                      refine (kunit w3 U3).mono ?_
                      rintro e w4 ⟨rfl, u4⟩
                      have U4 : Up w w4 := Up.trans U3 u4
                      go_wp2_with fail
                      refine (kopen w4 U4).mono ?_
                      rintro e w5 ⟨rfl, u5⟩
                      have U5 : Up w w5 := Up.trans U4 u5
                      go_wp2_with fail
                      refine (kmu w5 U5).mono ?_
                      rintro e w6 ⟨rfl, u6⟩
                      have U6 : Up w w6 := Up.trans U5 u6
                      go_wp2_with fail
                      refine (cN w6 U6).mono ?_
                      rintro e w7 ⟨rfl, u7⟩
                      have U7 : Up w w7 := Up.trans U6 u7
                      go_wp2_with fail
                      refine (k2 w7 U7).mono ?_
                      rintro e w8 ⟨rfl, u8⟩
                      have U8 : Up w w8 := Up.trans U7 u8
                      go_wp2_with fail
                      refine (cC1 w8 U8).mono ?_
                      rintro e w9 ⟨va, ja, ea, rfl, ⟨⟨g, c, rfl, hcl, hgl, h0, hcs⟩, rfl, rfl⟩, u9⟩
                      have U9 : Up w w9 := Up.trans U8 u9
                      go_wp2_with fail
                      refine (kright w9 U9).mono ?_
                      rintro e w10 ⟨rfl, u10⟩
                      have U10 : Up w w10 := Up.trans U9 u10
                      go_wp2_with fail
                      go_ret3
                      exact ⟨_, _, _, rfl, ⟨by omega, rfl, _, rfl⟩, U10⟩
                    | true =>
                      rw [hr] at kright
                      have HE : Hid (atomL B.nck B.long l i = .inl (nd 7 s cs, q + 1)) := Lib.hid (by rw [atomL_eq]; unfold atomS; rw [hL]; simp only [hint, hbool, hunit, hopen, hmu, hN, hF, hC, hr, if_true, if_false, Bool.false_eq_true])
                      rw [HE.out]
                      clear HE
                      clear hL hint hbool hunit hopen hmu hN hF hC hr HQ HT HCC hle
                      go_enter Tryz.func165, Tryz.ntmps165
                      go_wp2_with fail
                      refine (cL w (Up.refl w)).mono ?_
                      rintro e w1 ⟨rfl, u1⟩
                      have U1 : Up w w1 := u1
                      go_wp2_with fail
                      refine (kint w1 U1).mono ?_
                      rintro e w2 ⟨rfl, u2⟩
                      have U2 : Up w w2 := Up.trans U1 u2
                      go_wp2_with fail
                      refine (kbool w2 U2).mono ?_
                      rintro e w3 ⟨rfl, u3⟩
                      have U3 : Up w w3 := Up.trans U2 u3
                      go_wp2_with fail
                      refine (kunit w3 U3).mono ?_
                      rintro e w4 ⟨rfl, u4⟩
                      have U4 : Up w w4 := Up.trans U3 u4
                      go_wp2_with fail
                      refine (kopen w4 U4).mono ?_
                      rintro e w5 ⟨rfl, u5⟩
                      have U5 : Up w w5 := Up.trans U4 u5
                      go_wp2_with fail
                      refine (kmu w5 U5).mono ?_
                      rintro e w6 ⟨rfl, u6⟩
                      have U6 : Up w w6 := Up.trans U5 u6
                      go_wp2_with fail
                      refine (cN w6 U6).mono ?_
                      rintro e w7 ⟨rfl, u7⟩
                      have U7 : Up w w7 := Up.trans U6 u7
                      go_wp2_with fail
                      refine (k2 w7 U7).mono ?_
                      rintro e w8 ⟨rfl, u8⟩
                      have U8 : Up w w8 := Up.trans U7 u8
                      go_wp2_with fail
                      refine (cC1 w8 U8).mono ?_
                      rintro e w9 ⟨va, ja, ea, rfl, ⟨⟨g, c, rfl, hcl, hgl, h0, hcs⟩, rfl, rfl⟩, u9⟩
                      have U9 : Up w w9 := Up.trans U8 u9
                      go_wp2_with fail
                      refine (kright w9 U9).mono ?_
                      rintro e w10 ⟨rfl, u10⟩
                      have U10 : Up w w10 := Up.trans U9 u10
                      go_wp2_with fail
                      have hcs2 := row_new U8.size u10 hgl hcs
                      refine (refNode 7 s _ _ _ _).mono ?_
                      rintro e w9 ⟨rfl, rfl⟩
                      go_wp2_with fail
                      go_ret3
                      exact ⟨_, _, _, rfl, ⟨mu_new U10.size rfl hcl hcs2, by omega, rfl⟩, U10.alloc _⟩
            | false =>
              rw [hmu] at kmu
              have HE : Hid (atomL B.nck B.long l i = .inr (i, 6)) := Lib.hid (by rw [atomL_eq]; unfold atomS; rw [hL]; simp only [hint, hbool, hunit, hopen, hmu, if_false, Bool.false_eq_true])
              rw [HE.out]
              clear HE
              clear hL hint hbool hunit hopen hmu cN k2 HQ HT HCC
              go_enter Tryz.func165, Tryz.ntmps165
              go_wp2_with fail
              refine (cL w (Up.refl w)).mono ?_
              rintro e w1 ⟨rfl, u1⟩
              have U1 : Up w w1 := u1
              go_wp2_with fail
              refine (kint w1 U1).mono ?_
              rintro e w2 ⟨rfl, u2⟩
              have U2 : Up w w2 := Up.trans U1 u2
              go_wp2_with fail
              refine (kbool w2 U2).mono ?_
              rintro e w3 ⟨rfl, u3⟩
              have U3 : Up w w3 := Up.trans U2 u3
              go_wp2_with fail
              refine (kunit w3 U3).mono ?_
              rintro e w4 ⟨rfl, u4⟩
              have U4 : Up w w4 := Up.trans U3 u4
              go_wp2_with fail
              refine (kopen w4 U4).mono ?_
              rintro e w5 ⟨rfl, u5⟩
              have U5 : Up w w5 := Up.trans U4 u5
              go_wp2_with fail
              refine (kmu w5 U5).mono ?_
              rintro e w6 ⟨rfl, u6⟩
              have U6 : Up w w6 := Up.trans U5 u6
              go_wp2_with fail
              go_ret3
              exact ⟨_, _, _, rfl, ⟨by omega, rfl, _, rfl⟩, U6⟩
end Go.Proofs.YthonaeigacfmbaaGreatDoor
