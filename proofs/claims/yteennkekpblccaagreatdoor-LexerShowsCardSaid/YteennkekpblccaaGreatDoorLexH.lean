/-
  The lexer's token: what it tells.
-/
import Derived.Test.YteennkekpblccaaGreatDoorLexG
namespace Go.Proofs.YteennkekpblccaaGreatDoor
open Go.RowKit

theorem decode_any (r : Nat) (l : List Nat) (ho : okl (r :: l)) (w : World) (hL : Lx w) :
    Calls Tryz.prog 27 #[.string (T (r :: l))] w fun e w' => e = .returned (.tuple #[.int .i32 (r : Int), .int .i64 ((wd r : Nat) : Int)]) ∧ Below w.heap.size w w' := by
  have he : Lib.decodeGo (T (r :: l)) = (r, wd r) := by
    have h0 := lt_T [] r l
    have hd := dc_T0 (okl_cons.1 ho).1 l
    unfold Lib.decodeGo
    rw [List.nil_append] at h0
    first
      | (rw [if_neg (by omega)]; exact hd)
      | (rw [if_pos (by omega)]; exact hd)
      | exact hd
  refine (Tryz.utf8_DecodeRuneInString (T (r :: l)) w hL.1).mono fun e w' k => ?_
  rw [he] at k
  exact k

theorem TkPost.form {l : List Nat} {r : Option (Tok × Nat)} {W w' : World} {e : Ending} (h : TkPost l r W e w') :
    ∃ (K : Int) (S : ByteArray) (M Z : Int), e = .returned (.tuple #[.agg #[.int .i64 K, .string S, .int .i64 M, .int .i64 0], .int .i64 Z]) ∧ Below W.heap.size W w' ∧
      Hid (∀ W2 w2, Below W2.heap.size W2 w2 → TkPost l r W2 (.returned (.tuple #[.agg #[.int .i64 K, .string S, .int .i64 M, .int .i64 0], .int .i64 Z])) w2) := by
  obtain ⟨h1, h2⟩ := h
  cases r with
  | none => exact ⟨0, ⟨#[]⟩, 0, 0, h1, h2, Lib.hid fun W2 w2 hb => ⟨rfl, hb⟩⟩
  | some x =>
    obtain ⟨t, n⟩ := x
    exact ⟨t.k, T t.x, t.n, _, h1, h2, Lib.hid fun W2 w2 hb => ⟨rfl, hb⟩⟩

set_option maxHeartbeats 6400000 in
set_option maxRecDepth 100000 in
theorem token_any (r : Nat) (u : List Nat) (ho : okl (r :: u)) (hsz : sz (r :: u) ≤ 100000000) (w : World) (hL : Lx w) :
    Calls Tryz.prog 31 #[.string (T (r :: u))] w (TkPost (r :: u) (tokT (r :: u)) w) := by
  have cD := fun W hL => decode_any r u ho W hL
  have cC := fun W => goodClass (r : Int) W
  have cN := fun W hL => name_any (r :: u) ho hsz W hL
  have cM := fun W hL => number_any (r :: u) ho hsz W hL
  have cS := fun W hL => sign_any (r :: u) ho W hL
  have hpo : Lib.hasPrefix (T (r :: u)).data.toList (ByteArray.mk #[40, 42]).data.toList = opens (r :: u) := opens_T ho
  have ht : tokT (r :: u) = if cls r = 1 then nameT (r :: u) else if cls r = 2 ∨ r = 126 then numT (r :: u) else if opens (r :: u) then none else signT (r :: u) := rfl
  obtain ⟨l, hl⟩ : ∃ l, r :: u = l := ⟨_, rfl⟩
  rw [hl] at cD cN cM cS hpo ht ⊢
  obtain ⟨S, hS⟩ : ∃ S, T l = S := ⟨_, rfl⟩
  rw [hS] at cD cN cM cS hpo ⊢
  obtain ⟨c, hc⟩ : ∃ c, cls (r : Int) = c := ⟨_, rfl⟩
  rw [hc] at cC ht
  obtain ⟨o, hoo⟩ : ∃ o, opens l = o := ⟨_, rfl⟩
  have cP := fun W => hasPre (hpo.trans hoo) W
  rw [hoo] at ht
  have CD := Lib.hid cD
  have CN := Lib.hid cN
  have CM := Lib.hid cM
  have CS := Lib.hid cS
  clear hl hS hc hoo hpo cD cN cM cS
  by_cases h1 : c = 1
  · subst h1
    rw [if_pos rfl] at ht
    rw [ht]
    clear ht
    go_enter Tryz.func31, Tryz.ntmps31
    go_wp2_with fail
    refine (CD.out _ (hL.below ((Below.refl _ _).alloc (Nat.le_refl _) _))).mono ?_
    rintro e w1 ⟨rfl, hb1⟩
    have hr1 := Lib.hid ((Rc.new_ w).below hb1)
    have hbb := ((Below.refl _ _).alloc (Nat.le_refl _) _).trans (hb1.mono (by simp))
    clear hb1
    go_wp2_with fail
    refine (cC _).mono ?_
    rintro e w' ⟨rfl, rfl⟩
    go_wp2_with fail
    refine (CN.out w1 (hL.below hbb)).mono ?_
    rintro e w2 hk
    obtain ⟨K, X, M, Z, rfl, hb2, HF⟩ := hk.form
    clear hk
    have HR := Lib.hid (hr1.out.below hb2)
    obtain ⟨⟨q0, q1, q2, q3⟩, f0, f1, f2, f3⟩ := HR.out.cells
    have hfin := hbb.trans (hb2.mono hbb.size)
    go_wp2
    refine bodyPost_ret (results_cell_two rfl _ _ w.heap.size _ _ (0, 0) _ rfl (Rc.four HR.out _ _ _ _) Tryz.underlying24 rfl (by kernel_rfl)) rfl ?_
    exact HF.out _ _ (below_four hfin (Nat.le_refl _) _ _ _ _)
  · have e1 : (c == 1) = false := by rw [beq_eq_false_iff_ne]; exact h1
    rw [if_neg h1] at ht
    clear h1
    by_cases h2 : c = 2
    · subst h2
      rw [if_pos (.inl rfl)] at ht
      rw [ht]
      clear ht e1
      go_enter Tryz.func31, Tryz.ntmps31
      go_wp2_with fail
      refine (CD.out _ (hL.below ((Below.refl _ _).alloc (Nat.le_refl _) _))).mono ?_
      rintro e w1 ⟨rfl, hb1⟩
      have hr1 := Lib.hid ((Rc.new_ w).below hb1)
      have hbb := ((Below.refl _ _).alloc (Nat.le_refl _) _).trans (hb1.mono (by simp))
      clear hb1
      go_wp2_with fail
      refine (cC _).mono ?_
      rintro e w' ⟨rfl, rfl⟩
      go_wp2_with fail
      refine (CM.out w1 (hL.below hbb)).mono ?_
      rintro e w2 hk
      obtain ⟨K, X, M, Z, rfl, hb2, HF⟩ := hk.form
      clear hk
      have HR := Lib.hid (hr1.out.below hb2)
      obtain ⟨⟨q0, q1, q2, q3⟩, f0, f1, f2, f3⟩ := HR.out.cells
      have hfin := hbb.trans (hb2.mono hbb.size)
      go_wp2
      refine bodyPost_ret (results_cell_two rfl _ _ w.heap.size _ _ (0, 0) _ rfl (Rc.four HR.out _ _ _ _) Tryz.underlying24 rfl (by kernel_rfl)) rfl ?_
      exact HF.out _ _ (below_four hfin (Nat.le_refl _) _ _ _ _)
    · have e2 : (c == 2) = false := by rw [beq_eq_false_iff_ne]; exact h2
      by_cases h3 : r = 126
      · rw [if_pos (.inr h3)] at ht
        rw [ht]
        have e3 : ((r : Int) == 126) = true := by rw [beq_iff_eq]; omega
        clear ht h2 h3
        go_enter Tryz.func31, Tryz.ntmps31
        go_wp2_with fail
        refine (CD.out _ (hL.below ((Below.refl _ _).alloc (Nat.le_refl _) _))).mono ?_
        rintro e w1 ⟨rfl, hb1⟩
        have hr1 := Lib.hid ((Rc.new_ w).below hb1)
        have hbb := ((Below.refl _ _).alloc (Nat.le_refl _) _).trans (hb1.mono (by simp))
        clear hb1
        go_wp2_with fail
        refine (cC _).mono ?_
        rintro e w' ⟨rfl, rfl⟩
        go_wp2_with fail
        refine (CM.out w1 (hL.below hbb)).mono ?_
        rintro e w2 hk
        obtain ⟨K, X, M, Z, rfl, hb2, HF⟩ := hk.form
        clear hk
        have HR := Lib.hid (hr1.out.below hb2)
        obtain ⟨⟨q0, q1, q2, q3⟩, f0, f1, f2, f3⟩ := HR.out.cells
        have hfin := hbb.trans (hb2.mono hbb.size)
        go_wp2
        refine bodyPost_ret (results_cell_two rfl _ _ w.heap.size _ _ (0, 0) _ rfl (Rc.four HR.out _ _ _ _) Tryz.underlying24 rfl (by kernel_rfl)) rfl ?_
        exact HF.out _ _ (below_four hfin (Nat.le_refl _) _ _ _ _)
      · rw [if_neg (fun h => h.elim h2 h3)] at ht
        have e3 : ((r : Int) == 126) = false := by rw [beq_eq_false_iff_ne]; omega
        rw [ht]
        clear ht h2 h3
        cases o
        · rw [if_neg (by simp)]
          go_enter Tryz.func31, Tryz.ntmps31
          go_wp2_with fail
          refine (CD.out _ (hL.below ((Below.refl _ _).alloc (Nat.le_refl _) _))).mono ?_
          rintro e w1 ⟨rfl, hb1⟩
          have hr1 := Lib.hid ((Rc.new_ w).below hb1)
          have hbb := ((Below.refl _ _).alloc (Nat.le_refl _) _).trans (hb1.mono (by simp))
          clear hb1
          go_wp2_with fail
          refine (cC _).mono ?_
          rintro e w' ⟨rfl, rfl⟩
          go_wp2_with fail
          refine (cP _).mono ?_
          rintro e w' ⟨rfl, rfl⟩
          go_wp2_with fail
          refine (CS.out w1 (hL.below hbb)).mono ?_
          rintro e w2 hk
          obtain ⟨K, X, M, Z, rfl, hb2, HF⟩ := hk.form
          clear hk
          have HR := Lib.hid (hr1.out.below hb2)
          obtain ⟨⟨q0, q1, q2, q3⟩, f0, f1, f2, f3⟩ := HR.out.cells
          have hfin := hbb.trans (hb2.mono hbb.size)
          go_wp2
          refine bodyPost_ret (results_cell_two rfl _ _ w.heap.size _ _ (0, 0) _ rfl (Rc.four HR.out _ _ _ _) Tryz.underlying24 rfl (by kernel_rfl)) rfl ?_
          exact HF.out _ _ (below_four hfin (Nat.le_refl _) _ _ _ _)
        · rw [if_pos rfl]
          go_enter Tryz.func31, Tryz.ntmps31
          go_wp2_with fail
          refine (CD.out _ (hL.below ((Below.refl _ _).alloc (Nat.le_refl _) _))).mono ?_
          rintro e w1 ⟨rfl, hb1⟩
          have hr1 := Lib.hid ((Rc.new_ w).below hb1)
          have hbb := ((Below.refl _ _).alloc (Nat.le_refl _) _).trans (hb1.mono (by simp))
          clear hb1
          go_wp2_with fail
          refine (cC _).mono ?_
          rintro e w' ⟨rfl, rfl⟩
          obtain ⟨⟨q0, q1, q2, q3⟩, f0, f1, f2, f3⟩ := hr1.out.cells
          go_wp2_with fail
          refine (cP _).mono ?_
          rintro e w' ⟨rfl, rfl⟩
          go_wp2
          refine bodyPost_ret (results_cell_two rfl _ _ w.heap.size _ _ (0, 0) _ rfl (Rc.four hr1.out _ _ _ _) Tryz.underlying24 rfl (by kernel_rfl)) rfl ?_
          exact tk_none rfl (below_four hbb (Nat.le_refl _) _ _ _ _)
end Go.Proofs.YteennkekpblccaaGreatDoor
