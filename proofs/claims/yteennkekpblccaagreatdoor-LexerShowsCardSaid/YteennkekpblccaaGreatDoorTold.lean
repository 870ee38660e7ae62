/-
  The lexer's told and Show: what they tell.
-/
import Derived.Test.YteennkekpblccaaGreatDoorTok
import Derived.Test.YteennkekpblccaaGreatDoorPlc
namespace Go.Proofs.YteennkekpblccaaGreatDoor
open Go.RowKit

/-- Is it a token that Lex tells? -/
def toldB (K : Int) (X : ByteArray) (M : Int) : Bool := match (lexR X).1 with | [(t, q)] => decide (t.k = K ∧ T t.x = X ∧ t.n = M ∧ q = 0) | _ => false
theorem told_one {K : Int} {X : ByteArray} {M : Int} {t : Tok} {q : Nat} (h : (lexR X).1 = [(t, q)]) {b : Bool} (hb : b = decide (t.k = K ∧ T t.x = X ∧ t.n = M ∧ q = 0)) : toldB K X M = b := by
  unfold toldB; rw [h, hb]
theorem told_len {K : Int} {X : ByteArray} {M : Int} (h : (lexR X).1.length ≠ 1) : toldB K X M = false := by
  unfold toldB
  split
  · rename_i e; rw [e] at h; exact absurd rfl h
  · rfl
theorem nmp_ret {b c : Bool} {W w' : World} (h : c = b) (hb : Below W.heap.size W w') : NmPost c W (.returned (.bool b)) w' := ⟨by rw [h], hb⟩

set_option maxHeartbeats 6400000 in
set_option maxRecDepth 100000 in
theorem told_any (K : Int) (X : ByteArray) (M P : Int) (hX : X.size ≤ 1000000000) (w : World) (hL : Lx w) :
    Calls Tryz.prog 9 #[.agg #[.int .i64 K, .string X, .int .i64 M, .int .i64 P]] w (NmPost (toldB K X M) w) := by
  have c1 := fun W hL => lex_any X hX W hL
  obtain ⟨toks, a, b, hr⟩ : ∃ toks a b, lexR X = (toks, a, b) := ⟨_, _, _, rfl⟩
  have hr1 : (lexR X).1 = toks := by rw [hr]
  rw [hr] at c1
  have C1 := Lib.hid c1
  clear c1 hr
  have hba : Below w.heap.size w (w.alloc (.cells #[.int .i64 K, .string X, .int .i64 M, .int .i64 0] 24)) := (Below.refl _ _).alloc (Nat.le_refl _) _
  by_cases hlen : toks.length = 1
  · obtain ⟨⟨tk, q⟩, rfl⟩ : ∃ x, toks = [x] := by
      cases toks with
      | nil => simp at hlen
      | cons x r => cases r with
        | nil => exact ⟨x, rfl⟩
        | cons y z => simp at hlen
    have HONE : Hid (∀ b, b = decide (tk.k = K ∧ T tk.x = X ∧ tk.n = M ∧ q = 0) → toldB K X M = b) := Lib.hid fun b hb => told_one hr1 hb
    clear hr1 hlen
    obtain ⟨ANS, hans⟩ : ∃ b, toldB K X M = b := ⟨_, rfl⟩
    rw [hans] at HONE ⊢
    clear hans
    go_enter Tryz.func9, Tryz.ntmps9
    go_wp2_with fail
    refine (C1.out _ (hL.below hba)).mono ?_
    rintro e w1 ⟨v, rfl, ht, hb1⟩
    obtain ⟨⟨r0, r1, r2, r3⟩, _⟩ := ((Rc.newc w #[.int .i64 K, .string X, .int .i64 M, .int .i64 0]).below hb1).cells
    have hfin := hba.trans (hb1.mono hba.size)
    obtain ⟨A, c, rfl⟩ := ht.form
    dsimp only at ht
    obtain ⟨ad, rfl, _, hat⟩ := ht.at_ (k := 0) rfl
    have e0 : ad.add (0 * 4) = ad := by simp [Addr.add]
    rw [e0] at hat
    dsimp only at hat
    dsimp only
    clear ht e0 hb1
    obtain ⟨K', hK⟩ : ∃ K', tk.k = K' := ⟨_, rfl⟩
    obtain ⟨X', hX'⟩ : ∃ X', T tk.x = X' := ⟨_, rfl⟩
    obtain ⟨M', hM⟩ : ∃ M', tk.n = M' := ⟨_, rfl⟩
    rw [hK, hX', hM] at hat HONE
    clear hK hX' hM
    obtain ⟨t0, t1, t2, t3⟩ := hat
    rw [show [(tk, q)].length = 1 from rfl]
    by_cases h1 : K' = K
    · subst h1
      by_cases h2 : X' = X
      · subst h2
        by_cases h3 : M' = M
        · subst h3
          by_cases h4 : q = 0
          · subst h4
            go_wp2
            go_quiet (fail)
            have hf := below_drewN' hfin nq
            go_wp2
            go_ret
            exact nmp_ret (HONE.out true (by simp)) hf
          · have h4' : ((q : Int) == 0) = false := by rw [beq_eq_false_iff_ne]; omega
            have H4 := Lib.hid h4
            clear h4
            go_wp2
            go_quiet (fail)
            have hf := below_drewN' hfin nq
            go_wp2
            go_ret
            exact nmp_ret (HONE.out false (by have := H4.out; simp [this])) hf
        · have h3' : (M' == M) = false := by rw [beq_eq_false_iff_ne]; exact h3
          have H3 := Lib.hid h3
          clear h3
          go_wp2
          go_quiet (fail)
          have hf := below_drewN' hfin nq
          go_wp2
          go_ret
          exact nmp_ret (HONE.out false (by have := H3.out; simp [this])) hf
      · have h2' : (X'.toList == X.toList) = false := by
          rw [beq_eq_false_iff_ne]
          intro h
          rw [Lib.toList_data, Lib.toList_data] at h
          exact h2 (ba_ext h)
        have H2 := Lib.hid h2
        clear h2
        go_wp2
        go_quiet (fail)
        have hf := below_drewN' hfin nq
        go_wp2
        go_ret
        exact nmp_ret (HONE.out false (by have := H2.out; simp [this])) hf
    · have h1' : (K' == K) = false := by rw [beq_eq_false_iff_ne]; exact h1
      have H1 := Lib.hid h1
      clear h1
      go_wp2
      go_quiet (fail)
      have hf := below_drewN' hfin nq
      go_wp2
      go_ret
      exact nmp_ret (HONE.out false (by have := H1.out; simp [this])) hf
  · have HT : Hid (toldB K X M = false) := Lib.hid (told_len (by rw [hr1]; exact hlen))
    have hl1 : ((toks.length : Int) == 1) = false := by rw [beq_eq_false_iff_ne]; omega
    obtain ⟨n, hn⟩ : ∃ n, toks.length = n := ⟨_, rfl⟩
    rw [hn] at hl1
    have HN := Lib.hid hn
    clear hr1 hlen hn
    obtain ⟨ANS, hans⟩ : ∃ b, toldB K X M = b := ⟨_, rfl⟩
    rw [hans] at HT ⊢
    clear hans
    go_enter Tryz.func9, Tryz.ntmps9
    go_wp2_with fail
    refine (C1.out _ (hL.below hba)).mono ?_
    rintro e w1 ⟨v, rfl, ht, hb1⟩
    have hfin := hba.trans (hb1.mono hba.size)
    obtain ⟨A, c, rfl⟩ := ht.form
    dsimp only
    rw [HN.out]
    clear ht hb1
    go_wp2
    go_quiet (fail)
    have hf := below_drewN' hfin nq
    go_wp2
    go_ret
    exact nmp_ret HT.out hf
end Go.Proofs.YteennkekpblccaaGreatDoor
