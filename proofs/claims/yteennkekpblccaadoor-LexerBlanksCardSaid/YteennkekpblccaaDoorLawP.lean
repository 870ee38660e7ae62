/-
  The walk of LexerPlaces.
-/
import Derived.Test.YteennkekpblccaaDoorTok
import Derived.Test.YteennkekpblccaaDoorPlc
namespace Go.Proofs.YteennkekpblccaaDoor
open Go.RowKit

theorem Rc.newc (w : World) (cs : Array Value) : Rc (w.alloc (.cells cs 34)) w.heap.size cs := heap_alloc_new w _
/-- Where the last token stood. -/
def LastOk (toks : List (Tok × Nat)) (k : Nat) (z : Int) : Prop := (k = 0 ∧ z = -1) ∨ ∃ t q, 0 < k ∧ toks[k - 1]? = some (t, q) ∧ z = (q : Int)
theorem TokAt.below {w w' : World} {B : Nat} {b : Addr} {K : Int} {X : ByteArray} {M P : Int} (h : TokAt w b K X M P) (hb : Below B w w') (hlt : b.block < B) : TokAt w' b K X M P :=
  ⟨(hb.cell hlt).trans h.1, (hb.cell (p := ⟨b.block, b.off + 1, none⟩) hlt).trans h.2.1, (hb.cell (p := ⟨b.block, b.off + 2, none⟩) hlt).trans h.2.2.1, (hb.cell (p := ⟨b.block, b.off + 3, none⟩) hlt).trans h.2.2.2⟩
theorem last_lt {L : List Nat} {toks : List (Tok × Nat)} (h : lexL L 0 = .inl toks) {k : Nat} {t : Tok} {q : Nat} (hk : toks[k]? = some (t, q)) {y : Int} (hy : LastOk toks k y) : y < (q : Int) := by
  rcases hy with ⟨rfl, rfl⟩ | ⟨t', q', h0, h1, rfl⟩
  · omega
  · have e : k - 1 + 1 = k := by omega
    have := place_up h h1 (by rw [e]; exact hk)
    omega

set_option maxHeartbeats 6400000 in
set_option maxRecDepth 100000 in
theorem lawPlaces (s : ByteArray) (w : World) (hs : s.size ≤ 9223372036854775807) (hL : Lx w) : Calls Tryd.prog 6 #[.string s] w (Yes w) := by
  have cF := few_any s w hs
  have hfw := fw_le s
  generalize fw s = t at cF hfw
  clear hs
  have hz : t.size ≤ 1000000000 := by omega
  have c1 := fun W hL => lex_any t hz W hL
  have hrg := lexR_range t
  obtain ⟨toks, a, b, hr⟩ : ∃ toks a b, lexR t = (toks, a, b) := ⟨_, _, _, rfl⟩
  rw [hr] at hrg
  rw [hr] at c1
  have C1 := Lib.hid c1
  clear c1
  rcases lexR_out hr with ⟨rfl, rfl, L, hT, hlex⟩ | ⟨hb, rfl⟩
  · have hnl := lex_len' hT hlex
    have HT := Lib.hid hT
    have HX := Lib.hid hlex
    clear hr hrg hT hlex
    go_enter Tryd.func6, Tryd.ntmps6
    go_wp2_with fail
    refine cF.mono ?_
    rintro e w' ⟨rfl, rfl⟩
    go_wp2_with fail
    refine (C1.out w hL).mono ?_
    rintro e w1 ⟨v, rfl, ht, hb1⟩
    obtain ⟨A, c, rfl⟩ := ht.form
    have HTK := Lib.hid ht
    clear ht
    obtain ⟨n, hn⟩ : ∃ n, toks.length = n := ⟨_, rfl⟩
    rw [hn] at HTK
    dsimp only
    rw [hn]
    have hnb : n ≤ 300 := by omega
    have HN := Lib.hid hn
    clear hnl
    clear hn
    go_wp2
    go_loopw [6, 35] (fun z i wr => ∃ (k : Nat) (y : Int), k ≤ n ∧ i = .int .i64 k ∧ z = .int .i64 y ∧ LastOk toks k y ∧ -1 ≤ y ∧ y ≤ 300 ∧ Below w.heap.size w wr ∧ Below w1.heap.size w1 wr) (fun _ i _ => n - (intOf i).toNat)
    case atStart => exact ⟨0, -1, Nat.zero_le _, rfl, rfl, .inl ⟨rfl, rfl⟩, by omega, by omega, hb1, Below.refl _ _⟩
    case round =>
      obtain ⟨k, y, hk, rfl, rfl, hlast, hy1, hy2, hbw, hb1w⟩ := hrel
      have HLAST := Lib.hid hlast
      clear hlast
      by_cases hlt : k < n
      · obtain ⟨x, hx⟩ : ∃ x, toks[k]? = some x := ⟨_, List.getElem?_eq_getElem (by rw [HN.out]; exact hlt)⟩
        obtain ⟨tk, q⟩ := x
        obtain ⟨hq, rest, hrest⟩ := place_at HT.out HX.out hx
        have hyq := last_lt HX.out hx HLAST.out
        obtain ⟨ad, rfl, hadB, hat⟩ := HTK.out.at_ hx
        have hat2 := hat.below hb1w (by rw [addBlock]; exact hadB)
        have c2 := fun W hL => lex_any (t.extract q t.size) (by rw [ext_size]; omega) W hL
        rw [hrest] at c2
        have C2 := Lib.hid c2
        have HXK := Lib.hid hx
        dsimp only at hat2
        have HQ := Lib.hid hq
        have hq1 : (q : Int) < (t.size : Int) := by omega
        have hq2 : ¬ (q : Int) ≤ y := by omega
        have hq3 : ¬ (t.size : Int) ≤ (q : Int) := by omega
        have hq4 : q ≤ t.size := by omega
        clear hat hrest hx c2 hq hadB HLAST
        obtain ⟨K, hK⟩ : ∃ K, tk.k = K := ⟨_, rfl⟩
        obtain ⟨X, hX⟩ : ∃ X, T tk.x = X := ⟨_, rfl⟩
        obtain ⟨M, hM⟩ : ∃ M, tk.n = M := ⟨_, rfl⟩
        rw [hK, hX, hM] at hat2
        have HKXM : Hid (tk.k = K ∧ T tk.x = X ∧ tk.n = M) := Lib.hid ⟨hK, hX, hM⟩
        clear hK hX hM
        obtain ⟨p0, p1, p2, p3⟩ := hat2
        have hlz : (k : Int) < (n : Int) := by omega
        go_wp2_with fail
        have hbwa := hbw.alloc hbw.size (.cells #[.int .i64 K, .string X, .int .i64 M, .int .i64 (q : Int)] 34)
        have hb1wa := hb1w.alloc hb1w.size (.cells #[.int .i64 K, .string X, .int .i64 M, .int .i64 (q : Int)] 34)
        refine (C2.out _ (hL.below hbwa)).mono ?_
        rintro e w2 ⟨v2, rfl, ht2, hb2⟩
        have hrc := (Rc.newc wr #[.int .i64 K, .string X, .int .i64 M, .int .i64 (q : Int)]).below hb2
        obtain ⟨⟨r0, r1, r2, r3⟩, _⟩ := hrc.cells
        have hbw2 := hbwa.trans (hb2.mono hbwa.size)
        have hb1w2 := hb1wa.trans (hb2.mono hb1wa.size)
        obtain ⟨A2, cc2, rfl⟩ := ht2.form
        dsimp only at ht2
        obtain ⟨ad2, rfl, _, hat3⟩ := ht2.at_ (k := 0) rfl
        have e0 : ad2.add (0 * 4) = ad2 := by simp [Addr.add]
        rw [e0] at hat3
        dsimp only at hat3
        rw [HKXM.out.1, HKXM.out.2.1, HKXM.out.2.2] at hat3
        obtain ⟨t0, t1, t2, t3⟩ := hat3
        have hlen : (((tk, 0) :: rest).length : Int) = (rest.length : Int) + 1 := by simp
        have hln : 0 < ((tk, 0) :: rest).length := by simp
        obtain ⟨n2, hn2⟩ : ∃ n2, ((tk, 0) :: rest).length = n2 := ⟨_, rfl⟩
        rw [hn2] at ht2 hln hlen
        dsimp only
        rw [hn2]
        have hln1 : ((n2 : Int) == 0) = false := by rw [beq_eq_false_iff_ne]; omega
        clear hn2 ht2 hrc e0 hlen hb2
        go_wp2
        go_quiet (fail)
        have hf1 := below_drewN' hbw2 nq
        have hf2 := below_drewN' hb1w2 nq
        clear r0 r1 r2 r3 t0 t1 t2 t3 p0 p1 p2 p3
        go_wp2
        go_roundw
        case rel => exact ⟨k + 1, (q : Int), by omega, by go_num, rfl, .inr ⟨tk, q, by omega, HXK.out, rfl⟩, by omega, by omega, hf1, hf2⟩
        case measure => simp [intOf]; omega
      · have hlz : ¬ (k : Int) < (n : Int) := by omega
        go_wp2_with fail
        refine (works_any _ (hL.below hbw)).mono ?_
        rintro e w4 ⟨rfl, hb4⟩
        have hfin := hbw.trans (hb4.mono hbw.size)
        go_wp2
        go_ret
        exact ⟨rfl, hfin⟩
  · have hb0 : (b == 0) = false := by rw [beq_eq_false_iff_ne]; exact hb
    have hbn : (b != 0) = true := by rw [bne, hb0]; rfl
    dsimp only at hrg
    obtain ⟨h0, h1⟩ := hrg
    clear hr hb
    go_enter Tryd.func6, Tryd.ntmps6
    go_wp2_with fail
    refine cF.mono ?_
    rintro e w' ⟨rfl, rfl⟩
    go_wp2_with fail
    refine (C1.out w hL).mono ?_
    rintro e w1 ⟨v, rfl, ht, hb1⟩
    go_wp2_with fail
    refine (works_any _ (hL.below hb1)).mono ?_
    rintro e w4 ⟨rfl, hb4⟩
    have hfin := hb1.trans (hb4.mono hb1.size)
    go_wp2
    go_ret
    exact ⟨rfl, hfin⟩
end Go.Proofs.YteennkekpblccaaDoor
