/-
  The lexer's Lex: what it tells of any text.
-/
import Derived.Test.YthonaeigacfmbaaGreatDoorGq13
namespace Go.Proofs.YthonaeigacfmbaaGreatDoor.B
open Go.RowKit

def tcl (t : Tok × Nat) : List Value := [.int .i64 t.1.k, .string (T t.1.x), .int .i64 t.1.n, .int .i64 ((t.2 : Nat) : Int)]
def tcel : List (Tok × Nat) → List Value
  | [] => []
  | t :: r => tcl t ++ tcel r
theorem tcel_len (l : List (Tok × Nat)) : (tcel l).length = l.length * 4 := by
  induction l with
  | nil => rfl
  | cons t r ih => show (tcl t ++ tcel r).length = _; rw [List.length_append, ih, List.length_cons]; show 4 + _ = _; omega
theorem tcel_app (a b : List (Tok × Nat)) : tcel (a ++ b) = tcel a ++ tcel b := by
  induction a with
  | nil => rfl
  | cons t r ih => show tcl t ++ tcel (r ++ b) = _; rw [ih, ← List.append_assoc]; rfl
theorem tcel_at {l : List (Tok × Nat)} {j : Nat} {t : Tok × Nat} (h : l[j]? = some t) {i : Nat} {u : Value} (hu : (tcl t)[i]? = some u) : (tcel l)[j * 4 + i]? = some u := by
  have hi : i < 4 := (List.getElem?_eq_some_iff.1 hu).1
  induction l generalizing j with
  | nil => simp at h
  | cons x r ih =>
    show (tcl x ++ tcel r)[j * 4 + i]? = _
    cases j with
    | zero =>
      simp at h; subst h
      rw [Nat.zero_mul, Nat.zero_add, List.getElem?_append_left (by exact hi)]
      exact hu
    | succ j =>
      rw [List.getElem?_append_right (by show 4 ≤ _; omega)]
      have : (j + 1) * 4 + i - (tcl x).length = j * 4 + i := by show _ - 4 = _; omega
      rw [this]
      exact ih (by simpa using h)
def Tks (w : World) (B : Nat) (v : Value) (l : List (Tok × Nat)) : Prop :=
  ∃ A c, v = .slice A l.length c ∧ ∀ (j : Nat) t, l[j]? = some t → ∃ ad, A = some ad ∧ ad.block < B ∧ ∀ i u, (tcl t)[i]? = some u → w.cell? (ad.add (j * 4 + i)) = some u
theorem Tks.below {w w' : World} {B : Nat} {v : Value} {l : List (Tok × Nat)} (h : Tks w B v l) (hb : Below B w w') : Tks w' B v l := by
  obtain ⟨A, c, hv, hc⟩ := h
  refine ⟨A, c, hv, fun j t ht => ?_⟩
  obtain ⟨ad, hA, hlt, hcell⟩ := hc j t ht
  exact ⟨ad, hA, hlt, fun i u hu => (hb.cell (by rw [addBlock]; exact hlt)).trans (hcell i u hu)⟩
theorem Tks.more {w : World} {B B' : Nat} {v : Value} {l : List (Tok × Nat)} (h : Tks w B v l) (hB : B ≤ B') : Tks w B' v l := by
  obtain ⟨A, c, hv, hc⟩ := h
  refine ⟨A, c, hv, fun j t ht => ?_⟩
  obtain ⟨ad, hA, hlt, hcell⟩ := hc j t ht
  exact ⟨ad, hA, by omega, hcell⟩
theorem Tks.nil (w : World) (B : Nat) : Tks w B (.slice none 0 0) [] := ⟨none, 0, rfl, fun j u hu => by simp at hu⟩
theorem Tks.own {w : World} {base : Nat} {e : TypeId} {v : Value} {n : Nat} {l : List (Tok × Nat)} (h : w.ownsRow base e 4 v n (tcel l)) : Tks w w.heap.size v l := by
  have hn : l.length = n := by have := h.1; rw [tcel_len] at this; omega
  subst hn
  by_cases h0 : 0 < l.length
  · obtain ⟨g, cap, hv, _, hlt⟩ := h.form h0
    refine ⟨some ⟨g, 0, none⟩, cap, hv, fun j t ht => ⟨_, rfl, hlt, fun i u hu => ?_⟩⟩
    exact h.cells (g := g) (by rw [hv]; rfl) _ _ (tcel_at ht hu)
  · have hl : l = [] := List.eq_nil_of_length_eq_zero (by omega)
    subst hl
    rcases h.2 with ⟨hv, _⟩ | ⟨g, cap, cur, hv, _⟩
    · exact ⟨none, 0, hv, fun j u hu => by simp at hu⟩
    · exact ⟨_, cap, hv, fun j u hu => by simp at hu⟩

def LexPost (r : List (Tok × Nat) × Int × Int) (W : World) (e : Ending) (w' : World) : Prop :=
  ∃ v, e = .returned (.tuple #[v, .int .i64 r.2.1, .int .i64 r.2.2]) ∧ Tks w' w'.heap.size v r.1 ∧ Below W.heap.size W w'
theorem lexp_no {r : List (Tok × Nat) × Int × Int} {W w' : World} {a b : Int} (h : r = ([], a, b)) (hb : Below W.heap.size W w') : LexPost r W (.returned (.tuple #[.slice none 0 0, .int .i64 a, .int .i64 b])) w' := by
  subst h; exact ⟨_, rfl, Tks.nil _ _, hb⟩
theorem lexp_ok {r : List (Tok × Nat) × Int × Int} {W w' : World} {base : Nat} {e : TypeId} {v : Value} {n : Nat} {l : List (Tok × Nat)} (h : r = (l, 0, 0)) (ho : w'.ownsRow base e 4 v n (tcel l)) (hb : Below W.heap.size W w') :
    LexPost r W (.returned (.tuple #[v, .int .i64 0, .int .i64 0])) w' := by
  subst h; exact ⟨_, rfl, Tks.own ho, hb⟩
theorem cell_four_new (w : World) (o : Obj) (a b c d : Value) (t : TypeId) : ∀ (j : Nat) u, [a, b, c, d][j]? = some u → ((w.alloc o).alloc (.cells #[a, b, c, d] t)).cell? ((⟨w.heap.size + 1, 0, none⟩ : Addr).add j) = some u := by
  intro j u hj
  have hb : ((w.alloc o).alloc (.cells #[a, b, c, d] t)).heap[w.heap.size + 1]? = some (.cells #[a, b, c, d] t (0, 0)) := heap_alloc2_new w _ _
  have e : (⟨w.heap.size + 1, 0, none⟩ : Addr).add j = ⟨w.heap.size + 1, j, none⟩ := by unfold Addr.add; split <;> simp_all
  rw [e, cell_of_row _ _ j _ _ _ hb, ← hj]
  simp
theorem one_four {a b c d : Value} (ha : a.oneCell' = true) (hb : b.oneCell' = true) (hc : c.oneCell' = true) (hd : d.oneCell' = true) : ∀ u ∈ [a, b, c, d], u.oneCell' = true := by
  intro u hu
  simp only [List.mem_cons, List.not_mem_nil, or_false] at hu
  rcases hu with rfl | rfl | rfl | rfl <;> assumption
theorem infoTok : (Tryz.prog.info? 63).map (fun i => (i.zero, i.size, i.bytes)) = some (some (.agg #[.int .i64 0, .string ⟨#[]⟩, .int .i64 0, .int .i64 0]), 4, 40) := by kernel_rfl
def Rel (L : List Nat) (out : List (Tok × Nat)) (b : List Nat) (a : Nat) : Prop :=
  match lexL b a with | .inl r => lexL L 0 = .inl (out ++ r) | .inr e => lexL L 0 = .inr e
theorem rel_start (L : List Nat) : Rel L [] L 0 := by
  unfold Rel
  cases h : lexL L 0 with
  | inl r => rfl
  | inr e => rfl
theorem rel_end {L b : List Nat} {out : List (Tok × Nat)} {a : Nat} (h : Rel L out b a) (e : b.drop (btw b) = []) : lexL L 0 = .inl out := by
  unfold Rel at h
  rw [lex_end e] at h
  simpa using h
theorem rel_bad {L b : List Nat} {out : List (Tok × Nat)} {a : Nat} (h : Rel L out b a) (e : b.drop (btw b) ≠ []) (e2 : tokT (b.drop (btw b)) = none) : lexL L 0 = .inr (a + sz (b.take (btw b))) := by
  unfold Rel at h
  rw [lex_bad e e2] at h
  exact h
theorem rel_next {L b : List Nat} {out : List (Tok × Nat)} {a : Nat} {t : Tok} {n : Nat} (h : Rel L out b a) (e : b.drop (btw b) ≠ []) (e2 : tokT (b.drop (btw b)) = some (t, n)) :
    Rel L (out ++ [(t, a + sz (b.take (btw b)))]) ((b.drop (btw b)).drop n) (a + sz (b.take (btw b)) + sz ((b.drop (btw b)).take n)) := by
  unfold Rel at h ⊢
  rw [lex_next e e2] at h
  cases hx : lexL ((b.drop (btw b)).drop n) (a + sz (b.take (btw b)) + sz ((b.drop (btw b)).take n)) with
  | inl r => rw [hx] at h; simpa using h
  | inr e => rw [hx] at h; exact h
theorem lexR_ck {s : ByteArray} {a b : Int} (h : ckr s = (a, b)) (hb : b ≠ 0) : lexR s = ([], a, b) := by
  unfold lexR; rw [h, if_neg hb]
theorem lexR_ok {s : ByteArray} {l : List (Tok × Nat)} (h : (ckr s).2 = 0) (e : lexL (rns s 0) 0 = .inl l) : lexR s = (l, 0, 0) := by
  unfold lexR; rw [if_pos h, e]
theorem lexR_bad {s : ByteArray} {a : Nat} (h : (ckr s).2 = 0) (e : lexL (rns s 0) 0 = .inr a) : lexR s = ([], (a : Int), 5) := by
  unfold lexR; rw [if_pos h, e]
theorem ckr_ok {s : ByteArray} (h : (ckr s).2 = 0) : ckr s = (0, 0) ∧ vls s 0 = true ∧ (∀ r ∈ rns s 0, rdb (r : Int) = true) ∧ s.size ≤ 16384 := by
  unfold ckr at h ⊢
  by_cases hs : 16384 < s.size
  · rw [if_pos hs] at h; exact absurd h (by decide)
  · rw [if_neg hs] at h ⊢
    rcases ck_ok s 0 with ⟨h1, h2, h3, h4⟩ | h1
    · exact ⟨Prod.ext h2 h1, h3, h4, by omega⟩
    · rw [h] at h1; exact absurd h1 (by decide)

set_option maxHeartbeats 6400000 in
set_option maxRecDepth 100000 in
theorem lex_any (s : ByteArray) (hs : s.size ≤ 1000000000) (w : World) (hL : Lx w) :
    Calls Tryz.prog 35 #[.string s] w (LexPost (lexR s) w) := by
  have cK := goodCheck s w hs
  have hck : CkPost s w = fun e w' => e = .returned (.tuple #[.int .i64 (ckr s).1, .int .i64 (ckr s).2]) ∧ Below w.heap.size w w' := rfl
  rw [hck] at cK
  clear hck
  by_cases hok : (ckr s).2 = 0
  · obtain ⟨hc, hv, hrd, hsz⟩ := ckr_ok hok
    rw [hc] at cK
    obtain ⟨L, hLd⟩ : ∃ L, rns s 0 = L := ⟨_, rfl⟩
    have hT : T L = s := by rw [← hLd]; exact T_rns hv
    have hoL : okl L := by rw [← hLd]; exact rns_okl hv
    have HOK := Lib.hid hok
    have HLD := Lib.hid hLd
    have HS := Lib.hid hT
    obtain ⟨i0, hi, hz0, hz1, hz2⟩ := info_parts infoTok
    clear hok hc hv hrd hLd hT
    go_enter Tryz.func35, Tryz.ntmps35
    go_wp2_with fail
    refine cK.mono ?_
    rintro e w1 ⟨rfl, hb1⟩
    go_wp2
    go_loopw [2, 3] (fun v x wr => ∃ (a b : List Nat) (out : List (Tok × Nat)), L = a ++ b ∧ x = .int .i64 (sz a : Nat) ∧ sz a ≤ s.size ∧ out.length ≤ sz a ∧ wr.ownsRow w.heap.size 63 4 v out.length (tcel out) ∧ Below w.heap.size w wr ∧ Rel L out b (sz a)) (fun _ x _ => s.size - (intOf x).toNat)
    case atStart => exact ⟨[], L, [], rfl, rfl, Nat.zero_le _, Nat.zero_le _, ⟨rfl, .inl ⟨rfl, rfl⟩⟩, hb1, rel_start L⟩
    case round =>
      obtain ⟨a, b, out, hl, rfl, hle, hol, hown, hbw, hrel⟩ := hrel
      have hob := (okl_app.1 (hl ▸ hoL)).2
      have hbl := btw_le b
      obtain ⟨c, hc⟩ : ∃ c, b.take (btw b) = c := ⟨_, rfl⟩
      obtain ⟨d, hd⟩ : ∃ d, b.drop (btw b) = d := ⟨_, rfl⟩
      have hbcd : b = c ++ d := by rw [← hc, ← hd]; exact (List.take_append_drop _ _).symm
      have hod := (okl_app.1 (hbcd ▸ hob)).2
      have hszs : s.size = sz a + (sz c + sz d) := by rw [← HS.out, T_size, hl, hbcd, sz_app, sz_app]
      have E1 : Hid (s.extract (sz a) s.size = T b) := Lib.hid (by rw [← HS.out, T_size, hl]; exact T_suf a b)
      have E2 : Hid (s.extract (sz a + sz c) s.size = T d) := Lib.hid (by rw [← HS.out, T_size, hl, hbcd, ← List.append_assoc, ← sz_app]; exact T_suf (a ++ c) d)
      have hzb : sz b ≤ 1000000000 := by rw [hbcd, sz_app]; omega
      have c1 := fun W => between_any b hob W hzb
      rw [hc] at c1
      have hac : sz a + sz c ≤ s.size := by omega
      by_cases hde : d = []
      · have HEND := Lib.hid (rel_end hrel (by rw [hd]; exact hde))
        have hat : ((sz a : Int) + (sz c : Int) == (s.size : Int)) = true := by
          rw [hde, sz_nil] at hszs
          rw [beq_iff_eq]; omega
        have hat2 : (sz a : Int) + (sz c : Int) = (s.size : Int) := by simpa using hat
        have HOWN := Lib.hid hown
        have HLD2 := HLD
        clear hl hc hd hbcd hde hszs hrel hown
        clear hat
        go_wp2_with fail
        rw [E1.out]
        refine (c1 _).mono ?_
        rintro e w2 ⟨rfl, hb2⟩
        have hfin := hbw.trans (hb2.mono hbw.size)
        have HOWN2 := Lib.hid (own_below HOWN.out hb2)
        clear HOWN
        go_wp2
        go_ret3
        exact lexp_ok (lexR_ok HOK.out (by rw [HLD2.out]; exact HEND.out)) HOWN2.out hfin
      · obtain ⟨r, u, hru⟩ : ∃ r u, d = r :: u := by
          cases d with
          | nil => exact absurd rfl hde
          | cons r u => exact ⟨r, u, rfl⟩
        have hwr := wd_pos r
        have hzd : sz d = wd r + sz u := by rw [hru, sz_cons]
        have hat : ((sz a : Int) + (sz c : Int) == (s.size : Int)) = false := by
          rw [beq_eq_false_iff_ne]; omega
        have cT := fun W hL => token_any r u (hru ▸ hod) (by rw [← hru]; omega) W hL
        rw [← hru] at cT
        cases htok : tokT d with
        | none =>
          have HBAD := Lib.hid (rel_bad hrel (by rw [hd]; exact hde) (by rw [hd]; exact htok))
          have HC := Lib.hid hc
          rw [htok] at cT
          have CT := Lib.hid cT
          have HOWN := Lib.hid hown
          clear hl hc hd hbcd hde hszs hrel hown hru hzd htok cT
          go_wp2_with fail
          rw [E1.out]
          refine (c1 _).mono ?_
          rintro e w2 ⟨rfl, hb2⟩
          have hbw2 := hbw.trans (hb2.mono hbw.size)
          go_wp2_with fail
          rw [E2.out]
          refine (CT.out w2 (hL.below hbw2)).mono ?_
          rintro e w3 ⟨rfl, hb3⟩
          have hfin := hbw2.trans (hb3.mono hbw2.size)
          have hsz3 := hfin.size
          unfold tv0
          go_wp2
          go_ret3
          refine lexp_no ?_ (hfin.alloc hsz3 _)
          have hh := HBAD.out
          rw [HC.out] at hh
          rw [lexR_bad HOK.out (by rw [HLD.out]; exact hh)]
          go_num
        | some tn =>
          obtain ⟨t, n⟩ := tn
          have hn := tokT_some htok
          have HNEXT := Lib.hid (rel_next hrel (by rw [hd]; exact hde) (by rw [hd]; exact htok))
          obtain ⟨f, hf⟩ : ∃ f, d.take n = f := ⟨_, rfl⟩
          obtain ⟨g, hg⟩ : ∃ g, d.drop n = g := ⟨_, rfl⟩
          have hdfg : d = f ++ g := by rw [← hf, ← hg]; exact (List.take_append_drop _ _).symm
          have hzf : 1 ≤ sz f := by
            have h1 := sz_len f
            have h2 : f.length = n := by rw [← hf, List.length_take]; omega
            omega
          have hzfg : sz d = sz f + sz g := by rw [hdfg, sz_app]
          have HREL : Hid (Rel L (out ++ [(t, sz a + sz c)]) g (sz (a ++ (c ++ f)))) := Lib.hid (by
            have := HNEXT.out
            rw [hd, hc, hf, hg] at this
            rw [sz_app, sz_app, ← Nat.add_assoc]
            exact this)
          have HL2 : Hid (L = (a ++ (c ++ f)) ++ g ∧ sz (a ++ (c ++ f)) = sz a + sz c + sz f) := Lib.hid ⟨by rw [hl, hbcd, hdfg]; simp, by rw [sz_app, sz_app]; omega⟩
          have hnew : sz a + sz c + sz f ≤ s.size := by omega
          have hz0' : ((sz f : Int) == 0) = false := by rw [beq_eq_false_iff_ne]; omega
          rw [htok] at cT
          have CT : Hid (∀ W, Lx W → Calls Tryz.prog 73 #[.string (T d)] W fun e w' => e = .returned (.tuple #[.agg #[.int .i64 t.k, .string (T t.x), .int .i64 t.n, .int .i64 0], .int .i64 (sz f : Nat)]) ∧ Below W.heap.size W w') := Lib.hid (fun W hL => (cT W hL).mono fun _ _ k => by rw [← hf]; exact k)
          obtain ⟨K, hK⟩ : ∃ K, t.k = K := ⟨_, rfl⟩
          obtain ⟨X, hX⟩ : ∃ X, T t.x = X := ⟨_, rfl⟩
          obtain ⟨M, hM⟩ : ∃ M, t.n = M := ⟨_, rfl⟩
          rw [hK, hX, hM] at CT
          have HTC : Hid (tcl (t, sz a + sz c) = [.int .i64 K, .string X, .int .i64 M, .int .i64 ((sz a + sz c : Nat) : Int)]) := Lib.hid (by unfold tcl; rw [hK, hX, hM])
          have HOWN := Lib.hid hown
          clear hl hc hd hbcd hde hszs hrel hown hru hzd htok cT hf hg hdfg hzfg hK hX hM HNEXT
          go_wp2_with fail
          rw [E1.out]
          refine (c1 _).mono ?_
          rintro e w2 ⟨rfl, hb2⟩
          have hbw2 := hbw.trans (hb2.mono hbw.size)
          go_wp2_with fail
          rw [E2.out]
          refine (CT.out w2 (hL.below hbw2)).mono ?_
          rintro e w3 ⟨rfl, hb3⟩
          have hfin := hbw2.trans (hb3.mono hbw2.size)
          have hsz3 := hfin.size
          have hown3 := own_below (own_below HOWN.out hb2) hb3
          have HOWN3 := Lib.hid hown3
          clear hown3 HOWN
          go_wp2_with (at_builtin; (refine wpList_append_own _ rfl _ _ 22 rfl w.heap.size 63 i0 (.agg #[.int .i64 0, .string ⟨#[]⟩, .int .i64 0, .int .i64 0]) 4 40 Tryz.underlying22 hi hz0 hz1 hz2 rfl (by decide) _ _ _ rfl ((HOWN3.out.alloc _).alloc _) ⟨w3.heap.size + 1, 0, none⟩ 1 1 [.int .i64 K, .string X, .int .i64 M, .int .i64 ((sz a : Int) + (sz c : Int))] rfl rfl (cell_four_new _ _ _ _ _ _ _) (one_four rfl rfl rfl rfl) (by unfold maxLen; omega) (by omega) (by simp; omega) ?_); intro v' w4 hown4 hgrow4 _)
          have hbel := ((hfin.alloc hsz3 _).alloc (by simp; omega) _).grown hgrow4 (by simp; omega) (fun g hg => (HOWN3.out.lt g hg).1)
          have HBEL := Lib.hid hbel
          have HOWN4 := Lib.hid hown4
          clear hbel hown4 hgrow4
          go_roundw
          case rel =>
            refine ⟨a ++ (c ++ f), g, out ++ [(t, sz a + sz c)], HL2.out.1, by rw [HL2.out.2]; go_num, by rw [HL2.out.2]; exact hnew, by rw [HL2.out.2, List.length_append, List.length_singleton]; omega, ?_, HBEL.out, HREL.out⟩
            have e : tcel (out ++ [(t, sz a + sz c)]) = tcel out ++ [.int .i64 K, .string X, .int .i64 M, .int .i64 ((sz a : Int) + (sz c : Int))] := by
              rw [tcel_app]
              show tcel out ++ (tcl _ ++ []) = _
              rw [List.append_nil, HTC.out, Int.natCast_add]
            rw [e, List.length_append, List.length_singleton]
            exact HOWN4.out
          case measure => simp [intOf]; omega
  · obtain ⟨x, y, hxy⟩ : ∃ x y, ckr s = (x, y) := ⟨_, _, rfl⟩
    rw [hxy] at cK hok
    have hy : (y == 0) = false := by rw [beq_eq_false_iff_ne]; exact hok
    have hy2 : (y != 0) = true := by rw [bne, hy]; rfl
    have HXY := Lib.hid hxy
    have HOK := Lib.hid hok
    clear hxy hok
    go_enter Tryz.func35, Tryz.ntmps35
    go_wp2_with fail
    refine cK.mono ?_
    rintro e w1 ⟨rfl, hb1⟩
    go_wp2
    go_ret3
    exact lexp_no (lexR_ck HXY.out HOK.out) hb1
end Go.Proofs.YthonaeigacfmbaaGreatDoor.B
namespace Go.Proofs.YthonaeigacfmbaaGreatDoor.B
open Go.RowKit

theorem addAdd (a : Addr) (i j : Nat) : (a.add i).add j = a.add (i + j) := by
  by_cases hi : i = 0
  · subst hi
    have e : a.add 0 = a := by simp [Addr.add]
    rw [e, Nat.zero_add]
  · by_cases hj : j = 0
    · subst hj
      have e : ∀ b : Addr, b.add 0 = b := fun b => by simp [Addr.add]
      rw [e, Nat.add_zero]
    · unfold Addr.add
      simp [hi, hj, Nat.add_assoc]
def TokAt (w : World) (b : Addr) (K : Int) (X : ByteArray) (M P : Int) : Prop :=
  w.cell? b = some (.int .i64 K) ∧ w.cell? ⟨b.block, b.off + 1, none⟩ = some (.string X) ∧ w.cell? ⟨b.block, b.off + 2, none⟩ = some (.int .i64 M) ∧ w.cell? ⟨b.block, b.off + 3, none⟩ = some (.int .i64 P)
theorem Tks.at_ {w : World} {B : Nat} {A : Option Addr} {n c : Nat} {l : List (Tok × Nat)} (h : Tks w B (.slice A n c) l) {k : Nat} {x : Tok × Nat} (hx : l[k]? = some x) :
    ∃ ad, A = some ad ∧ ad.block < B ∧ TokAt w (ad.add (k * 4)) x.1.k (T x.1.x) x.1.n ((x.2 : Nat) : Int) := by
  obtain ⟨A', c', hv, hc⟩ := h
  obtain ⟨ad, hA, hlt, hcell⟩ := hc k x hx
  injection hv with h1 h2 h3
  refine ⟨ad, by rw [h1, hA], hlt, hcell 0 _ rfl, ?_, ?_, ?_⟩
  · have := hcell 1 _ rfl
    rw [← addAdd] at this
    exact this
  · have := hcell 2 _ rfl
    rw [← addAdd] at this
    exact this
  · have := hcell 3 _ rfl
    rw [← addAdd] at this
    exact this
theorem Tks.len {w : World} {B : Nat} {A : Option Addr} {n c : Nat} {l : List (Tok × Nat)} (h : Tks w B (.slice A n c) l) : n = l.length := by
  obtain ⟨A', c', hv, hc⟩ := h
  injection hv
theorem Tks.form {w : World} {B : Nat} {v : Value} {l : List (Tok × Nat)} (h : Tks w B v l) : ∃ A c, v = .slice A l.length c := by
  obtain ⟨A', c', hv, hc⟩ := h
  exact ⟨A', c', hv⟩
/-! ### the chapter's example -/
theorem TokAt.below {w w' : World} {B : Nat} {b : Addr} {K : Int} {X : ByteArray} {M P : Int} (h : TokAt w b K X M P) (hb : Below B w w') (hlt : b.block < B) : TokAt w' b K X M P :=
  ⟨(hb.cell hlt).trans h.1, (hb.cell (p := ⟨b.block, b.off + 1, none⟩) hlt).trans h.2.1, (hb.cell (p := ⟨b.block, b.off + 2, none⟩) hlt).trans h.2.2.1, (hb.cell (p := ⟨b.block, b.off + 3, none⟩) hlt).trans h.2.2.2⟩
end Go.Proofs.YthonaeigacfmbaaGreatDoor.B
namespace Go.Proofs.YthonaeigacfmbaaGreatDoor.B
open Go.RowKit

def cel (l : List Nat) : List Value := l.map fun (r : Nat) => Value.int .i32 (r : Int)
theorem cel_len (l : List Nat) : (cel l).length = l.length := by simp [cel]
def Sl (w : World) (B : Nat) (v : Value) (l : List Nat) : Prop :=
  ∃ A c, v = .slice A l.length c ∧ l.length ≤ c ∧ ∀ (j u : Nat), l[j]? = some u → ∃ ad, A = some ad ∧ ad.block < B ∧ w.cell? (ad.add j) = some (.int .i32 (u : Int))
theorem Sl.below {w w' : World} {B : Nat} {v : Value} {l : List Nat} (h : Sl w B v l) (hb : Below B w w') : Sl w' B v l := by
  obtain ⟨A, c, hv, hlc, hc⟩ := h
  refine ⟨A, c, hv, hlc, fun j u hu => ?_⟩
  obtain ⟨ad, hA, hlt, hcell⟩ := hc j u hu
  exact ⟨ad, hA, hlt, (hb.cell (by rw [addBlock]; exact hlt)).trans hcell⟩
theorem Sl.more {w : World} {B B' : Nat} {v : Value} {l : List Nat} (h : Sl w B v l) (hB : B ≤ B') : Sl w B' v l := by
  obtain ⟨A, c, hv, hlc, hc⟩ := h
  refine ⟨A, c, hv, hlc, fun j u hu => ?_⟩
  obtain ⟨ad, hA, hlt, hcell⟩ := hc j u hu
  exact ⟨ad, hA, by omega, hcell⟩
theorem Sl.nil (w : World) (B : Nat) : Sl w B (.slice none 0 0) [] := ⟨none, 0, rfl, Nat.le_refl _, fun j u hu => by simp at hu⟩
theorem Sl.own {w : World} {base : Nat} {e : TypeId} {v : Value} {n : Nat} {l : List Nat} (h : w.ownsRow base e 1 v n (cel l)) : Sl w w.heap.size v l := by
  have hn : l.length = n := by have := h.1; rw [cel_len] at this; omega
  subst hn
  rcases h.2 with ⟨hv, h0⟩ | ⟨g, cap, cur, hv, _, hh, hc, _⟩
  · have hl : l = [] := List.eq_nil_of_length_eq_zero h0
    subst hl
    exact ⟨none, 0, hv, Nat.le_refl _, fun j u hu => by simp at hu⟩
  · refine ⟨some ⟨g, 0, none⟩, cap, hv, hc, fun j u hu => ⟨_, rfl, heap_lt hh, ?_⟩⟩
    exact h.cells (g := g) (by rw [hv]; rfl) j _ (by simp [cel, hu])
def rl (s : ByteArray) : List Nat := if vls s 0 then rns s 0 else []
def er (s : ByteArray) : Int := if vls s 0 then 0 else 4
theorem rl_true {s : ByteArray} (h : vls s 0 = true) : rl s = rns s 0 := by simp [rl, h]
theorem rl_false {s : ByteArray} (h : vls s 0 = false) : rl s = [] := by simp [rl, h]
theorem er_true {s : ByteArray} (h : vls s 0 = true) : er s = 0 := by simp [er, h]
theorem er_false {s : ByteArray} (h : vls s 0 = false) : er s = 4 := by simp [er, h]
def DecPost (s : ByteArray) (W : World) (e : Ending) (w' : World) : Prop :=
  ∃ v, e = .returned (.tuple #[v, .int .i64 (er s)]) ∧ Sl w' w'.heap.size v (rl s) ∧ Below W.heap.size W w'
theorem dec_bad {s : ByteArray} {W w' : World} (hv : vls s 0 = false) (hb : Below W.heap.size W w') : DecPost s W (.returned (.tuple #[.slice none 0 0, .int .i64 4])) w' :=
  ⟨_, by rw [er_false hv], by rw [rl_false hv]; exact Sl.nil _ _, hb⟩
theorem dec_good {s : ByteArray} {W w' : World} {base : Nat} {e : TypeId} {v : Value} {n : Nat} {l : List Nat} (hv : vls s 0 = true) (hl : l = rns s 0) (ho : w'.ownsRow base e 1 v n (cel l)) (hb : Below W.heap.size W w') :
    DecPost s W (.returned (.tuple #[v, .int .i64 0])) w' :=
  ⟨_, by rw [er_true hv], by rw [rl_true hv, ← hl]; exact Sl.own ho, hb⟩
theorem infoRune : (Tryz.prog.info? 21).map (fun i => (i.zero, i.size, i.bytes)) = some (some (.int .i32 0), 1, 4) := by kernel_rfl
def NxPost (s : ByteArray) (i : Nat) (w : World) (e : Ending) (w' : World) : Prop := e = .returned (.tuple #[.int .i32 (nx s i).1, .int .i64 (nx s i).2]) ∧ w = w'
theorem nx_ret {s : ByteArray} {i : Nat} {w : World} {x y : Value} {a b : Nat} (hx : x = .int .i32 a) (hy : y = .int .i64 b) (h : nx s i = (a, b)) : NxPost s i w (.returned (.tuple #[x, y])) w := by
  subst hx; subst hy
  unfold NxPost
  rw [h]
  exact ⟨rfl, rfl⟩
set_option maxHeartbeats 400000 in
set_option maxRecDepth 100000 in
theorem next_ascii (s : ByteArray) (i : Nat) (w : World) (hi : i < s.size) (hb : bt s i < 128) :
    Calls Tryz.prog 100 #[.string s, .int .i64 i] w (NxPost s i w) := by
  have hn : nx s i = (s[i].toNat, 1) := by rw [nx_good (lead_ascii hb).1, (lead_ascii hb).2, bt_get s i hi]
  have hg := bt_get s i hi
  rw [← hg] at hb
  clear hg
  have HN := Lib.hid hn
  clear hn
  go_enter Tryz.func100, Tryz.ntmps100
  go_wp2
  go_ret2
  exact nx_ret rfl rfl HN.out
set_option maxHeartbeats 400000 in
set_option maxRecDepth 100000 in
theorem next_none (s : ByteArray) (i : Nat) (w : World) (hi : i < s.size) (h1 : 128 ≤ bt s i) (h2 : bt s i < 194 ∨ 245 ≤ bt s i) :
    Calls Tryz.prog 100 #[.string s, .int .i64 i] w (NxPost s i w) := by
  have hn : nx s i = (0, 0) := nx_bad (lead_none h1 h2)
  have hg := bt_get s i hi
  have hl := bt_lt s i
  rw [← hg] at h1 h2 hl
  clear hg
  have HN := Lib.hid hn
  clear hn
  rcases h2 with h2 | h2
  all_goals
    go_enter Tryz.func100, Tryz.ntmps100
    go_wp2
    go_ret2
    exact nx_ret rfl rfl HN.out
set_option maxHeartbeats 400000 in
set_option maxRecDepth 100000 in
theorem next_short (s : ByteArray) (i n off least : Nat) (w : World) (hi : i < s.size) (hL : Lead (bt s i) n off least) (hsz : s.size - i < n) :
    Calls Tryz.prog 100 #[.string s, .int .i64 i] w (NxPost s i w) := by
  have hn : nx s i = (0, 0) := nx_bad (lead_short hL hsz)
  have hg := bt_get s i hi
  unfold Lead at hL
  rw [← hg] at hL
  clear hg
  have HN := Lib.hid hn
  clear hn
  rcases hL with ⟨rfl, rfl, rfl, hl, hu⟩ | ⟨rfl, rfl, rfl, hl, hu⟩ | ⟨rfl, rfl, rfl, hl, hu⟩
  · have hz : (s.size : Int) - (i : Int) < 2 := by omega
    go_enter Tryz.func100, Tryz.ntmps100
    go_wp2
    go_ret2
    exact nx_ret rfl rfl HN.out
  · have hz : (s.size : Int) - (i : Int) < 3 := by omega
    go_enter Tryz.func100, Tryz.ntmps100
    go_wp2
    go_ret2
    exact nx_ret rfl rfl HN.out
  · have hz : (s.size : Int) - (i : Int) < 4 := by omega
    go_enter Tryz.func100, Tryz.ntmps100
    go_wp2
    go_ret2
    exact nx_ret rfl rfl HN.out
theorem acc_start {s : ByteArray} {i a b : Nat} {z : Int} (off : Nat) (h : a = b) (hl : off ≤ a) (hz : z = (off : Int)) : (a : Int) - z = ((acc s i (b - off) (1 - 1) : Nat) : Int) := by
  show (a : Int) - z = ((b - off : Nat) : Int)
  omega
theorem acc_next (s : ByteArray) (p r j A : Nat) (hj : 1 ≤ j) (hA : acc s p r (j - 1) = A) : acc s p r (j + 1 - 1) = 64 * A + (bt s (p + j) - 128) := by
  obtain ⟨k, rfl⟩ : ∃ k, j = k + 1 := ⟨j - 1, by omega⟩
  subst hA
  rfl
theorem acc_step {a : Int} {A b c N : Nat} (hN : N = 64 * A + (b - 128)) (hb : c = b) (hl : 128 ≤ c) (ha : a = 64 * (A : Int) + (c : Int) - 128) : a = (N : Int) := by omega
theorem cont_all {s : ByteArray} {i j : Nat} (h : ∀ t, 1 ≤ t → t < j → contAt s i t) (h1 : 128 ≤ bt s (i + j)) (h2 : bt s (i + j) ≤ 191) : ∀ t, 1 ≤ t → t < j + 1 → contAt s i t := by
  intro t ht1 ht2
  by_cases e : t = j
  · subst e; exact ⟨h1, h2⟩
  · exact h t ht1 (by omega)
set_option maxHeartbeats 1600000 in
set_option maxRecDepth 100000 in
theorem next_two (s : ByteArray) (i : Nat) (w : World) (hi : i < s.size) (hs : s.size ≤ 9223372036854775807) (hL : Lead (bt s i) 2 192 128) (hsz : 2 ≤ s.size - i) :
    Calls Tryz.prog 100 #[.string s, .int .i64 i] w (NxPost s i w) := by
  have HL := Lib.hid hL
  have hg := bt_get s i hi
  have hl : 194 ≤ s[i].toNat := by unfold Lead at hL; omega
  have hu : s[i].toNat < 224 := by unfold Lead at hL; omega
  clear hL
  have HG := Lib.hid hg
  clear hg
  have hz : ¬ (s.size : Int) - (i : Int) < 2 := by omega
  go_enter Tryz.func100, Tryz.ntmps100
  go_wp2
  go_loop [8, 10] (fun r k => ∃ j : Nat, 1 ≤ j ∧ j ≤ 2 ∧ k = .int .i64 j ∧ r = .int .i64 (acc s i (bt s i - 192) (j - 1) : Nat) ∧ ∀ t, 1 ≤ t → t < j → contAt s i t)  (fun _ k => 2 - (intOf k).toNat)
  case atStart => exact ⟨1, by omega, by omega, rfl, i64_eq (acc_start 192 HG.out (by omega) rfl), fun t h1 h2 => by omega⟩
  case round =>
    obtain ⟨j, hj1, hj2, rfl, rfl, hall⟩ := hrel
    have HA := Lib.hid hall
    clear hall
    have hA := acc_lt s i (bt s i - 192) (j - 1) (by have := HG.out; omega) (by omega)
    obtain ⟨A, hA'⟩ : ∃ A, acc s i (bt s i - 192) (j - 1) = A := ⟨_, rfl⟩
    rw [hA'] at hA
    have HA' := Lib.hid hA'
    rw [hA']
    clear hA'
    by_cases hj : j < 2
    · have hij : i + j < s.size := by omega
      have hc := bt_lt s (i + j)
      have hcg := bt_get s (i + j) hij
      rw [← hcg] at hc
      have HC := Lib.hid hcg
      clear hcg
      have HNX := Lib.hid (acc_next s i (bt s i - 192) j A hj1 HA'.out)
      go_wp2
      all_goals first
        | (go_ret2
           exact nx_ret rfl rfl (nx_bad (lead_cont HL.out hj1 hj (by rw [contAt, ← HC.out]; omega))))
        | (go_round
           case rel =>
             have k1 : 128 ≤ s[i + j].toNat := by omega
             have k2 : s[i + j].toNat ≤ 191 := by omega
             exact ⟨j + 1, by omega, by omega, by go_num, i64_eq (acc_step HNX.out HC.out k1 (by omega)), cont_all HA.out (by rw [← HC.out]; exact k1) (by rw [← HC.out]; exact k2)⟩
           case measure => simp [intOf]; omega)
    · obtain rfl : j = 2 := by omega
      have HW := Lib.hid (lead_whole HL.out hsz HA.out HA'.out.symm)
      clear hj hj1 hj2
      go_wp2
      all_goals
        go_ret2
        first
        | exact nx_ret rfl rfl (nx_bad (HW.out.1 (by omega)))
        | exact nx_ret rfl rfl (by rw [nx_good (HW.out.2 (by omega)).1]; exact (HW.out.2 (by omega)).2)
set_option maxHeartbeats 1600000 in
set_option maxRecDepth 100000 in
theorem next_three (s : ByteArray) (i : Nat) (w : World) (hi : i < s.size) (hs : s.size ≤ 9223372036854775807) (hL : Lead (bt s i) 3 224 2048) (hsz : 3 ≤ s.size - i) :
    Calls Tryz.prog 100 #[.string s, .int .i64 i] w (NxPost s i w) := by
  have HL := Lib.hid hL
  have hg := bt_get s i hi
  have hl : 224 ≤ s[i].toNat := by unfold Lead at hL; omega
  have hu : s[i].toNat < 240 := by unfold Lead at hL; omega
  clear hL
  have HG := Lib.hid hg
  clear hg
  have hz : ¬ (s.size : Int) - (i : Int) < 3 := by omega
  go_enter Tryz.func100, Tryz.ntmps100
  go_wp2
  go_loop [8, 10] (fun r k => ∃ j : Nat, 1 ≤ j ∧ j ≤ 3 ∧ k = .int .i64 j ∧ r = .int .i64 (acc s i (bt s i - 224) (j - 1) : Nat) ∧ ∀ t, 1 ≤ t → t < j → contAt s i t)  (fun _ k => 3 - (intOf k).toNat)
  case atStart => exact ⟨1, by omega, by omega, rfl, i64_eq (acc_start 224 HG.out (by omega) rfl), fun t h1 h2 => by omega⟩
  case round =>
    obtain ⟨j, hj1, hj2, rfl, rfl, hall⟩ := hrel
    have HA := Lib.hid hall
    clear hall
    have hA := acc_lt s i (bt s i - 224) (j - 1) (by have := HG.out; omega) (by omega)
    obtain ⟨A, hA'⟩ : ∃ A, acc s i (bt s i - 224) (j - 1) = A := ⟨_, rfl⟩
    rw [hA'] at hA
    have HA' := Lib.hid hA'
    rw [hA']
    clear hA'
    by_cases hj : j < 3
    · have hij : i + j < s.size := by omega
      have hc := bt_lt s (i + j)
      have hcg := bt_get s (i + j) hij
      rw [← hcg] at hc
      have HC := Lib.hid hcg
      clear hcg
      have HNX := Lib.hid (acc_next s i (bt s i - 224) j A hj1 HA'.out)
      go_wp2
      all_goals first
        | (go_ret2
           exact nx_ret rfl rfl (nx_bad (lead_cont HL.out hj1 hj (by rw [contAt, ← HC.out]; omega))))
        | (go_round
           case rel =>
             have k1 : 128 ≤ s[i + j].toNat := by omega
             have k2 : s[i + j].toNat ≤ 191 := by omega
             exact ⟨j + 1, by omega, by omega, by go_num, i64_eq (acc_step HNX.out HC.out k1 (by omega)), cont_all HA.out (by rw [← HC.out]; exact k1) (by rw [← HC.out]; exact k2)⟩
           case measure => simp [intOf]; omega)
    · obtain rfl : j = 3 := by omega
      have HW := Lib.hid (lead_whole HL.out hsz HA.out HA'.out.symm)
      clear hj hj1 hj2
      go_wp2
      all_goals
        go_ret2
        first
        | exact nx_ret rfl rfl (nx_bad (HW.out.1 (by omega)))
        | exact nx_ret rfl rfl (by rw [nx_good (HW.out.2 (by omega)).1]; exact (HW.out.2 (by omega)).2)
set_option maxHeartbeats 1600000 in
set_option maxRecDepth 100000 in
theorem next_four (s : ByteArray) (i : Nat) (w : World) (hi : i < s.size) (hs : s.size ≤ 9223372036854775807) (hL : Lead (bt s i) 4 240 65536) (hsz : 4 ≤ s.size - i) :
    Calls Tryz.prog 100 #[.string s, .int .i64 i] w (NxPost s i w) := by
  have HL := Lib.hid hL
  have hg := bt_get s i hi
  have hl : 240 ≤ s[i].toNat := by unfold Lead at hL; omega
  have hu : s[i].toNat < 245 := by unfold Lead at hL; omega
  clear hL
  have HG := Lib.hid hg
  clear hg
  have hz : ¬ (s.size : Int) - (i : Int) < 4 := by omega
  go_enter Tryz.func100, Tryz.ntmps100
  go_wp2
  go_loop [8, 10] (fun r k => ∃ j : Nat, 1 ≤ j ∧ j ≤ 4 ∧ k = .int .i64 j ∧ r = .int .i64 (acc s i (bt s i - 240) (j - 1) : Nat) ∧ ∀ t, 1 ≤ t → t < j → contAt s i t)  (fun _ k => 4 - (intOf k).toNat)
  case atStart => exact ⟨1, by omega, by omega, rfl, i64_eq (acc_start 240 HG.out (by omega) rfl), fun t h1 h2 => by omega⟩
  case round =>
    obtain ⟨j, hj1, hj2, rfl, rfl, hall⟩ := hrel
    have HA := Lib.hid hall
    clear hall
    have hA := acc_lt s i (bt s i - 240) (j - 1) (by have := HG.out; omega) (by omega)
    obtain ⟨A, hA'⟩ : ∃ A, acc s i (bt s i - 240) (j - 1) = A := ⟨_, rfl⟩
    rw [hA'] at hA
    have HA' := Lib.hid hA'
    rw [hA']
    clear hA'
    by_cases hj : j < 4
    · have hij : i + j < s.size := by omega
      have hc := bt_lt s (i + j)
      have hcg := bt_get s (i + j) hij
      rw [← hcg] at hc
      have HC := Lib.hid hcg
      clear hcg
      have HNX := Lib.hid (acc_next s i (bt s i - 240) j A hj1 HA'.out)
      go_wp2
      all_goals first
        | (go_ret2
           exact nx_ret rfl rfl (nx_bad (lead_cont HL.out hj1 hj (by rw [contAt, ← HC.out]; omega))))
        | (go_round
           case rel =>
             have k1 : 128 ≤ s[i + j].toNat := by omega
             have k2 : s[i + j].toNat ≤ 191 := by omega
             exact ⟨j + 1, by omega, by omega, by go_num, i64_eq (acc_step HNX.out HC.out k1 (by omega)), cont_all HA.out (by rw [← HC.out]; exact k1) (by rw [← HC.out]; exact k2)⟩
           case measure => simp [intOf]; omega)
    · obtain rfl : j = 4 := by omega
      have HW := Lib.hid (lead_whole HL.out hsz HA.out HA'.out.symm)
      clear hj hj1 hj2
      go_wp2
      all_goals
        go_ret2
        first
        | exact nx_ret rfl rfl (nx_bad (HW.out.1 (by omega)))
        | exact nx_ret rfl rfl (by rw [nx_good (HW.out.2 (by omega)).1]; exact (HW.out.2 (by omega)).2)
theorem next_any (s : ByteArray) (i : Nat) (w : World) (hi : i < s.size) (hs : s.size ≤ 9223372036854775807) :
    Calls Tryz.prog 100 #[.string s, .int .i64 i] w (NxPost s i w) := by
  by_cases h0 : bt s i < 128
  · exact next_ascii s i w hi h0
  by_cases h1 : bt s i < 194 ∨ 245 ≤ bt s i
  · exact next_none s i w hi (by omega) h1
  obtain ⟨n, off, least, hL⟩ : ∃ n off least, Lead (bt s i) n off least := by
    by_cases h2 : bt s i < 224
    · exact ⟨2, 192, 128, .inl ⟨rfl, rfl, rfl, by omega, h2⟩⟩
    by_cases h3 : bt s i < 240
    · exact ⟨3, 224, 2048, .inr (.inl ⟨rfl, rfl, rfl, by omega, h3⟩)⟩
    · exact ⟨4, 240, 65536, .inr (.inr ⟨rfl, rfl, rfl, by omega, by omega⟩)⟩
  by_cases hsz : s.size - i < n
  · exact next_short s i n off least w hi hL hsz
  have hL' := hL
  rcases hL with ⟨rfl, rfl, rfl, _⟩ | ⟨rfl, rfl, rfl, _⟩ | ⟨rfl, rfl, rfl, _⟩
  · exact next_two s i w hi hs hL' (by omega)
  · exact next_three s i w hi hs hL' (by omega)
  · exact next_four s i w hi hs hL' (by omega)

theorem next_at {s : ByteArray} {i a b : Nat} (w : World) (hi : i < s.size) (hs : s.size ≤ 9223372036854775807) (h : nx s i = (a, b)) :
    Calls Tryz.prog 100 #[.string s, .int .i64 i] w fun e w' => e = .returned (.tuple #[.int .i32 (a : Int), .int .i64 (b : Int)]) ∧ w = w' := by
  have := next_any s i w hi hs
  unfold NxPost at this
  rw [h] at this
  exact this
def DecRel (s : ByteArray) (W : World) (v i : Value) (wr : World) : Prop :=
  ∃ (p : Nat) (l : List Nat), i = .int .i64 p ∧ p ≤ s.size ∧ l.length ≤ p ∧ wr.ownsRow W.heap.size 21 1 v l.length (cel l) ∧ Below W.heap.size W wr ∧ l ++ rns s p = rns s 0 ∧ vls s p = vls s 0
set_option maxHeartbeats 1600000 in
set_option maxRecDepth 100000 in
theorem refDecode (s : ByteArray) (w : World) (hs : s.size ≤ 1000000000) :
    Calls Tryz.prog 60 #[.string s] w (DecPost s w) := by
  obtain ⟨i0, hi, hz0, hz1, hz2⟩ := info_parts infoRune
  go_enter Tryz.func60, Tryz.ntmps60
  go_wp2
  go_loopw [4, 5] (fun v i wr => DecRel s w v i wr) (fun _ i _ => s.size - (intOf i).toNat)
  case atStart => exact ⟨0, [], rfl, Nat.zero_le _, Nat.zero_le _, World.ownsRow_nil _ _ _ _, Below.refl _ _, rfl, rfl⟩
  case round =>
    obtain ⟨p, l, rfl, hp, hlp, hown, hbel, hl, hv⟩ := hrel
    have HL := Lib.hid hl
    have HV := Lib.hid hv
    clear hl hv
    have hbs := hbel.size
    by_cases hlt : p < s.size
    · by_cases hb : bad s p = true
      · have hnx := nx_bad hb
        have HB := Lib.hid hb
        clear hb
        have cN : ∀ W, Calls Tryz.prog 100 #[.string s, .int .i64 p] W _ := fun W => next_at W hlt (by omega) hnx
        clear hnx
        go_wp2_with (go_at_call 100; refine (cN _).mono ?_; rintro e w' ⟨rfl, rfl⟩)
        go_ret2
        exact dec_bad (by rw [← HV.out]; exact vls_bad hlt HB.out) hbel
      · have hb' : bad s p = false := by simpa using hb
        clear hb
        have hnx := nx_good hb'
        have HB := Lib.hid hb'
        clear hb'
        have hw1 := dc_pos s p
        have hw2 := dc_le s p hlt
        have HR := Lib.hid (rns_step hlt)
        have HS := Lib.hid (vls_good hlt HB.out)
        obtain ⟨r, k, hrk⟩ : ∃ r k, dc s p = (r, k) := ⟨_, _, rfl⟩
        have hr := dc_rune s p
        rw [hrk] at hnx hw1 hw2 HR HS hr
        dsimp only at hw1 hw2 HR HS hr
        clear hrk
        have cN : ∀ W, Calls Tryz.prog 100 #[.string s, .int .i64 p] W _ := fun W => next_at W hlt (by omega) hnx
        clear hnx
        have hk0 : ((k : Int) == 0) = false := by simp; omega
        go_wp2_with (first
          | (go_at_call 100; refine (cN _).mono ?_; rintro e w' ⟨rfl, rfl⟩)
          | (at_builtin; go_loud (refine wpList_append_own _ rfl _ _ 79 rfl w.heap.size 21 i0 (.int .i32 0) 1 4 Tryz.underlying79 hi hz0 hz1 hz2 rfl (by decide) _ _ _ rfl (hown.alloc _) ⟨wr.heap.size, 0, none⟩ 1 1 [.int .i32 (r : Int)] rfl rfl (cell_one_new _ _ _) (fun x hx => by simp at hx; subst hx; rfl) (by unfold maxLen; omega) (by omega) (by simp; omega) ?_); intro v' w1 hown1 hgrow1 _))
        go_roundw
        case rel =>
          exact ⟨p + k, l ++ [r], by go_num, hw2, by simp; omega, by simpa [cel] using hown1, ((hbel.alloc hbs _).grown hgrow1 (by simp; omega) (fun g hg => (hown.lt g hg).1)),
            by rw [List.append_assoc, List.singleton_append, ← HR.out]; exact HL.out, by rw [← HS.out]; exact HV.out⟩
        case measure => simp [intOf]; omega
    · have e1 := rns_end hlt
      have e2 := vls_end hlt
      have hl := HL.out
      have hv := HV.out
      rw [e1, List.append_nil] at hl
      rw [e2] at hv
      have HL2 := Lib.hid hl
      have HV2 := Lib.hid hv
      clear hl hv e1 e2
      go_wp2
      go_ret2
      exact dec_good HV2.out.symm HL2.out hown hbel
set_option maxHeartbeats 1600000 in
set_option maxRecDepth 100000 in
theorem refClass (r : Int) (w : World) : Calls Tryz.prog 62 #[.int .i32 r] w fun e w' => e = .returned (.int .i64 (cls r)) ∧ w = w' := by
  obtain ⟨c, hc⟩ : ∃ c, cls r = c := ⟨_, rfl⟩
  rw [hc]
  have HC := Lib.hid hc
  clear hc
  go_enter Tryz.func62, Tryz.ntmps62
  go_wp2
  all_goals go_ret
  all_goals
    refine ⟨ret_i64 (HC.out.symm.trans (cls_is r _ ?_)), rfl⟩
    simp only [beq_iff_eq, beq_eq_false_iff_ne, bne_iff_ne, bne_eq_false_iff_eq, ne_eq, and_true] at *
    omega
end Go.Proofs.YthonaeigacfmbaaGreatDoor.B
