/-
  The lexer's Lex: what it tells of any text.
-/
import Derived.Test.YthonaeigacfmbaaGreatDoorGp07
namespace Go.Proofs.YthonaeigacfmbaaGreatDoor.B
open Go.RowKit

def tcl (t : Tok × Nat) : List Value := [.int .i64 t.1.k, .string (T t.1.x), .int .i64 t.1.n, .int .i64 ((t.2 : Nat) : Int)]
def tcel : List (Tok × Nat) → List Value
  | [] => []
  | t :: r => tcl t ++ tcel r
theorem tcel_len (l : List (Tok × Nat)) : (tcel l).length = l.length * 4 := by
  induction l with
  | nil => rfl
  | cons t r ih => show (tcl t ++ tcel r).length = _; rw [List.length_append, ih, List.length_cons]; show 4 + _ = _; omega
theorem tcel_app (a b : List (Tok × Nat)) : tcel (a ++ b) = tcel a ++ tcel b := by
  induction a with
  | nil => rfl
  | cons t r ih => show tcl t ++ tcel (r ++ b) = _; rw [ih, ← List.append_assoc]; rfl
theorem tcel_at {l : List (Tok × Nat)} {j : Nat} {t : Tok × Nat} (h : l[j]? = some t) {i : Nat} {u : Value} (hu : (tcl t)[i]? = some u) : (tcel l)[j * 4 + i]? = some u := by
  have hi : i < 4 := (List.getElem?_eq_some_iff.1 hu).1
  induction l generalizing j with
  | nil => simp at h
  | cons x r ih =>
    show (tcl x ++ tcel r)[j * 4 + i]? = _
    cases j with
    | zero =>
      simp at h; subst h
      rw [Nat.zero_mul, Nat.zero_add, List.getElem?_append_left (by exact hi)]
      exact hu
    | succ j =>
      rw [List.getElem?_append_right (by show 4 ≤ _; omega)]
      have : (j + 1) * 4 + i - (tcl x).length = j * 4 + i := by show _ - 4 = _; omega
      rw [this]
      exact ih (by simpa using h)
def Tks (w : World) (B : Nat) (v : Value) (l : List (Tok × Nat)) : Prop :=
  ∃ A c, v = .slice A l.length c ∧ ∀ (j : Nat) t, l[j]? = some t → ∃ ad, A = some ad ∧ ad.block < B ∧ ∀ i u, (tcl t)[i]? = some u → w.cell? (ad.add (j * 4 + i)) = some u
theorem Tks.below {w w' : World} {B : Nat} {v : Value} {l : List (Tok × Nat)} (h : Tks w B v l) (hb : Below B w w') : Tks w' B v l := by
  obtain ⟨A, c, hv, hc⟩ := h
  refine ⟨A, c, hv, fun j t ht => ?_⟩
  obtain ⟨ad, hA, hlt, hcell⟩ := hc j t ht
  exact ⟨ad, hA, hlt, fun i u hu => (hb.cell (by rw [addBlock]; exact hlt)).trans (hcell i u hu)⟩
theorem Tks.more {w : World} {B B' : Nat} {v : Value} {l : List (Tok × Nat)} (h : Tks w B v l) (hB : B ≤ B') : Tks w B' v l := by
  obtain ⟨A, c, hv, hc⟩ := h
  refine ⟨A, c, hv, fun j t ht => ?_⟩
  obtain ⟨ad, hA, hlt, hcell⟩ := hc j t ht
  exact ⟨ad, hA, by omega, hcell⟩
theorem Tks.nil (w : World) (B : Nat) : Tks w B (.slice none 0 0) [] := ⟨none, 0, rfl, fun j u hu => by simp at hu⟩
theorem Tks.own {w : World} {base : Nat} {e : TypeId} {v : Value} {n : Nat} {l : List (Tok × Nat)} (h : w.ownsRow base e 4 v n (tcel l)) : Tks w w.heap.size v l := by
  have hn : l.length = n := by have := h.1; rw [tcel_len] at this; omega
  subst hn
  by_cases h0 : 0 < l.length
  · obtain ⟨g, cap, hv, _, hlt⟩ := h.form h0
    refine ⟨some ⟨g, 0, none⟩, cap, hv, fun j t ht => ⟨_, rfl, hlt, fun i u hu => ?_⟩⟩
    exact h.cells (g := g) (by rw [hv]; rfl) _ _ (tcel_at ht hu)
  · have hl : l = [] := List.eq_nil_of_length_eq_zero (by omega)
    subst hl
    rcases h.2 with ⟨hv, _⟩ | ⟨g, cap, cur, hv, _⟩
    · exact ⟨none, 0, hv, fun j u hu => by simp at hu⟩
    · exact ⟨_, cap, hv, fun j u hu => by simp at hu⟩

def LexPost (r : List (Tok × Nat) × Int × Int) (W : World) (e : Ending) (w' : World) : Prop :=
  ∃ v, e = .returned (.tuple #[v, .int .i64 r.2.1, .int .i64 r.2.2]) ∧ Tks w' w'.heap.size v r.1 ∧ Below W.heap.size W w'
theorem lexp_no {r : List (Tok × Nat) × Int × Int} {W w' : World} {a b : Int} (h : r = ([], a, b)) (hb : Below W.heap.size W w') : LexPost r W (.returned (.tuple #[.slice none 0 0, .int .i64 a, .int .i64 b])) w' := by
  subst h; exact ⟨_, rfl, Tks.nil _ _, hb⟩
theorem lexp_ok {r : List (Tok × Nat) × Int × Int} {W w' : World} {base : Nat} {e : TypeId} {v : Value} {n : Nat} {l : List (Tok × Nat)} (h : r = (l, 0, 0)) (ho : w'.ownsRow base e 4 v n (tcel l)) (hb : Below W.heap.size W w') :
    LexPost r W (.returned (.tuple #[v, .int .i64 0, .int .i64 0])) w' := by
  subst h; exact ⟨_, rfl, Tks.own ho, hb⟩
theorem cell_four_new (w : World) (o : Obj) (a b c d : Value) (t : TypeId) : ∀ (j : Nat) u, [a, b, c, d][j]? = some u → ((w.alloc o).alloc (.cells #[a, b, c, d] t)).cell? ((⟨w.heap.size + 1, 0, none⟩ : Addr).add j) = some u := by
  intro j u hj
  have hb : ((w.alloc o).alloc (.cells #[a, b, c, d] t)).heap[w.heap.size + 1]? = some (.cells #[a, b, c, d] t (0, 0)) := heap_alloc2_new w _ _
  have e : (⟨w.heap.size + 1, 0, none⟩ : Addr).add j = ⟨w.heap.size + 1, j, none⟩ := by unfold Addr.add; split <;> simp_all
  rw [e, cell_of_row _ _ j _ _ _ hb, ← hj]
  simp
theorem one_four {a b c d : Value} (ha : a.oneCell' = true) (hb : b.oneCell' = true) (hc : c.oneCell' = true) (hd : d.oneCell' = true) : ∀ u ∈ [a, b, c, d], u.oneCell' = true := by
  intro u hu
  simp only [List.mem_cons, List.not_mem_nil, or_false] at hu
  rcases hu with rfl | rfl | rfl | rfl <;> assumption
theorem infoTok : (Tryz.prog.info? 63).map (fun i => (i.zero, i.size, i.bytes)) = some (some (.agg #[.int .i64 0, .string ⟨#[]⟩, .int .i64 0, .int .i64 0]), 4, 40) := by kernel_rfl
def Rel (L : List Nat) (out : List (Tok × Nat)) (b : List Nat) (a : Nat) : Prop :=
  match lexL b a with | .inl r => lexL L 0 = .inl (out ++ r) | .inr e => lexL L 0 = .inr e
theorem rel_start (L : List Nat) : Rel L [] L 0 := by
  unfold Rel
  cases h : lexL L 0 with
  | inl r => rfl
  | inr e => rfl
theorem rel_end {L b : List Nat} {out : List (Tok × Nat)} {a : Nat} (h : Rel L out b a) (e : b.drop (btw b) = []) : lexL L 0 = .inl out := by
  unfold Rel at h
  rw [lex_end e] at h
  simpa using h
theorem rel_bad {L b : List Nat} {out : List (Tok × Nat)} {a : Nat} (h : Rel L out b a) (e : b.drop (btw b) ≠ []) (e2 : tokT (b.drop (btw b)) = none) : lexL L 0 = .inr (a + sz (b.take (btw b))) := by
  unfold Rel at h
  rw [lex_bad e e2] at h
  exact h
theorem rel_next {L b : List Nat} {out : List (Tok × Nat)} {a : Nat} {t : Tok} {n : Nat} (h : Rel L out b a) (e : b.drop (btw b) ≠ []) (e2 : tokT (b.drop (btw b)) = some (t, n)) :
    Rel L (out ++ [(t, a + sz (b.take (btw b)))]) ((b.drop (btw b)).drop n) (a + sz (b.take (btw b)) + sz ((b.drop (btw b)).take n)) := by
  unfold Rel at h ⊢
  rw [lex_next e e2] at h
  cases hx : lexL ((b.drop (btw b)).drop n) (a + sz (b.take (btw b)) + sz ((b.drop (btw b)).take n)) with
  | inl r => rw [hx] at h; simpa using h
  | inr e => rw [hx] at h; exact h
theorem lexR_ck {s : ByteArray} {a b : Int} (h : ckr s = (a, b)) (hb : b ≠ 0) : lexR s = ([], a, b) := by
  unfold lexR; rw [h, if_neg hb]
theorem lexR_ok {s : ByteArray} {l : List (Tok × Nat)} (h : (ckr s).2 = 0) (e : lexL (rns s 0) 0 = .inl l) : lexR s = (l, 0, 0) := by
  unfold lexR; rw [if_pos h, e]
theorem lexR_bad {s : ByteArray} {a : Nat} (h : (ckr s).2 = 0) (e : lexL (rns s 0) 0 = .inr a) : lexR s = ([], (a : Int), 5) := by
  unfold lexR; rw [if_pos h, e]
theorem ckr_ok {s : ByteArray} (h : (ckr s).2 = 0) : ckr s = (0, 0) ∧ vls s 0 = true ∧ (∀ r ∈ rns s 0, rdb (r : Int) = true) ∧ s.size ≤ 16384 := by
  unfold ckr at h ⊢
  by_cases hs : 16384 < s.size
  · rw [if_pos hs] at h; exact absurd h (by decide)
  · rw [if_neg hs] at h ⊢
    rcases ck_ok s 0 with ⟨h1, h2, h3, h4⟩ | h1
    · exact ⟨Prod.ext h2 h1, h3, h4, by omega⟩
    · rw [h] at h1; exact absurd h1 (by decide)

set_option maxHeartbeats 6400000 in
set_option maxRecDepth 100000 in
theorem lex_any (s : ByteArray) (hs : s.size ≤ 1000000000) (w : World) (hL : Lx w) :
    Calls Tryz.prog 35 #[.string s] w (LexPost (lexR s) w) := by
  have cK := goodCheck s w hs
  have hck : CkPost s w = fun e w' => e = .returned (.tuple #[.int .i64 (ckr s).1, .int .i64 (ckr s).2]) ∧ Below w.heap.size w w' := rfl
  rw [hck] at cK
  clear hck
  by_cases hok : (ckr s).2 = 0
  · obtain ⟨hc, hv, hrd, hsz⟩ := ckr_ok hok
    rw [hc] at cK
    obtain ⟨L, hLd⟩ : ∃ L, rns s 0 = L := ⟨_, rfl⟩
    have hT : T L = s := by rw [← hLd]; exact T_rns hv
    have hoL : okl L := by rw [← hLd]; exact rns_okl hv
    have HOK := Lib.hid hok
    have HLD := Lib.hid hLd
    have HS := Lib.hid hT
    obtain ⟨i0, hi, hz0, hz1, hz2⟩ := info_parts infoTok
    clear hok hc hv hrd hLd hT
    go_enter Tryz.func35, Tryz.ntmps35
    go_wp2_with fail
    refine cK.mono ?_
    rintro e w1 ⟨rfl, hb1⟩
    go_wp2
    go_loopw [2, 3] (fun v x wr => ∃ (a b : List Nat) (out : List (Tok × Nat)), L = a ++ b ∧ x = .int .i64 (sz a : Nat) ∧ sz a ≤ s.size ∧ out.length ≤ sz a ∧ wr.ownsRow w.heap.size 63 4 v out.length (tcel out) ∧ Below w.heap.size w wr ∧ Rel L out b (sz a)) (fun _ x _ => s.size - (intOf x).toNat)
    case atStart => exact ⟨[], L, [], rfl, rfl, Nat.zero_le _, Nat.zero_le _, ⟨rfl, .inl ⟨rfl, rfl⟩⟩, hb1, rel_start L⟩
    case round =>
      obtain ⟨a, b, out, hl, rfl, hle, hol, hown, hbw, hrel⟩ := hrel
      have hob := (okl_app.1 (hl ▸ hoL)).2
      have hbl := btw_le b
      obtain ⟨c, hc⟩ : ∃ c, b.take (btw b) = c := ⟨_, rfl⟩
      obtain ⟨d, hd⟩ : ∃ d, b.drop (btw b) = d := ⟨_, rfl⟩
      have hbcd : b = c ++ d := by rw [← hc, ← hd]; exact (List.take_append_drop _ _).symm
      have hod := (okl_app.1 (hbcd ▸ hob)).2
      have hszs : s.size = sz a + (sz c + sz d) := by rw [← HS.out, T_size, hl, hbcd, sz_app, sz_app]
      have E1 : Hid (s.extract (sz a) s.size = T b) := Lib.hid (by rw [← HS.out, T_size, hl]; exact T_suf a b)
      have E2 : Hid (s.extract (sz a + sz c) s.size = T d) := Lib.hid (by rw [← HS.out, T_size, hl, hbcd, ← List.append_assoc, ← sz_app]; exact T_suf (a ++ c) d)
      have hzb : sz b ≤ 1000000000 := by rw [hbcd, sz_app]; omega
      have c1 := fun W => between_any b hob W hzb
      rw [hc] at c1
      have hac : sz a + sz c ≤ s.size := by omega
      by_cases hde : d = []
      · have HEND := Lib.hid (rel_end hrel (by rw [hd]; exact hde))
        have hat : ((sz a : Int) + (sz c : Int) == (s.size : Int)) = true := by
          rw [hde, sz_nil] at hszs
          rw [beq_iff_eq]; omega
        have hat2 : (sz a : Int) + (sz c : Int) = (s.size : Int) := by simpa using hat
        have HOWN := Lib.hid hown
        have HLD2 := HLD
        clear hl hc hd hbcd hde hszs hrel hown
        clear hat
        go_wp2_with fail
        rw [E1.out]
        refine (c1 _).mono ?_
        rintro e w2 ⟨rfl, hb2⟩
        have hfin := hbw.trans (hb2.mono hbw.size)
        have HOWN2 := Lib.hid (own_below HOWN.out hb2)
        clear HOWN
        go_wp2
        go_ret3
        exact lexp_ok (lexR_ok HOK.out (by rw [HLD2.out]; exact HEND.out)) HOWN2.out hfin
      · obtain ⟨r, u, hru⟩ : ∃ r u, d = r :: u := by
          cases d with
          | nil => exact absurd rfl hde
          | cons r u => exact ⟨r, u, rfl⟩
        have hwr := wd_pos r
        have hzd : sz d = wd r + sz u := by rw [hru, sz_cons]
        have hat : ((sz a : Int) + (sz c : Int) == (s.size : Int)) = false := by
          rw [beq_eq_false_iff_ne]; omega
        have cT := fun W hL => token_any r u (hru ▸ hod) (by rw [← hru]; omega) W hL
        rw [← hru] at cT
        cases htok : tokT d with
        | none =>
          have HBAD := Lib.hid (rel_bad hrel (by rw [hd]; exact hde) (by rw [hd]; exact htok))
          have HC := Lib.hid hc
          rw [htok] at cT
          have CT := Lib.hid cT
          have HOWN := Lib.hid hown
          clear hl hc hd hbcd hde hszs hrel hown hru hzd htok cT
          go_wp2_with fail
          rw [E1.out]
          refine (c1 _).mono ?_
          rintro e w2 ⟨rfl, hb2⟩
          have hbw2 := hbw.trans (hb2.mono hbw.size)
          go_wp2_with fail
          rw [E2.out]
          refine (CT.out w2 (hL.below hbw2)).mono ?_
          rintro e w3 ⟨rfl, hb3⟩
          have hfin := hbw2.trans (hb3.mono hbw2.size)
          have hsz3 := hfin.size
          unfold tv0
          go_wp2
          go_ret3
          refine lexp_no ?_ (hfin.alloc hsz3 _)
          have hh := HBAD.out
          rw [HC.out] at hh
          rw [lexR_bad HOK.out (by rw [HLD.out]; exact hh)]
          go_num
        | some tn =>
          obtain ⟨t, n⟩ := tn
          have hn := tokT_some htok
          have HNEXT := Lib.hid (rel_next hrel (by rw [hd]; exact hde) (by rw [hd]; exact htok))
          obtain ⟨f, hf⟩ : ∃ f, d.take n = f := ⟨_, rfl⟩
          obtain ⟨g, hg⟩ : ∃ g, d.drop n = g := ⟨_, rfl⟩
          have hdfg : d = f ++ g := by rw [← hf, ← hg]; exact (List.take_append_drop _ _).symm
          have hzf : 1 ≤ sz f := by
            have h1 := sz_len f
            have h2 : f.length = n := by rw [← hf, List.length_take]; omega
            omega
          have hzfg : sz d = sz f + sz g := by rw [hdfg, sz_app]
          have HREL : Hid (Rel L (out ++ [(t, sz a + sz c)]) g (sz (a ++ (c ++ f)))) := Lib.hid (by
            have := HNEXT.out
            rw [hd, hc, hf, hg] at this
            rw [sz_app, sz_app, ← Nat.add_assoc]
            exact this)
          have HL2 : Hid (L = (a ++ (c ++ f)) ++ g ∧ sz (a ++ (c ++ f)) = sz a + sz c + sz f) := Lib.hid ⟨by rw [hl, hbcd, hdfg]; simp, by rw [sz_app, sz_app]; omega⟩
          have hnew : sz a + sz c + sz f ≤ s.size := by omega
          have hz0' : ((sz f : Int) == 0) = false := by rw [beq_eq_false_iff_ne]; omega
          rw [htok] at cT
          have CT : Hid (∀ W, Lx W → Calls Tryz.prog 73 #[.string (T d)] W fun e w' => e = .returned (.tuple #[.agg #[.int .i64 t.k, .string (T t.x), .int .i64 t.n, .int .i64 0], .int .i64 (sz f : Nat)]) ∧ Below W.heap.size W w') := Lib.hid (fun W hL => (cT W hL).mono fun _ _ k => by rw [← hf]; exact k)
          obtain ⟨K, hK⟩ : ∃ K, t.k = K := ⟨_, rfl⟩
          obtain ⟨X, hX⟩ : ∃ X, T t.x = X := ⟨_, rfl⟩
          obtain ⟨M, hM⟩ : ∃ M, t.n = M := ⟨_, rfl⟩
          rw [hK, hX, hM] at CT
          have HTC : Hid (tcl (t, sz a + sz c) = [.int .i64 K, .string X, .int .i64 M, .int .i64 ((sz a + sz c : Nat) : Int)]) := Lib.hid (by unfold tcl; rw [hK, hX, hM])
          have HOWN := Lib.hid hown
          clear hl hc hd hbcd hde hszs hrel hown hru hzd htok cT hf hg hdfg hzfg hK hX hM HNEXT
          go_wp2_with fail
          rw [E1.out]
          refine (c1 _).mono ?_
          rintro e w2 ⟨rfl, hb2⟩
          have hbw2 := hbw.trans (hb2.mono hbw.size)
          go_wp2_with fail
          rw [E2.out]
          refine (CT.out w2 (hL.below hbw2)).mono ?_
          rintro e w3 ⟨rfl, hb3⟩
          have hfin := hbw2.trans (hb3.mono hbw2.size)
          have hsz3 := hfin.size
          have hown3 := own_below (own_below HOWN.out hb2) hb3
          have HOWN3 := Lib.hid hown3
          clear hown3 HOWN
          go_wp2_with (at_builtin; (refine wpList_append_own _ rfl _ _ 22 rfl w.heap.size 63 i0 (.agg #[.int .i64 0, .string ⟨#[]⟩, .int .i64 0, .int .i64 0]) 4 40 Tryz.underlying22 hi hz0 hz1 hz2 rfl (by decide) _ _ _ rfl ((HOWN3.out.alloc _).alloc _) ⟨w3.heap.size + 1, 0, none⟩ 1 1 [.int .i64 K, .string X, .int .i64 M, .int .i64 ((sz a : Int) + (sz c : Int))] rfl rfl (cell_four_new _ _ _ _ _ _ _) (one_four rfl rfl rfl rfl) (by unfold maxLen; omega) (by omega) (by simp; omega) ?_); intro v' w4 hown4 hgrow4 _)
          have hbel := ((hfin.alloc hsz3 _).alloc (by simp; omega) _).grown hgrow4 (by simp; omega) (fun g hg => (HOWN3.out.lt g hg).1)
          have HBEL := Lib.hid hbel
          have HOWN4 := Lib.hid hown4
          clear hbel hown4 hgrow4
          go_roundw
          case rel =>
            refine ⟨a ++ (c ++ f), g, out ++ [(t, sz a + sz c)], HL2.out.1, by rw [HL2.out.2]; go_num, by rw [HL2.out.2]; exact hnew, by rw [HL2.out.2, List.length_append, List.length_singleton]; omega, ?_, HBEL.out, HREL.out⟩
            have e : tcel (out ++ [(t, sz a + sz c)]) = tcel out ++ [.int .i64 K, .string X, .int .i64 M, .int .i64 ((sz a : Int) + (sz c : Int))] := by
              rw [tcel_app]
              show tcel out ++ (tcl _ ++ []) = _
              rw [List.append_nil, HTC.out, Int.natCast_add]
            rw [e, List.length_append, List.length_singleton]
            exact HOWN4.out
          case measure => simp [intOf]; omega
  · obtain ⟨x, y, hxy⟩ : ∃ x y, ckr s = (x, y) := ⟨_, _, rfl⟩
    rw [hxy] at cK hok
    have hy : (y == 0) = false := by rw [beq_eq_false_iff_ne]; exact hok
    have hy2 : (y != 0) = true := by rw [bne, hy]; rfl
    have HXY := Lib.hid hxy
    have HOK := Lib.hid hok
    clear hxy hok
    go_enter Tryz.func35, Tryz.ntmps35
    go_wp2_with fail
    refine cK.mono ?_
    rintro e w1 ⟨rfl, hb1⟩
    go_wp2
    go_ret3
    exact lexp_no (lexR_ck HXY.out HOK.out) hb1
end Go.Proofs.YthonaeigacfmbaaGreatDoor.B
namespace Go.Proofs.YthonaeigacfmbaaGreatDoor.B
open Go.RowKit

theorem addAdd (a : Addr) (i j : Nat) : (a.add i).add j = a.add (i + j) := by
  by_cases hi : i = 0
  · subst hi
    have e : a.add 0 = a := by simp [Addr.add]
    rw [e, Nat.zero_add]
  · by_cases hj : j = 0
    · subst hj
      have e : ∀ b : Addr, b.add 0 = b := fun b => by simp [Addr.add]
      rw [e, Nat.add_zero]
    · unfold Addr.add
      simp [hi, hj, Nat.add_assoc]
def TokAt (w : World) (b : Addr) (K : Int) (X : ByteArray) (M P : Int) : Prop :=
  w.cell? b = some (.int .i64 K) ∧ w.cell? ⟨b.block, b.off + 1, none⟩ = some (.string X) ∧ w.cell? ⟨b.block, b.off + 2, none⟩ = some (.int .i64 M) ∧ w.cell? ⟨b.block, b.off + 3, none⟩ = some (.int .i64 P)
theorem Tks.at_ {w : World} {B : Nat} {A : Option Addr} {n c : Nat} {l : List (Tok × Nat)} (h : Tks w B (.slice A n c) l) {k : Nat} {x : Tok × Nat} (hx : l[k]? = some x) :
    ∃ ad, A = some ad ∧ ad.block < B ∧ TokAt w (ad.add (k * 4)) x.1.k (T x.1.x) x.1.n ((x.2 : Nat) : Int) := by
  obtain ⟨A', c', hv, hc⟩ := h
  obtain ⟨ad, hA, hlt, hcell⟩ := hc k x hx
  injection hv with h1 h2 h3
  refine ⟨ad, by rw [h1, hA], hlt, hcell 0 _ rfl, ?_, ?_, ?_⟩
  · have := hcell 1 _ rfl
    rw [← addAdd] at this
    exact this
  · have := hcell 2 _ rfl
    rw [← addAdd] at this
    exact this
  · have := hcell 3 _ rfl
    rw [← addAdd] at this
    exact this
theorem Tks.len {w : World} {B : Nat} {A : Option Addr} {n c : Nat} {l : List (Tok × Nat)} (h : Tks w B (.slice A n c) l) : n = l.length := by
  obtain ⟨A', c', hv, hc⟩ := h
  injection hv
theorem Tks.form {w : World} {B : Nat} {v : Value} {l : List (Tok × Nat)} (h : Tks w B v l) : ∃ A c, v = .slice A l.length c := by
  obtain ⟨A', c', hv, hc⟩ := h
  exact ⟨A', c', hv⟩
/-! ### the chapter's example -/
theorem Rc.newc (w : World) (cs : Array Value) : Rc (w.alloc (.cells cs 63)) w.heap.size cs := heap_alloc_new w _
theorem TokAt.below {w w' : World} {B : Nat} {b : Addr} {K : Int} {X : ByteArray} {M P : Int} (h : TokAt w b K X M P) (hb : Below B w w') (hlt : b.block < B) : TokAt w' b K X M P :=
  ⟨(hb.cell hlt).trans h.1, (hb.cell (p := ⟨b.block, b.off + 1, none⟩) hlt).trans h.2.1, (hb.cell (p := ⟨b.block, b.off + 2, none⟩) hlt).trans h.2.2.1, (hb.cell (p := ⟨b.block, b.off + 3, none⟩) hlt).trans h.2.2.2⟩
end Go.Proofs.YthonaeigacfmbaaGreatDoor.B
