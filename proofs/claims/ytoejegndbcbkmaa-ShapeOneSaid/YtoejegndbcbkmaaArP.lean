/-
  The program's Put: what it tells.
-/
import Derived.Test.YtoejegndbcbkmaaArA
import Derived.Test.YtoejegndbcbkmaaArC
namespace Go.Proofs.Ytoejegndbcbkmaa
open Go.RowKit

theorem with_snoc : ∀ (p : List Int) (t T u s : Tr) (i : Int), atT t p = some T → getZ T.2 i = some u → withT t (p ++ [i]) s = withT t p (T.1, T.2.set i.toNat s)
  | [], t, T, u, s, i, h, hg => by
    injection h with h
    subst h
    rw [List.nil_append, withT_some [] s hg]
    rfl
  | j :: p, t, T, u, s, i, h, hg => by
    unfold atT at h
    cases hj : getZ t.2 j with
    | none => rw [hj] at h; cases h
    | some v =>
      rw [hj] at h
      rw [List.cons_append, withT_some (p ++ [i]) s hj, withT_some p _ hj, with_snoc p v T u s i h hg]
theorem at_snoc : ∀ (p : List Int) (t T : Tr) (i : Int), atT t p = some T → atT t (p ++ [i]) = atT T [i]
  | [], t, T, i, h => by injection h with h; subst h; rfl
  | j :: p, t, T, i, h => by
    unfold atT at h
    cases hj : getZ t.2 j with
    | none => rw [hj] at h; cases h
    | some v =>
      rw [hj] at h
      rw [List.cons_append, atT_some _ hj]
      exact at_snoc p v T i h
theorem PtF.set {w : World} {S : Nat → Prop} {v : Value} {t : Tr} (hv : InT w S v t) : ∀ {vs : List Value} {f : Fr} {m : Nat}, PtF w S vs f → PtF w S (vs.set m v) (f.set m t)
  | [], .nil, _, _ => trivial
  | [], .cons _ _ _, _, h => h.elim
  | _ :: _, .nil, _, h => h.elim
  | _ :: _, .cons _ _ _, 0, h => ⟨hv, h.2⟩
  | _ :: _, .cons _ _ _, _ + 1, h => ⟨h.1, PtF.set hv h.2⟩
theorem PtF.at {w : World} {S : Nat → Prop} : ∀ {vs : List Value} {f : Fr} {m : Nat} {t : Tr}, PtF w S vs f → f.get m = some t → ∃ v, vs[m]? = some v ∧ InT w S v t
  | [], .nil, _, _, _, h => by cases h
  | [], .cons _ _ _, _, _, h, _ => h.elim
  | _ :: _, .nil, _, _, h, _ => h.elim
  | v :: _, .cons _ _ _, 0, _, h, hg => by injection hg with hg; subst hg; exact ⟨v, rfl, h.1⟩
  | _ :: vs, .cons _ _ rs, m + 1, _, h, hg => PtF.at (vs := vs) (f := rs) (m := m) h.2 hg
/-- What the place is worth: with another tree there, the whole is the tree that has it at the path. -/
def Ctx (W : World) (Sq : Nat → Prop) (t : Tr) (p : List Int) (H hb ho : Nat) (wr : World) : Prop :=
  ∀ (w2 : World) (uv : Value) (s : Tr), wr.heap.size ≤ w2.heap.size → (∀ b, b < wr.heap.size → b ≠ hb → w2.heap[b]? = wr.heap[b]?) → (∀ o, o ≠ ho → w2.cell? ⟨hb, o, none⟩ = wr.cell? ⟨hb, o, none⟩) → w2.cell? ⟨hb, ho, none⟩ = some uv →
    InT w2 (Sin Sq W w2) uv s → ∃ v, w2.cell? ⟨H, 0, none⟩ = some v ∧ InT w2 (Sin Sq W w2) v (withT t p s)
theorem cell_same {w : World} {a : Addr} {v u : Value} (h : w.cell? a = some v) : (w.setCell a u).cell? a = some u := by
  apply World.cell?_setCell_same
  exact h
theorem cell_other {w : World} {b o o' : Nat} (u : Value) (h : o ≠ o') : (w.setCell ⟨b, o', none⟩ u).cell? ⟨b, o, none⟩ = w.cell? ⟨b, o, none⟩ := by
  apply World.cell?_setCell_other
  intro e
  injection e with _ e
  exact h e.symm
theorem Ctx.step {W wr w5 : World} {Sq : Nat → Prop} {t u : Tr} {x : Nod} {ks : Fr} {p : List Int} {H hb ho C g m N cap : Nat} {us : List Value} (h : Ctx W Sq t p H hb ho wr) (hS : Bel Sq H) (hHW : W.heap.size = H) (hH : H ≤ hb) (hhb : hb < wr.heap.size)
    (hat : atT t p = some (x, ks)) (hg : getZ ks (m : Int) = some u) (hC : wr.heap.size ≤ C) (hgC : wr.heap.size ≤ g) (hCg : C ≠ g) (hN : ks.len = N) (hNc : N ≤ cap) (hC5 : C < w5.heap.size) (hg5 : g < w5.heap.size) (hsz : wr.heap.size ≤ w5.heap.size)
    (hk : ∀ b, b < wr.heap.size → b ≠ hb → w5.heap[b]? = wr.heap[b]?) (hk2 : ∀ o, o ≠ ho → w5.cell? ⟨hb, o, none⟩ = wr.cell? ⟨hb, o, none⟩) (hk3 : w5.cell? ⟨hb, ho, none⟩ = some (.pointer (some ⟨C, 0, none⟩)))
    (hn : Nb w5 C x (.slice (some ⟨g, 0, none⟩) N cap)) (hus : PtF W Sq us ks) (hrow : ∀ (j : Nat) v, us[j]? = some v → w5.cell? ⟨g, j, none⟩ = some v) (hb5 : Below H W wr) : Ctx W Sq t (p ++ [(m : Int)]) H g m w5 := by
  intro w2 uv s h1 h2 h3 h4 h5
  have e := with_snoc p t (x, ks) u s (m : Int) hat hg
  rw [Int.toNat_natCast] at e
  rw [e]
  have hm : m < N := by rw [← hN]; exact Fr.get_lt (getZ_some hg).2
  have hold : ∀ b, Sq b → w2.heap[b]? = W.heap[b]? := fun b hb' => by
    have hb1 := hS b hb'
    have hbs := hb5.size
    rw [h2 b (by omega) (by omega), hk b (by omega) (by omega), hb5.block b hb1]
  have hus2 : PtF w2 (Sin Sq W w2) us ks := hus.keep (fun q h => .inl h) hold
  have hset := PtF.set (m := m) h5 hus2
  have hC2 : w2.heap[C]? = w5.heap[C]? := h2 C hC5 hCg
  have hbW := hb5.size
  refine h w2 (.pointer (some ⟨C, 0, none⟩)) (x, ks.set m s) (by omega) (fun b hb1 hb2 => ?_) (fun o ho1 => ?_) ?_ ?_
  · rw [h2 b (by omega) (by omega), hk b hb1 hb2]
  · rw [World.cell?_of_block (w := w5) (h2 hb (by omega) (by omega)), hk2 o ho1]
  · rw [World.cell?_of_block (w := w5) (h2 hb (by omega) (by omega)), hk3]
  · have hn2 : Nb w2 C x (.slice (some ⟨g, 0, none⟩) N cap) := hC2.trans hn
    have c : ∀ i u, (#[Value.int .i64 x.k, .int .i64 x.n, .string x.a, .string x.m, .slice (some ⟨g, 0, none⟩) N cap] : Array Value)[i]? = some u → w2.cell? ⟨C, i, none⟩ = some u := by
      intro i u hu
      rw [cell_of_row w2 C i _ _ _ hn2]
      exact hu
    have hl : (ks.set m s).len = N := by rw [Fr.len_set]; exact hN
    refine ⟨C, 0, some ⟨g, 0, none⟩, cap, rfl, .inr ⟨by omega, by omega⟩, ⟨_, _, hn2⟩, c 0 _ rfl, c 1 _ rfl, c 2 _ rfl, c 3 _ rfl, by simp only [hl]; exact c 4 _ rfl, by simp only [hl]; exact hNc, fun _ => ⟨g, 0, rfl, .inr ⟨by omega, by omega⟩, hset.row fun j v hv => ?_⟩⟩
    rw [Nat.zero_add]
    by_cases ej : j = m
    · subst ej
      rw [List.getElem?_set_self (by rw [hus.len]; omega)] at hv
      injection hv with hv
      rw [h4, hv]
    · rw [List.getElem?_set_ne (Ne.symm ej)] at hv
      rw [h3 j ej]
      exact hrow j v hv
theorem own_cap {w : World} {base : Nat} {e : TypeId} {g n cap : Nat} {xs : List Value} (h : w.ownsRow base e 1 (.slice (some ⟨g, 0, none⟩) n cap) n xs) : n ≤ cap := by
  rcases h.2 with ⟨h1, _⟩ | ⟨g', cap', cur, h1, _, _, h2, _⟩
  · simp at h1
  · injection h1 with _ _ h1
    rw [h1]
    exact h2
/-- What holds at the head of a round. -/
def PutRel (W : World) (Sq : Nat → Prop) (t u : Tr) (l : List Int) (H : Nat) (hv i : Value) (wr : World) : Prop :=
  ∃ (k hb ho q p : Nat) (T : Tr), i = .int .i64 k ∧ k ≤ l.length ∧ hv = .pointer (some ⟨hb, ho, none⟩) ∧ H ≤ hb ∧ hb < wr.heap.size ∧ wr.cell? ⟨hb, ho, none⟩ = some (.pointer (some ⟨q, p, none⟩)) ∧ wr.frozen? ⟨hb, ho, none⟩ = false ∧
    InT W Sq (.pointer (some ⟨q, p, none⟩)) T ∧ atT t (l.take k) = some T ∧ atT T (l.drop k) = some u ∧ Below H W wr ∧ Ctx W Sq t (l.take k) H hb ho wr ∧ (hb ≠ H ∨ (hb = H ∧ ho = 0))
theorem take_at {l : List Int} {k : Nat} {x : Int} (h : l[k]? = some x) : l.take (k + 1) = l.take k ++ [x] := by
  rw [List.take_add_one, h]
  rfl
set_option maxHeartbeats 3200000 in
set_option maxRecDepth 100000 in
theorem arPut (t : Option Tr) (l : List Int) (s : Option Tr) (w : World) (Sq : Nat → Prop) (v pv sv : Value) (hS : Bel Sq w.heap.size) (ht : InO w Sq v t) (hs : InO w Sq sv s) (hp : Sp w w.heap.size pv l) (hl : l.length ≤ 1000000) (hsz : szO t ≤ 1000000) :
    Calls Try.prog 18 #[v, pv, sv] w (TePost Sq (putO t l s) (putE t l s) w) := by
  have c1 := arAt t l w Sq w.heap.size v pv ht hp (by omega)
  have HT := Lib.hid ht
  have HS := Lib.hid hs
  have HP := Lib.hid hp
  obtain ⟨PA, pc, rfl, hpc, hpcl⟩ := hp
  have HPC := Lib.hid hpcl
  have hv : ∃ a, v = .pointer a := by
    cases t with
    | none => exact ⟨none, ht⟩
    | some t => obtain ⟨q, o, h⟩ := InT.ptr ht; exact ⟨_, h⟩
  obtain ⟨va, rfl⟩ := hv
  have hsv : ∃ a, sv = .pointer a := by
    cases s with
    | none => exact ⟨none, hs⟩
    | some t => obtain ⟨q, o, h⟩ := InT.ptr hs; exact ⟨_, h⟩
  obtain ⟨sa, rfl⟩ := hsv
  clear ht hs hpcl
  by_cases he : atE t l = 0
  · rw [he] at c1
    obtain ⟨t', u, rfl, hat⟩ := atE_zero he
    cases s with
    | none =>
      have hsa : sa = none := by have h : Value.pointer sa = .pointer none := HS.out; injection h
      subst hsa
      have HU := Lib.hid (put_nil he)
      clear he hat
      go_enter Try.func18, Try.ntmps18
      go_wp2_with fail
      refine c1.mono ?_
      rintro e w1 ⟨v1, rfl, -, q, rfl⟩
      go_wp2_with fail
      go_ret2
      exact te_ret HU.out.2 (by rw [HU.out.1]; rfl) (below_drewN' (Below.refl _ _) q)
    | some s =>
      have HU := Lib.hid (put_yes (s := s) hat)
      obtain ⟨q0, o0, hsa⟩ := InT.ptr HS.out
      injection hsa with hsa
      subst hsa
      obtain ⟨q1, o1, hva⟩ := InT.ptr HT.out
      injection hva with hva
      subst hva
      have HAT := Lib.hid hat
      obtain ⟨M, hM⟩ : ∃ M, l.length = M := ⟨_, rfl⟩
      obtain ⟨H, hH⟩ : ∃ H, w.heap.size = H := ⟨_, rfl⟩
      rw [hM] at c1 hpc hl ⊢
      have HM := Lib.hid hM
      have HH := Lib.hid hH
      have HB := Lib.hid hS
      clear he hat hM hH hS
      go_enter Try.func18, Try.ntmps18
      go_wp2_with fail
      refine c1.mono ?_
      rintro e w1 ⟨v1, rfl, -, qd, hw1⟩
      have hb0 : Below w.heap.size w w1 := by rw [hw1]; exact below_drewN' (Below.refl _ _) qd
      have hs0 : w1.heap.size = w.heap.size := by rw [hw1]; rfl
      have hnil := ptr_nil w1 ⟨q0, o0, none⟩
      have HB0 := Lib.hid hb0
      have HS0 := Lib.hid hs0
      clear hw1 hb0 hs0
      go_wp2_with fail
      have hs1 : w1.heap.size = H := HS0.out.trans HH.out
      rw [hs1]
      obtain ⟨W1, hW1⟩ : ∃ W1, W1 = w1.alloc (.cells #[.pointer (some ⟨q1, o1, none⟩)] 25) := ⟨_, rfl⟩
      rw [← hW1]
      have htop : W1.heap[H]? = some (.cells #[.pointer (some ⟨q1, o1, none⟩)] 25 (0, 0)) := by rw [hW1, ← hs1]; exact heap_alloc_new w1 _
      have hbW : Below H w W1 := by
        rw [hW1, ← HH.out]
        exact HB0.out.alloc (by rw [HS0.out]; exact Nat.le_refl _) _
      have hsW : W1.heap.size = H + 1 := by rw [hW1]; simp; exact hs1
      have hin0 : InT w Sq (.pointer (some ⟨q1, o1, none⟩)) t' := HT.out
      have hini : PutRel w Sq t' u l H (.pointer (some ⟨H, 0, none⟩)) (.int .i64 ((0 : Nat) : Int)) W1 := by
        refine ⟨0, H, 0, q1, o1, t', rfl, Nat.zero_le _, rfl, Nat.le_refl _, by omega, cell_of_row W1 H 0 _ _ _ htop, frozen_of_row W1 H 0 _ _ htop, hin0, rfl, HAT.out, hbW, ?_, .inr ⟨rfl, rfl⟩⟩
        intro w2 uv s' _ _ _ h4 h5
        exact ⟨uv, h4, h5⟩
      have HINI := Lib.hid hini
      clear hW1 htop hbW hsW hin0 hini hs1 hnil
      go_loopw [11, 13, 14, 29] (fun hv _ _ i wr => PutRel w Sq t' u l H hv i wr) (fun _ _ _ i _ => M - (intOf i).toNat)
      case atStart => exact HINI.out
      case round =>
        obtain ⟨k, hb, ho, q, p, T, rfl, hk, rfl, hHb, hbr, hcell, hfr, hin, hat, hatd, hbw, hctx, htop⟩ := hrel
        rw [HM.out] at hk
        have hbs := hbw.size
        rw [HH.out] at hbs
        have HCTX := Lib.hid hctx
        have HBW := Lib.hid hbw
        have HATK := Lib.hid hat
        have HATD := Lib.hid hatd
        by_cases hlt : k < M
        · obtain ⟨z, hz⟩ : ∃ z, l[k]? = some z := ⟨_, List.getElem?_eq_getElem (by rw [HM.out]; exact hlt)⟩
          obtain ⟨pb, po, rfl, hpb, hpcell0⟩ := HPC.out k z hz
          rw [HH.out] at hpb
          have hpcell := (hbw.cell (p := ⟨pb, po + k, none⟩) hpb).trans hpcell0
          have hkz : (k : Int) < (M : Int) := by omega
          obtain ⟨x, ks⟩ := T
          obtain ⟨T1, hT1⟩ : ∃ T1, getZ ks z = some T1 := by
            cases hg : getZ ks z with
            | none =>
              rw [drop_at hz, atT_none _ hg] at hatd
              cases hatd
            | some T1 => exact ⟨T1, rfl⟩
          obtain ⟨hz0, hget⟩ := getZ_some hT1
          obtain ⟨m, rfl⟩ : ∃ m : Nat, z = (m : Int) := ⟨z.toNat, by omega⟩
          rw [Int.toNat_natCast] at hget
          have hatd1 : atT T1 (l.drop (k + 1)) = some u := by
            rw [drop_at hz, atT_some _ hT1] at hatd
            exact hatd
          have hin2 := hin.below HB.out (HH.out ▸ hbw)
          obtain ⟨q', p', A, c, hqq, hq1, c0, c1', c2, c3, c4, hc, hkid⟩ := hin2.open
          injection hqq with hqq
          injection hqq with hqq
          injection hqq with e1 e2
          subst e1 e2
          have hqH := HB.out q hq1
          rw [HH.out] at hqH
          obtain ⟨us, hus, hA⟩ := hkid.vals (fun q' h => by have := HB.out q' h; rw [HH.out] at this; omega)
          have husw : PtF w Sq us ks := hus.keep (fun _ h => h) fun b hb' => (hbw.block b (by have := HB.out b hb'; rw [HH.out] at this; omega)).symm
          have hmN := Fr.get_lt hget
          have hll := Fr.len_le ks
          have hss : ks.sz ≤ 1000000 := by
            have h1 := at_sz _ _ _ hat
            have h2 : szT (x, ks) = 1 + ks.sz := rfl
            have h3 : szO (some t') = szT t' := rfl
            omega
          obtain ⟨N, hN⟩ : ∃ N, ks.len = N := ⟨_, rfl⟩
          have hul : us.length = N := by rw [hus.len, hN]
          rw [hN] at c4 hll hA hmN
          have hN1 : N ≤ 1000000 := by omega
          obtain ⟨C, hC⟩ : ∃ C, wr.heap.size = C := ⟨_, rfl⟩
          have HTK := Lib.hid (take_at hz)
          have HT1 := Lib.hid hT1
          have HD1 := Lib.hid hatd1
          have HIN1 : Hid (∃ q2 p2, us[m]? = some (.pointer (some ⟨q2, p2, none⟩)) ∧ InT w Sq (.pointer (some ⟨q2, p2, none⟩)) T1) := Lib.hid (by
            obtain ⟨vv, h1, h2⟩ := husw.at hget
            obtain ⟨q2, p2, rfl⟩ := h2.ptr
            exact ⟨q2, p2, h1, h2⟩)
          have HUSW := Lib.hid husw
          have HUS1 := Lib.hid hus.one
          have HA := Lib.hid hA
          have HUL := Lib.hid hul
          have HNN := Lib.hid hN
          have HC := Lib.hid hC
          have hNm : (m : Int) < (N : Int) := by omega
          have HTOP := Lib.hid htop
          clear hz hpcell0 hT1 hz0 hget hatd1 hin2 hkid hus hA husw hul hN hC hat hatd hin hbw hctx hss htop
          go_wp2_with fail
          rw [HC.out]
          obtain ⟨W3, hW3⟩ : ∃ W3, W3 = wr.alloc (.cells #[.int .i64 x.k, .int .i64 x.n, .string x.a, .string x.m, .slice A N c] 37) := ⟨_, rfl⟩
          have hb3 : Below C wr W3 := by rw [hW3]; exact (Below.refl C wr).alloc (by rw [HC.out]; exact Nat.le_refl _) _
          have hs3 : W3.heap.size = C + 1 := by rw [hW3]; simp; exact HC.out
          have hn3 : Nb W3 C x (.slice A N c) := by rw [hW3, ← HC.out]; exact heap_alloc_new wr _
          rw [← hW3]
          have hHC : H ≤ C := by rw [← HC.out]; exact hbs
          have hbC : hb < C := by rw [← HC.out]; exact hbr
          have cC := clone_any A N c us W3 HUL.out (by omega) (fun h0 => by
            obtain ⟨b, o, e, hb', hcl⟩ := HA.out h0
            rw [HC.out] at hb'
            exact ⟨b, o, e, by omega, fun j u hu => (hb3.cell (p := ⟨b, o + j, none⟩) hb').trans (hcl j u hu)⟩) HUS1.out
          have HB3 := Lib.hid hb3
          have HS3 := Lib.hid hs3
          have HN3 := Lib.hid hn3
          have HCELL := Lib.hid hcell
          have HFR := Lib.hid hfr
          clear hW3 hb3 hs3 hn3 hcell hfr c0 c1' c2 c3 c4 hpcell
          refine cC.mono ?_
          rintro e w3 ⟨vk, rfl, ⟨B, hB, hown⟩, hb4⟩
          rw [HS3.out] at hB
          have hown : w3.ownsRow (C + 1) 25 1 vk N us := hown.mono hB
          have hnb4 : Nb w3 C x (.slice A N c) := heap_below HN3.out hb4
          have cn := hnb4.cell.1
          have cf := hnb4.cell.2
          obtain ⟨g, c2, rfl, hg1, hg2⟩ := hown.form (by omega)
          have hCw : C < w3.heap.size := heap_lt hnb4
          have hgw := (hown.lt g rfl)
          have hbel4 : Below C wr w3 := HB3.out.trans (hb4.mono (by rw [HS3.out]; omega))
          have khb := (hbel4.cell (p := ⟨hb, ho, none⟩) hbC).trans HCELL.out
          have fhb := (hbel4.frozen (p := ⟨hb, ho, none⟩) hbC).trans HFR.out
          have HOWN := Lib.hid hown
          have HNB4 := Lib.hid hnb4
          have HBEL4 := Lib.hid hbel4
          clear cC hB hown hnb4 hb4 hbel4 hg1 hg2
          go_wp2_with fail
          go_roundw
          case measure => simp [intOf]; omega
          case rel =>
            have h1 : (w3.setCell ⟨C, 4, none⟩ (.slice (some ⟨g, 0, none⟩) N c2)).ownsRow (C + 1) 25 1 (.slice (some ⟨g, 0, none⟩) N c2) N us := own_setCell HOWN.out _ _ (fun g' hg' => by injection hg' with hg'; simp only at hg' ⊢; omega)
            have hown5 := own_setCell h1 ⟨hb, ho, none⟩ (.pointer (some ⟨C, 0, none⟩)) (fun g' hg' => by injection hg' with hg'; simp only at hg' ⊢; omega)
            have k1 : (w3.setCell ⟨C, 4, none⟩ (.slice (some ⟨g, 0, none⟩) N c2)).cell? ⟨hb, ho, none⟩ = some (.pointer (some ⟨q, p, none⟩)) := by rw [cell_setCell _ _ _ (by simp only; omega)]; exact khb
            have hcs := HC.out
            have hw3 := HBEL4.out.size
            have hsz5 : ((w3.setCell ⟨C, 4, none⟩ (.slice (some ⟨g, 0, none⟩) N c2)).setCell ⟨hb, ho, none⟩ (.pointer (some ⟨C, 0, none⟩))).heap.size = w3.heap.size := by simp [World.setCell]
            have hn5 : Nb ((w3.setCell ⟨C, 4, none⟩ (.slice (some ⟨g, 0, none⟩) N c2)).setCell ⟨hb, ho, none⟩ (.pointer (some ⟨C, 0, none⟩))) C x (.slice (some ⟨g, 0, none⟩) N c2) := block_far _ (HNB4.out.store _) (by simp only; omega)
            have hcell5 : ∀ (j : Nat) v, us[j]? = some v → ((w3.setCell ⟨C, 4, none⟩ (.slice (some ⟨g, 0, none⟩) N c2)).setCell ⟨hb, ho, none⟩ (.pointer (some ⟨C, 0, none⟩))).cell? ⟨g, j, none⟩ = some v := fun j v hj => by
              rw [hown5.cellAt j (by have := (List.getElem?_eq_some_iff.1 hj).1; have := HUL.out; omega)]
              exact hj
            obtain ⟨q2, p2, hus2, hin2⟩ := HIN1.out
            have hbelw : Below H w ((w3.setCell ⟨C, 4, none⟩ (.slice (some ⟨g, 0, none⟩) N c2)).setCell ⟨hb, ho, none⟩ (.pointer (some ⟨C, 0, none⟩))) := ((HBW.out.trans (HBEL4.out.mono (by omega))).setCell (by simp only; omega) _).setCell (by simp only; omega) _
            refine ⟨k + 1, g, m, q2, p2, T1, by go_num, by rw [HM.out]; omega, rfl, by omega, by rw [hsz5]; exact hgw.2, hcell5 m _ hus2, hown5.frozenAt m, hin2, ?_, HD1.out, hbelw, ?_, .inl (by omega)⟩
            · rw [HTK.out, at_snoc _ _ _ _ HATK.out, atT_some _ HT1.out]
              rfl
            · rw [HTK.out]
              refine HCTX.out.step (fun q' h => by have := HB.out q' h; rw [HH.out] at this; exact this) HH.out hHb hbr HATK.out HT1.out (by omega) (by omega) (by omega) HNN.out (own_cap HOWN.out) (by rw [hsz5]; omega) (by rw [hsz5]; omega) (by rw [hsz5]; omega) (fun b hb1 hb2 => ?_) (fun o ho1 => ?_) ?_ hn5 HUSW.out hcell5 HBW.out
              · rw [Below.heap_setCell _ _ _ _ (by simp only; exact hb2), Below.heap_setCell _ _ _ _ (by simp only; omega)]
                exact HBEL4.out.block b (by omega)
              · rw [cell_other _ ho1, cell_setCell _ _ _ (by simp only; omega)]
                exact HBEL4.out.cell (by simp only; omega)
              · exact cell_same k1
        · have hkM : k = l.length := by rw [HM.out]; omega
          have hkz : ¬ (k : Int) < (M : Int) := by omega
          have htk : l.take k = l := by rw [hkM, List.take_length]
          rw [htk] at hctx
          have hs' : InT w Sq (.pointer (some ⟨q0, o0, none⟩)) s := HS.out
          have hb6 : Below H w (wr.setCell ⟨hb, ho, none⟩ (.pointer (some ⟨q0, o0, none⟩))) := hbw.setCell (by simp only; omega) _
          have hsz6 : (wr.setCell ⟨hb, ho, none⟩ (.pointer (some ⟨q0, o0, none⟩))).heap.size = wr.heap.size := by simp [World.setCell]
          obtain ⟨vt, hvt, hint⟩ := hctx (wr.setCell ⟨hb, ho, none⟩ (.pointer (some ⟨q0, o0, none⟩))) (.pointer (some ⟨q0, o0, none⟩)) s (by rw [hsz6]; exact Nat.le_refl _) (fun b _ hb2 => Below.heap_setCell _ _ _ _ hb2) (fun o ho1 => cell_other _ ho1) (cell_same hcell) (hs'.keep (fun q h => .inl h) fun b hb' => hb6.block b (by have := HB.out b hb'; rw [HH.out] at this; exact this))
          have HINT := Lib.hid hint
          have HB6 := Lib.hid hb6
          clear hkM htk hctx hs' hb6 hsz6 hint HCTX HATK HATD hat hatd hin hbw
          rcases htop with hne | ⟨rfl, rfl⟩
          · have hcH : wr.cell? ⟨H, 0, none⟩ = some vt := by rw [← hvt, cell_setCell _ _ _ (by simp only; omega)]
            clear hvt
            go_wp2_with fail
            go_ret2
            exact te_ret HU.out.2 (by rw [HU.out.1]; exact HINT.out) (by rw [HH.out]; exact HB6.out)
          · obtain rfl : (.pointer (some ⟨q0, o0, none⟩) : Value) = vt := by
              rw [cell_same hcell] at hvt
              injection hvt
            clear hvt
            go_wp2_with fail
            go_ret2
            exact te_ret HU.out.2 (by rw [HU.out.1]; exact HINT.out) (by rw [HH.out]; exact HB6.out)
  · have HU := Lib.hid (put_no (s := s) he)
    obtain ⟨z, hz⟩ : ∃ z, atE t l = z := ⟨_, rfl⟩
    rw [hz] at c1 he
    have hz1 : (z != 0) = true := by rw [bne_iff_ne]; exact he
    have hz2 : (z == 0) = false := by rw [beq_eq_false_iff_ne]; exact he
    have HZ := Lib.hid hz
    clear hz he
    go_enter Try.func18, Try.ntmps18
    go_wp2_with fail
    refine c1.mono ?_
    rintro e w1 ⟨v1, rfl, -, q, rfl⟩
    go_wp2_with fail
    go_ret2
    exact te_ret (by rw [HU.out.2, HZ.out]) (by rw [HU.out.1]; rfl) (below_drewN' (Below.refl _ _) q)
end Go.Proofs.Ytoejegndbcbkmaa
