/-
  Layer 4 once more: the gauge, whatever it has counted: the size of a tree of more than MaxTerm nodes.
-/
import Derived.Test.YtmiicfdigkkbdaaDoorGt40
namespace Go.Proofs.YtmiicfdigkkbdaaDoor
open Go.RowKit

def Two (a b : Nat) (k : Nat) : Prop := k = a ∨ k = b
def OfP (t : Tr) (gb mb k : Nat) (Sq : Nat → Prop) (X : Value → Prop) (w : World) (e : Ending) (w' : World) : Prop := e = .returned (msV t) ∧ ∃ k' es' ck', k ≤ k' ∧ k' ≤ k + szT t ∧ Gk w' gb mb k' es' ck' ∧ Ents w' Sq X es' ∧ Gs (Two gb mb) w w'
theorem Gk.below {w w' : World} {gb mb k : Nat} {es : Array MapEntry} {ck : Nat} (h : Gk w gb mb k es ck) (hb : Below w.heap.size w w') : Gk w' gb mb k es ck := ⟨heap_below h.1 hb, heap_below h.2 hb⟩
theorem Gk.store {w : World} {gb mb k : Nat} {es : Array MapEntry} {ck : Nat} {z : Int} {m : Nat} (h : Gk w gb mb k es ck) (hne : mb ≠ gb) (hz : z = (m : Int)) : Gk (w.setCell ⟨gb, 0, none⟩ (.int .i64 z)) gb mb m es ck := by
  subst hz
  exact ⟨by rw [block_set _ h.1]; try rfl, block_far _ h.2 hne⟩
theorem Gk.far {w : World} {gb mb k b i : Nat} {es : Array MapEntry} {ck : Nat} (h : Gk w gb mb k es ck) (u : Value) (h1 : gb ≠ b) (h2 : mb ≠ b) : Gk (w.setCell ⟨b, i, none⟩ u) gb mb k es ck := ⟨block_far _ h.1 h1, block_far _ h.2 h2⟩
theorem Gs.gb {gb mb : Nat} {w w' : World} (h : w.grownBy w' (some mb)) : Gs (Two gb mb) w w' := ⟨h.os, h.tape, h.output, h.size, fun k hk hn => h.block k hk fun e => hn (.inr (by cases e; rfl))⟩
theorem Gs.al {S : Nat → Prop} {a w : World} (h : Gs S a w) (o : Obj) : Gs S a (w.alloc o) := h.trans (Gs.of ((Up.refl w).alloc o))
theorem Gs.sq {Sq : Nat → Prop} {gb mb : Nat} {w w' : World} (g : Gs (Two gb mb) w w') (hbel : Bel Sq w.heap.size) (h1 : ¬ Sq gb) (h2 : ¬ Sq mb) : ∀ b, Sq b → w'.heap[b]? = w.heap[b]? := fun b hb => g.block b (hbel b hb) (fun e => by
  rcases e with e | e
  · exact h1 (e ▸ hb)
  · exact h2 (e ▸ hb))
set_option maxHeartbeats 3200000 in
set_option maxRecDepth 100000 in
theorem ofMet {t : Tr} {w : World} {Sq : Nat → Prop} {gb mb k q p : Nat} {es : Array MapEntry} {ck : Nat} {X : Value → Prop} (hgk : Gk w gb mb k es ck) (hE : Ents w Sq X es)
    (hlk : (Instr.lookup 129 (.map (some mb)) (.pointer (some ⟨q, p, none⟩)) true).run Tryd.prog (w.alloc (.cells #[.int .i64 0, .int .i64 0, .bool false] 102)) = .ok (.tuple #[msV t, .bool true]) (w.alloc (.cells #[.int .i64 0, .int .i64 0, .bool false] 102))) (hbel : Bel Sq w.heap.size) :
    Calls Tryd.prog 83 #[.pointer (some ⟨gb, 0, none⟩), .pointer (some ⟨q, p, none⟩)] w (OfP t gb mb k Sq X w) := by
  have g1 := cell_of_row w gb 1 _ _ _ hgk.1
  have hgw := heap_lt hgk.1
  have HG := Lib.hid hgk
  have HE := Lib.hid hE
  have HB := Lib.hid hbel
  clear hgk hE hbel
  unfold msV at hlk
  go_enter Tryd.func83, Tryd.ntmps83
  go_wp2_with fail
  have u : Up w ((w.alloc (.cells #[.int .i64 (szT t : Int), .int .i64 (dpT t : Int), .bool false] 102)).alloc (.cells #[.int .i64 (szT t : Int), .int .i64 (dpT t : Int), .bool false] 102)) := ((Up.refl w).alloc _).alloc _
  exact bodyPost_ret (v := .agg #[.int .i64 (szT t : Int), .int .i64 (dpT t : Int), .bool false]) (by simp [results, Tryd.results83, go_sem]) rfl ⟨rfl, k, es, ck, Nat.le_refl _, Nat.le_add_right _ _, HG.out.below u, HE.out.keep fun b hb => u.block b (HB.out b hb), Gs.of u⟩
def OfAt (n : Nat) : Prop := ∀ (t : Tr), szT t ≤ n → ∀ (w : World) (Sq : Nat → Prop) (v : Value) (gb mb k : Nat) (es : Array MapEntry) (ck : Nat) (X : Value → Prop), Bel Sq w.heap.size → ¬ Sq gb → ¬ Sq mb → InT w Sq v t → Gk w gb mb k es ck → mb ≠ gb → k + szT t ≤ 2000000 → Ents w Sq X es →
  (∀ u t', X u → InT w Sq u t' → szT t < szT t') → Calls Tryd.prog 83 #[.pointer (some ⟨gb, 0, none⟩), v] w (OfP t gb mb k Sq X w)
theorem Gk.gs {w w' : World} {gb mb k k' : Nat} {es : Array MapEntry} {ck : Nat} (h : Gk w gb mb k es ck) (hg : w'.heap[gb]? = some (.cells #[.int .i64 (k' : Int), .map (some mb)] 131 (0, 0))) (hm : w'.heap[mb]? = w.heap[mb]?) : Gk w' gb mb k' es ck := ⟨hg, hm.trans h.2⟩
theorem InT.back {w w' : World} {Sq : Nat → Prop} {u : Value} {t : Tr} (h : InT w' Sq u t) (hk : ∀ b, Sq b → w'.heap[b]? = w.heap[b]?) : InT w Sq u t := h.keep (fun _ h => h) fun b hb => (hk b hb).symm
set_option maxHeartbeats 12800000 in
set_option maxRecDepth 100000 in
theorem ofG : ∀ (n : Nat), n ≤ 1000000 → OfAt n
  | 0, _ => fun t h => absurd h (by unfold szT; omega)
  | n + 1, hbig => by
    rintro ⟨x, ks⟩ hn w Sq v gb mb k es ck X hbel hgS hmS hin hgk hmg hk hE hX
    have ih := ofG n (by omega)
    have HIN := Lib.hid hin
    have hpln := hin.open
    obtain ⟨q, p, A, c, rfl, hq1, c0, c1, c2, c3, c4, hc, hkid⟩ := hpln
    have hpl := hin.pln
    have uA : Up w (w.alloc (.cells #[.int .i64 0, .int .i64 0, .bool false] 102)) := (Up.refl w).alloc _
    have hEA : Ents (w.alloc (.cells #[.int .i64 0, .int .i64 0, .bool false] 102)) Sq X es := hE.keep fun b hb => uA.block b (hbel b hb)
    have hplA : Pln (w.alloc (.cells #[.int .i64 0, .int .i64 0, .bool false] 102)) q := by
      obtain ⟨cs, te, h2⟩ := hpl
      exact ⟨cs, te, heap_below h2 uA⟩
    rcases look_ptr (a := ⟨q, p, none⟩) (heap_below hgk.2 uA) hplA hEA.keys with ⟨_, hlk1⟩ | ⟨i, e, hi, hkey, hlk⟩
    · have hqw := cell_lt c4
      have hqg : q ≠ gb := fun e => hgS (by rw [← e]; exact hq1)
      have hqm : q ≠ mb := fun e => hmS (by rw [← e]; exact hq1)
      have hq2 : ¬ Two gb mb q := fun e => by
        rcases e with e | e
        · exact hqg e
        · exact hqm e
      have g0 := cell_of_row w gb 0 _ _ _ hgk.1
      have g1 := cell_of_row w gb 1 _ _ _ hgk.1
      have gf := frozen_of_row w gb 0 _ _ hgk.1
      have hgw := heap_lt hgk.1
      have hmw := heap_lt hgk.2
      have HG := Lib.hid hgk
      have HE := Lib.hid hE
      have HX := Lib.hid hX
      have HBEL := Lib.hid hbel
      have HGS := Lib.hid hgS
      have HMS := Lib.hid hmS
      have HIH := Lib.hid ih
      have HN0 := Lib.hid hn
      have HKK := Lib.hid hk
      have HPL := Lib.hid hpl
      have HQ2 := Lib.hid hq2
      clear hgk hE hX hbel hgS hmS ih uA hEA hplA hpl hq2
      go_enter Tryd.func83, Tryd.ntmps83
      go_wp2_with fail
      obtain ⟨H, hH⟩ : ∃ H, w.heap.size = H := ⟨_, rfl⟩
      have hsz : szT (x, ks) = 1 + ks.sz := rfl
      have hdp : dpT (x, ks) = 1 + ks.dp := rfl
      have hll := Fr.len_le ks
      obtain ⟨W3, hW3⟩ : ∃ W3, W3 = ((w.setCell ⟨gb, 0, none⟩ (.int .i64 ((k : Int) + 1))).alloc (.cells #[.int .i64 0, .int .i64 0, .bool false] 102)).alloc (.cells #[.int .i64 0, .int .i64 0, .bool false] 102) := ⟨_, rfl⟩
      have hs0 : (w.setCell ⟨gb, 0, none⟩ (.int .i64 ((k : Int) + 1))).heap.size = H := by simp [World.setCell, hH]
      have hgk3 : Gk W3 gb mb (k + 1) es ck := by
        rw [hW3]
        have h1 := HG.out.store (m := k + 1) hmg (z := (k : Int) + 1) (by omega)
        exact ⟨block_alloc _ (block_alloc _ h1.1), block_alloc _ (block_alloc _ h1.2)⟩
      have hR3 : W3.heap[H]? = some (.cells #[.int .i64 0, .int .i64 0, .bool false] 102 (0, 0)) := by
        rw [hW3, ← hs0]
        exact block_alloc _ (heap_alloc_new _ _)
      have hgb3 : Gs (Two gb mb) w W3 := by rw [hW3]; exact (((Gs.refl _ w).set _ _ (.inl (.inl rfl))).al _).al _
      have hs3 : W3.heap.size = H + 2 := by rw [hW3]; simp; omega
      rw [← hW3]
      have HGK3 := Lib.hid hgk3
      have hE3 := HE.out.keep (hgb3.sq HBEL.out HGS.out HMS.out)
      have hpl3 : Pln W3 q := by
        obtain ⟨cs, te, h2⟩ := HPL.out
        exact ⟨cs, te, hgb3.row h2 HQ2.out⟩
      have cK1 := keepG gb mb (k + 1) es ck ⟨q, p, none⟩ (.int .i64 9223372036854775807) (.int .i64 9223372036854775807) (.bool false) W3 hgk3 hmg hpl3 hE3.keys (by have := HKK.out; omega)
      have HE3 := Lib.hid hE3
      clear hgk3 hW3 hE3 hpl3
      refine cK1.mono ?_
      rintro e w1 ⟨rfl, es1, ck1, hor, hgk1, hg1⟩
      have hgs1 : Gs (Two gb mb) w w1 := hgb3.trans (Gs.gb hg1)
      have hsq1 := hgs1.sq HBEL.out HGS.out HMS.out
      have hE1 := HE.out.keep hsq1
      obtain ⟨X', hX'⟩ : ∃ X' : Value → Prop, X' = fun u => X u ∨ (u = .pointer (some ⟨q, p, none⟩) ∧ 65536 < k + 1) := ⟨_, rfl⟩
      have hE2 : Ents w1 Sq X' es1 := by
        rw [hX']
        rcases hor with ⟨_, rfl⟩ | ⟨h6, hu⟩
        · exact hE1.more fun v h => .inl h
        · exact hE1.upd hu (HIN.out.keep (fun _ h => h) hsq1) (.inr (.inr ⟨rfl, h6⟩)) fun u hx _ => .inl hx
      have hX2 : ∀ (W : World), Gs (Two gb mb) w W → ∀ u t', X' u → InT W Sq u t' → szT (x, ks) ≤ szT t' := by
        intro W hW u t' hu ht
        have h1 := ht.back (hW.sq HBEL.out HGS.out HMS.out)
        rw [hX'] at hu
        rcases hu with hu | ⟨rfl, _⟩
        · exact Nat.le_of_lt (HX.out u t' hu h1)
        · rw [HIN.out.uniq h1]
          exact Nat.le_refl _
      have HX2 := Lib.hid hX2
      have HXE := Lib.hid hX'
      have hH3 : H < W3.heap.size := by omega
      have hR1 : w1.heap[H]? = some (.cells #[.int .i64 0, .int .i64 0, .bool false] 102 (0, 0)) := (hg1.block H hH3 (fun e => by injection e with e; omega)).trans hR3
      have hs1 := hg1.size
      rw [hs3] at hs1
      have c41 := hgs1.cell c4 HQ2.out
      obtain ⟨Y, hY⟩ : ∃ Y, w1.heap.size = Y := ⟨_, rfl⟩
      rw [hY] at hs1
      obtain ⟨N, hN⟩ : ∃ N, ks.len = N := ⟨_, rfl⟩
      rw [hN] at c41 hll
      have hN1 : N ≤ 1000000 := by have := HN0.out; omega
      have HK : Hid (Kid (w1.alloc (.cells #[.int .i64 1, .int .i64 0, .bool false] 102)) Sq A ks 0) := Lib.hid (hkid.keep (fun _ h => h) ((hgs1.al _).sq HBEL.out HGS.out HMS.out))
      have HGK1 := Lib.hid hgk1
      have HR1 := Lib.hid hR1
      have HGS1 := Lib.hid hgs1
      have HE2 := Lib.hid hE2
      have HNN := Lib.hid hN
      have HSZ := Lib.hid hsz
      have HDP := Lib.hid hdp
      have HY := Lib.hid hY
      have HH := Lib.hid hH
      have hqY : q < w1.heap.size := by omega
      clear hlk1 cK1 HGK3 hg1 hgb3 hR3 hgk1 hR1 hgs1 hsq1 hE1 hE2 hX2 hX' hor hN hsz hdp hY hkid hin c0 c1 c2 c3 c4 g0 g1 gf hs0 hs3 hH hn hk HE3 hH3
      go_wp2_with fail
      have hYb : (w1.alloc (.cells #[.int .i64 1, .int .i64 0, .bool false] 102)).heap[Y]? = some (.cells #[.int .i64 1, .int .i64 0, .bool false] 102 (0, 0)) := by rw [← HY.out]; exact heap_alloc_new w1 _
      have HYB := Lib.hid hYb
      rw [HY.out, HH.out]
      clear hYb
      have HE3 : Hid (Ents (w1.alloc (.cells #[.int .i64 1, .int .i64 0, .bool false] 102)) Sq X' es1) := Lib.hid (HE2.out.keep fun b hb => ((Up.refl w1).alloc _).block b (by have := HBEL.out b hb; have := HGS1.out.size; omega))
      go_loopw [9, 10, 42] (fun _ _ i wr => ∃ (j : Nat) (done rest : Fr) (kk : Nat) (es' : Array MapEntry) (ck' : Nat), i = .int .i64 j ∧ j = done.len ∧ ks = done.app rest ∧ Kid wr Sq A rest j ∧ Gk wr gb mb kk es' ck' ∧ k + 1 ≤ kk ∧ kk ≤ k + 1 + done.sz ∧ Ents wr Sq X' es' ∧ wr.heap[Y]? = some (.cells #[.int .i64 ((1 + done.sz : Nat) : Int), .int .i64 (done.dp : Int), .bool false] 102 (0, 0)) ∧
        wr.heap[H]? = some (.cells #[.int .i64 0, .int .i64 0, .bool false] 102 (0, 0)) ∧ Gs (Two gb mb) w wr) (fun _ _ i _ => N - (intOf i).toNat)
      case atStart => exact ⟨0, .nil, ks, k + 1, es1, ck1, rfl, rfl, rfl, HK.out, HGK1.out.below ((Below.refl _ _).alloc (Nat.le_refl _) _), Nat.le_refl _, Nat.le_refl _, HE3.out, HYB.out, block_alloc _ HR1.out, HGS1.out.al _⟩
      case round =>
        obtain ⟨j, done, rest, kk, es', ck', rfl, hj, hks, hkid, hgk, hkk1, hkk2, hE, hyb, hrb, hgw⟩ := hrel
        have hl : N = done.len + rest.len := by rw [← HNN.out, hks, Fr.len_app]
        have hs : ks.sz = done.sz + rest.sz := by rw [hks, Fr.sz_app]
        have hsz := HSZ.out
        have hn := HN0.out
        have hk := HKK.out
        have hddp := Fr.dp_le done
        have hYr := heap_lt hyb
        have hrw := hgw.size
        rw [HH.out] at hrw
        have hYH : H < Y := by omega
        have hHM : mb < H := by have := HH.out; omega
        have hHG : gb < H := by have := HH.out; omega
        have HKS := Lib.hid hks
        have HE := Lib.hid hE
        have HKA := Lib.hid hkk1
        have HKB := Lib.hid hkk2
        have HBQ : Hid (∀ b, Sq b → b < H) := Lib.hid (fun b hb => by have := HBEL.out b hb; have := HH.out; omega)
        by_cases hlt : 0 < rest.len
        · obtain ⟨y, l, r, rfl⟩ := Fr.cut hlt
          obtain ⟨kb, ko, u, rfl, hkb, hcell, hu, hnext⟩ := hkid.next
          have hyl : szT (y, l) = 1 + l.sz := rfl
          have hyd : dpT (y, l) = 1 + l.dp := rfl
          have hld := Fr.dp_le l
          have hsr : (Fr.cons y l r).sz = 1 + l.sz + r.sz := rfl
          have hlr : (Fr.cons y l r).len = r.len + 1 := rfl
          have hbelr : Bel Sq wr.heap.size := fun q' h' => by have := HBQ.out q' h'; omega
          have cI := HIH.out (y, l) (by omega) wr Sq u gb mb kk es' ck' X' hbelr HGS.out HMS.out hu hgk hmg (by omega) hE (fun u' t' h1 h2 => by have := HX2.out wr hgw u' t' h1 h2; omega)
          have HNX : Hid (∀ w2, Gs (Two gb mb) wr w2 → Kid w2 Sq (some ⟨kb, ko, none⟩) r (j + 1)) := Lib.hid fun w2 hw2 => hnext.keep (fun _ h => h) (hw2.sq hbelr HGS.out HMS.out)
          have hjz : (j : Int) < (N : Int) := by omega
          have HZL : Hid (∀ z, z ≤ kk + szT (y, l) → z ≤ k + 1 + (done.app (.cons y l .nil)).sz) := Lib.hid (fun z hz => by rw [Fr.sz_app]; simp only [Fr.sz]; omega)
          obtain ⟨Z, hZ⟩ : ∃ Z, szT (y, l) = Z := ⟨_, rfl⟩
          obtain ⟨D, hD⟩ : ∃ D, dpT (y, l) = D := ⟨_, rfl⟩
          obtain ⟨S, hS⟩ : ∃ S, 1 + done.sz = S := ⟨_, rfl⟩
          obtain ⟨E, hEE⟩ : ∃ E, done.dp = E := ⟨_, rfl⟩
          rw [hS, hEE] at hyb
          have hSb : S ≤ 2000000 ∧ Z ≤ 2000000 ∧ E ≤ 2000000 ∧ D ≤ 2000000 := by omega
          have HSN : Hid (1 + (done.app (.cons y l .nil)).sz = S + Z) := Lib.hid (by rw [Fr.sz_app]; simp only [Fr.sz]; omega)
          have HEN : Hid ((done.app (.cons y l .nil)).dp = max E D) := Lib.hid (by rw [Fr.dp_app]; simp only [Fr.dp]; omega)
          have HLN : Hid (j + 1 = (done.app (.cons y l .nil)).len) := Lib.hid (by rw [Fr.len_app]; simp only [Fr.len]; omega)
          have HZ := Lib.hid hZ
          have HD := Lib.hid hD
          have HRB := Lib.hid hrb
          have HYBR := Lib.hid hyb
          have HGW := Lib.hid hgw
          have hYg : gb ≠ Y := by omega
          have hYm : mb ≠ Y := by omega
          have hY2 : ¬ Two gb mb Y := fun e => by
            rcases e with e | e <;> omega
          have hH2 : ¬ Two gb mb H := fun e => by
            rcases e with e | e <;> omega
          have HH2 := Lib.hid hH2
          have cS := fun W => sum_any S Z W (by omega) (by omega)
          have hjN : j < N := by omega
          clear hkid hnext hu hks hj hl hlr hsr hsz hyl hyd hld hZ hD hEE hS hbelr hgk hgw hn hddp hyb hrb hs hE hkk1 hkk2 hk hH2
          go_wp2_with fail
          refine cI.mono ?_
          rintro e w2 ⟨rfl, kk2, es2, ck2, hk21, hk22, hgk2, hE2, hgs2⟩
          unfold msV
          rw [HZ.out, HD.out]
          have HGK2 := Lib.hid hgk2
          have HGS2 := Lib.hid hgs2
          have HE2' := Lib.hid hE2
          have HK21 := Lib.hid hk21
          have HK22 := Lib.hid hk22
          have hs2 := hgs2.size
          have hx2 : Y < w2.heap.size := by omega
          have hyb2 := hgs2.row HYBR.out hY2
          have HYB2 := Lib.hid hyb2
          have cx0 := cell3_0 hyb2
          have cx1 := cell3_1 hyb2
          have cx2 := cell3_2 hyb2
          have fx := fun i => frozen_of_row w2 Y i _ _ hyb2
          have fx0 := fx 0
          have fx1 := fx 1
          have fx2 := fx 2
          clear hgk2 hgs2 hyb2 fx hE2 hk21 hk22
          go_wp2_with fail
          refine (cS _).mono ?_
          rintro e w3 ⟨rfl, rfl⟩
          go_wp2_with fail
          go_roundw
          case rel =>
            have hmx : max (E : Int) (D : Int) = (if E < D then (D : Int) else (E : Int)) := by split <;> omega
            try rw [hmx]
            clear hmx
            have hset := set3 HYB2.out (.int .i64 ((S : Int) + (Z : Int))) (.int .i64 (if E < D then (D : Int) else (E : Int))) (.bool false)
            have hgbw : Gs (Two gb mb) w ((((w2.setCell ⟨Y, 0, none⟩ (.int .i64 ((S : Int) + (Z : Int)))).setCell ⟨Y, 1, none⟩ (.int .i64 (if E < D then (D : Int) else (E : Int)))).setCell ⟨Y, 2, none⟩ (.bool false)).alloc (.cells #[.int .i64 (Z : Int), .int .i64 (D : Int), .bool false] 102)) := by
              have hX' : w.heap.size ≤ Y := by rw [HH.out]; omega
              exact ((((HGW.out.trans HGS2.out).set _ _ (.inr hX')).set _ _ (.inr hX')).set _ _ (.inr hX')).al _
            have hsame : ∀ b, Sq b → ((((w2.setCell ⟨Y, 0, none⟩ (.int .i64 ((S : Int) + (Z : Int)))).setCell ⟨Y, 1, none⟩ (.int .i64 (if E < D then (D : Int) else (E : Int)))).setCell ⟨Y, 2, none⟩ (.bool false)).alloc (.cells #[.int .i64 (Z : Int), .int .i64 (D : Int), .bool false] 102)).heap[b]? = w2.heap[b]? := fun b hb => by
              have hpw := HBQ.out b hb
              rw [Below.heap_alloc _ _ _ (by simp [World.setCell]; omega), Below.heap_setCell _ _ _ _ (by simp only; omega), Below.heap_setCell _ _ _ _ (by simp only; omega), Below.heap_setCell _ _ _ _ (by simp only; omega)]
            refine ⟨j + 1, done.app (.cons y l .nil), r, kk2, es2, ck2, by go_num, HLN.out, by rw [HKS.out, Fr.app_cons], ?_, ?_, Nat.le_trans HKA.out HK21.out, HZL.out _ HK22.out, HE2'.out.keep hsame, ?_, ?_, hgbw⟩
            · exact (HNX.out w2 HGS2.out).keep (fun _ h => h) hsame
            · exact (((HGK2.out.far _ hYg hYm).far _ hYg hYm).far _ hYg hYm).below ((Below.refl _ _).alloc (Nat.le_refl _) _)
            · rw [HSN.out, HEN.out]
              have e1 : ((S + Z : Nat) : Int) = (S : Int) + (Z : Int) := by omega
              have e2 : ((max E D : Nat) : Int) = if E < D then (D : Int) else (E : Int) := by split <;> omega
              rw [e1, e2]
              exact block_alloc _ hset
            · have hHX : H ≠ Y := by omega
              exact block_alloc _ (block_far _ (block_far _ (block_far _ (HGS2.out.row HRB.out HH2.out) hHX) hHX) hHX)
          case measure => simp [intOf]; omega
        · have h0 : rest = .nil := by
            cases rest with
            | nil => rfl
            | cons y l r => exact absurd (Nat.succ_pos _) hlt
          subst h0
          have hjz : ¬ (j : Int) < (N : Int) := by have : (Fr.nil).len = 0 := rfl; omega
          have hfin : ks = done := by rw [hks, Fr.app_nil]
          obtain ⟨S, hS⟩ : ∃ S, 1 + done.sz = S := ⟨_, rfl⟩
          obtain ⟨D, hD⟩ : ∃ D, done.dp = D := ⟨_, rfl⟩
          have hsn : (Fr.nil).sz = 0 := rfl
          have hSb : S ≤ 2000000 ∧ D ≤ 2000000 := by omega
          rw [hS, hD] at hyb
          have HSZ' : Hid (szT (x, ks) = S) := Lib.hid (by omega)
          have HDP' : Hid (dpT (x, ks) = D + 1) := Lib.hid (by rw [HDP.out, hfin, hD]; omega)
          have HKL : Hid (kk ≤ k + szT (x, ks)) := Lib.hid (by have := HKB.out; omega)
          have HGKR := Lib.hid hgk
          have cx0 := cell3_0 hyb
          have cx1 := cell3_1 hyb
          have cx2 := cell3_2 hyb
          have fx := fun i => frozen_of_row wr Y i _ _ hyb
          have fx0 := fx 0
          have fx1 := fx 1
          have fx2 := fx 2
          have HRB := Lib.hid hrb
          have HYBR := Lib.hid hyb
          have HGW := Lib.hid hgw
          have hYg : gb ≠ Y := by omega
          have hYm : mb ≠ Y := by omega
          have cS := fun W => sum_any D 1 W (by omega) (by omega)
          have HKC : Hid (kk ≤ 1000000000) := Lib.hid (by have := HKB.out; omega)
          clear hkid hks hj hl hsz hS hD hn hddp hyb hrb hs hgk hgw hfin hsn fx hE hkk1 hkk2 hk
          go_wp2_with fail
          refine (cS _).mono ?_
          rintro e w3 ⟨rfl, rfl⟩
          go_wp2_with fail
          have hgkK : Gk (wr.setCell ⟨Y, 1, none⟩ (.int .i64 ((D : Int) + 1))) gb mb kk es' ck' := HGKR.out.far _ hYg hYm
          have hybK : (wr.setCell ⟨Y, 1, none⟩ (.int .i64 ((D : Int) + 1))).heap[Y]? = some (.cells #[.int .i64 (S : Int), .int .i64 ((D : Int) + 1), .bool false] 102 (0, 0)) := by
            rw [block_set _ HYBR.out]
            rfl
          have hrbK : (wr.setCell ⟨Y, 1, none⟩ (.int .i64 ((D : Int) + 1))).heap[H]? = some (.cells #[.int .i64 0, .int .i64 0, .bool false] 102 (0, 0)) := block_far _ HRB.out (by simp only; omega)
          have hgwK : Gs (Two gb mb) w (wr.setCell ⟨Y, 1, none⟩ (.int .i64 ((D : Int) + 1))) := HGW.out.set _ _ (.inr (by rw [HH.out]; simp only; omega))
          have hEK : Ents (wr.setCell ⟨Y, 1, none⟩ (.int .i64 ((D : Int) + 1))) Sq X' es' := HE.out.keep fun b hb => Below.heap_setCell _ _ _ _ (by have := HBQ.out b hb; simp only; omega)
          have hplK : Pln (wr.setCell ⟨Y, 1, none⟩ (.int .i64 ((D : Int) + 1))) q := by
            obtain ⟨cs, te, h2⟩ := HPL.out
            exact ⟨cs, te, hgwK.row h2 HQ2.out⟩
          have cK := keepG gb mb kk es' ck' ⟨q, p, none⟩ (.int .i64 (S : Int)) (.int .i64 ((D : Int) + 1)) (.bool false) _ hgkK hmg hplK hEK.keys HKC.out
          have HGKK := Lib.hid hgkK
          have HYBK := Lib.hid hybK
          have HRBK := Lib.hid hrbK
          have HGWK := Lib.hid hgwK
          have HEK := Lib.hid hEK
          have hYz : Y < (wr.setCell ⟨Y, 1, none⟩ (.int .i64 ((D : Int) + 1))).heap.size := heap_lt hybK
          have hHz : H < (wr.setCell ⟨Y, 1, none⟩ (.int .i64 ((D : Int) + 1))).heap.size := heap_lt hrbK
          clear hgkK hybK hrbK hgwK hEK hplK
          refine cK.mono ?_
          rintro e w5 ⟨rfl, es5, ck5, hor5, hgk5, hg5⟩
          have hyb5 := (hg5.block Y hYz (fun e => by injection e with e; omega)).trans HYBK.out
          have hrb5 := (hg5.block H hHz (fun e => by injection e with e; omega)).trans HRBK.out
          have hgs5 : Gs (Two gb mb) w w5 := HGWK.out.trans (Gs.gb hg5)
          have hE5 : Ents w5 Sq X es5 := by
            have h7 : Ents w5 Sq X' es' := HEK.out.keep fun b hb => hg5.block b (by have := HBQ.out b hb; omega) (fun e => by injection e with e; exact HMS.out (e ▸ hb))
            rcases hor5 with ⟨h6, rfl⟩ | ⟨h6, hu⟩
            · refine h7.more fun v h => ?_
              rw [HXE.out] at h
              rcases h with h | ⟨_, h⟩
              · exact h
              · have := HKA.out
                omega
            · refine h7.upd hu (HIN.out.keep (fun _ h => h) (hgs5.sq HBEL.out HGS.out HMS.out)) (.inl ?_) fun u hx hne => ?_
              · unfold msV
                rw [HSZ'.out, HDP'.out]
                rfl
              · rw [HXE.out] at hx
                rcases hx with hx | ⟨hx, _⟩
                · exact hx
                · exact absurd hx hne
          have HGK5 := Lib.hid hgk5
          have HE5 := Lib.hid hE5
          have HGS5 := Lib.hid hgs5
          have dx0 := cell3_0 hyb5
          have dx1 := cell3_1 hyb5
          have dx2 := cell3_2 hyb5
          have dr0 := cell3_0 hrb5
          have dr1 := cell3_1 hrb5
          have dr2 := cell3_2 hrb5
          have gx := fun i => frozen_of_row w5 H i _ _ hrb5
          have gx0 := gx 0
          have gx1 := gx 1
          have gx2 := gx 2
          clear cK cx0 cx1 cx2 fx0 fx1 fx2 hyb5 hrb5 gx hor5 hgk5 hg5 hgs5 hE5
          go_wp2_with fail
          have hX' : w.heap.size ≤ H := by rw [HH.out]; exact Nat.le_refl _
          have hgwF : Gs (Two gb mb) w (((w5.setCell ⟨H, 0, none⟩ (.int .i64 (S : Int))).setCell ⟨H, 1, none⟩ (.int .i64 ((D : Int) + 1))).setCell ⟨H, 2, none⟩ (.bool false)) := ((HGS5.out.set _ _ (.inr hX')).set _ _ (.inr hX')).set _ _ (.inr hX')
          have hHg : gb ≠ H := by omega
          have hHm : mb ≠ H := by omega
          have hgkF := ((HGK5.out.far (b := H) (i := 0) (.int .i64 (S : Int)) hHg hHm).far (b := H) (i := 1) (.int .i64 ((D : Int) + 1)) hHg hHm).far (b := H) (i := 2) (.bool false) hHg hHm
          have hEF : Ents (((w5.setCell ⟨H, 0, none⟩ (.int .i64 (S : Int))).setCell ⟨H, 1, none⟩ (.int .i64 ((D : Int) + 1))).setCell ⟨H, 2, none⟩ (.bool false)) Sq X es5 := HE5.out.keep fun b hb => by
            have := HBQ.out b hb
            rw [Below.heap_setCell _ _ _ _ (by simp only; omega), Below.heap_setCell _ _ _ _ (by simp only; omega), Below.heap_setCell _ _ _ _ (by simp only; omega)]
          exact bodyPost_ret (v := .agg #[.int .i64 (S : Int), .int .i64 ((D : Int) + 1), .bool false]) (by simp [results, Tryd.results83, go_sem, dr0, dr1, dr2]) rfl ⟨by unfold msV; rw [HSZ'.out, HDP'.out]; rfl, kk, es5, ck5, by have := HKA.out; omega, HKL.out, hgkF, hEF, hgwF⟩
    · have hval : e.val = msV (x, ks) := by
        rw [Array.getElem?_toList] at hi
        obtain ⟨t', h1, h2⟩ := hEA.ok i e hi
        rw [hkey] at h1 h2
        have h3 : InT w Sq (.pointer (some ⟨q, p, none⟩)) t' := h1.back fun b hb => uA.block b (hbel b hb)
        have h4 : (x, ks) = t' := hin.uniq h3
        rcases h2 with h2 | h2
        · rw [h2, h4]
        · have h5 := hX _ _ h2 h3
          rw [← h4] at h5
          exact absurd h5 (Nat.lt_irrefl _)
      rw [hval] at hlk
      exact ofMet hgk hE hlk hbel
end Go.Proofs.YtmiicfdigkkbdaaDoor
