/-
  The program's again, alike, EqualFunc over alike, Same: what they tell of trees.
-/
import Derived.Test.YtofgniceilbpaaaDoorGt06
import Derived.Deep.Fields
import Derived.Deep.Slices
import Derived.LaidEqlPtr
namespace Go.Proofs.YtofgniceilbpaaaDoor
open Go.RowKit

/-! ### what lies at a place is one tree -/
theorem nd_uniq {w : World} {S S' : Nat → Prop} {v : Value} {x y : Nod} {ks ls : Fr} (hU : ∀ {b o : Nat}, ks.len = ls.len → InF w S ks b o → InF w S' ls b o → ks = ls)
    (h : Nd w S v x ks.len (InF w S ks)) (h' : Nd w S' v y ls.len (InF w S' ls)) : x = y ∧ ks = ls := by
  obtain ⟨q, p, A, c, e, _, _, h0, h1, h2, h3, h4, _, hk⟩ := h
  obtain ⟨q', p', A', c', e', _, _, h0', h1', h2', h3', h4', _, hk'⟩ := h'
  subst e
  injection e' with e'
  injection e' with e'
  injection e' with e1 e2
  subst e1 e2
  have k0 : x.k = y.k := by rw [h0] at h0'; injection h0' with h; injection h
  have k1 : x.n = y.n := by rw [h1] at h1'; injection h1' with h; injection h
  have k2 : x.a = y.a := by rw [h2] at h2'; injection h2' with h; injection h
  have k3 : x.m = y.m := by rw [h3] at h3'; injection h3' with h; injection h
  rw [h4] at h4'
  injection h4' with h4'
  injection h4' with hA hl _
  subst hA
  refine ⟨nod_ext k0 k1 k2 k3, ?_⟩
  rcases Nat.eq_zero_or_pos ks.len with hz | hp
  · cases ks with
    | nil => cases ls with
      | nil => rfl
      | cons _ _ _ => simp [Fr.len] at hl
    | cons _ _ _ => simp [Fr.len] at hz
  · obtain ⟨kb, ko, hA1, _, hkk⟩ := hk hp
    obtain ⟨kb', ko', hA2, _, hkk'⟩ := hk' (by omega)
    rw [hA1] at hA2
    injection hA2 with hA2
    injection hA2 with e1 e2
    subst e1 e2
    exact hU hl hkk hkk'
theorem InF.uniq {w : World} {S S' : Nat → Prop} : ∀ {f g : Fr} {b o : Nat}, f.len = g.len → InF w S f b o → InF w S' g b o → f = g
  | .nil, .nil, _, _, _, _, _ => rfl
  | .nil, .cons _ _ _, _, _, h, _, _ => by simp [Fr.len] at h
  | .cons _ _ _, .nil, _, _, h, _, _ => by simp [Fr.len] at h
  | .cons x ks rs, .cons y ls ss, b, o, hlen, h, h' => by
    obtain ⟨⟨v, hv, hn⟩, hr⟩ := h
    obtain ⟨⟨v', hv', hn'⟩, hr'⟩ := h'
    obtain rfl : v = v' := by rw [hv] at hv'; injection hv'
    have hr2 : rs = ss := InF.uniq (f := rs) (g := ss) (by simp only [Fr.len] at hlen; omega) hr hr'
    obtain ⟨e1, e2⟩ := nd_uniq (fun hl h1 h2 => InF.uniq (f := ks) (g := ls) hl h1 h2) hn hn'
    rw [e1, e2, hr2]
theorem InT.uniq {w : World} {S S' : Nat → Prop} {v : Value} {t u : Tr} (h : InT w S v t) (h' : InT w S' v u) : t = u := by
  obtain ⟨e1, e2⟩ := nd_uniq (fun hl h1 h2 => InF.uniq hl h1 h2) h h'
  exact Prod.ext e1 e2

/-! ### again -/
def Cm (w : World) (cb k : Nat) : Prop := w.heap[cb]? = some (.cells #[.int .i64 (k : Int), .map none] 64 (0, 0))
theorem again_any (cb k : Nat) (p : Array Value) (w : World) (h : Cm w cb k) (hk : k < 65536) :
    Calls Tryd.prog 46 #[.pointer (some ⟨cb, 0, none⟩), .agg p] w fun e w' => e = .returned (.bool false) ∧ Cm w' cb (k + 1) ∧ w.grownBy w' (some cb) := by
  have c0 := cell_of_row w cb 0 _ _ _ h
  have f0 := frozen_of_row w cb 0 _ _ h
  have hcb := heap_lt h
  have h1 : (k : Int) + 1 ≤ 65536 := by omega
  have HC := Lib.hid h
  clear h
  go_enter Tryd.func46, Tryd.ntmps46
  go_wp2_with fail
  go_ret
  refine ⟨rfl, ?_, gb_alloc (gb_set (gb_refl w _) _ _ (.inr rfl)) _⟩
  have e1 : ((k + 1 : Nat) : Int) = (k : Int) + 1 := by omega
  refine block_alloc _ ?_
  rw [e1, block_set _ HC.out]
  rfl

/-! ### alike, EqualFunc over alike -/
def CmPost (b : Bool) (cb k M : Nat) (w : World) (e : Ending) (w' : World) : Prop := e = .returned (.bool b) ∧ (∃ m, m ≤ M ∧ Cm w' cb (k + m)) ∧ w.grownBy w' (some cb)
theorem cm_ret {b b' : Bool} {cb k M m : Nat} {w w' : World} (hb : b = b') (hm : m ≤ M) (h : Cm w' cb (k + m)) (hg : w.grownBy w' (some cb)) : CmPost b cb k M w (.returned (.bool b')) w' := ⟨by rw [hb], ⟨m, hm, h⟩, hg⟩
def AlikeAt (n : Nat) : Prop := ∀ (t u : Tr), szT t ≤ n → ∀ (w : World) (Sq Sq' : Nat → Prop) (v v' : Value) (cb k : Nat), Bel Sq w.heap.size → Bel Sq' w.heap.size → ¬ Sq cb → ¬ Sq' cb → InT w Sq v t → InT w Sq' v' u → Cm w cb k → k + szT t ≤ 65536 → ∀ b : Bool, (b = true ↔ t = u) →
    Calls Tryd.prog 30 #[.pointer (some ⟨cb, 0, none⟩), v, v'] w (CmPost b cb k (szT t) w)
theorem Cm.drew {w : World} {cb k : Nat} (h : Cm w cb k) (q : Nat) : Cm (w.drewN q) cb k := h
set_option maxHeartbeats 3200000 in
set_option maxRecDepth 100000 in
theorem equal_any (n : Nat) (ih : AlikeAt n) (ks ls : Fr) (hn : ks.sz ≤ n) (w : World) (Sq Sq' : Nat → Prop) (A A' : Option Addr) (c c' cb k : Nat) (hS : Bel Sq w.heap.size) (hS' : Bel Sq' w.heap.size) (hcS : ¬ Sq cb) (hcS' : ¬ Sq' cb)
    (hkid : Kid w Sq A ks 0) (hkid' : Kid w Sq' A' ls 0) (hcm : Cm w cb k) (hk : k + ks.sz ≤ 65536) (ANS : Bool) (hans : ANS = true ↔ ks = ls) :
    Calls Tryd.prog 47 #[.slice A ks.len c, .slice A' ls.len c', .func (.func 30) #[.pointer (some ⟨cb, 0, none⟩)] #[]] w (CmPost ANS cb k ks.sz w) := by
  have HA := Lib.hid hans
  have HK := Lib.hid hkid
  have HK' := Lib.hid hkid'
  have HIH := Lib.hid ih
  have HCM := Lib.hid hcm
  have HB := Lib.hid hS
  have HB' := Lib.hid hS'
  have HC := Lib.hid hcS
  have HC' := Lib.hid hcS'
  have hll := Fr.len_le ks
  obtain ⟨N, hN⟩ : ∃ N, ks.len = N := ⟨_, rfl⟩
  obtain ⟨M, hM⟩ : ∃ M, ls.len = M := ⟨_, rfl⟩
  obtain ⟨Z, hZ⟩ : ∃ Z, ks.sz = Z := ⟨_, rfl⟩
  rw [hN, hZ] at hll
  rw [hZ] at hk hn
  rw [hN, hM, hZ]
  have HNN := Lib.hid hN
  have HMM := Lib.hid hM
  have HZ := Lib.hid hZ
  clear hans hkid hkid' ih hcm hS hS' hcS hcS' hN hM hZ
  by_cases d4 : N = M
  · subst d4
    go_enter Tryd.func47, Tryd.ntmps47
    go_wp2_with fail
    go_loopw [7, 8, 9, 17] (fun _ _ _ i wr => ∃ (j : Nat) (done r1 r2 : Fr) (m : Nat), i = .int .i64 j ∧ j = done.len ∧ ks = done.app r1 ∧ ls = done.app r2 ∧ Kid wr Sq A r1 j ∧ Kid wr Sq' A' r2 j ∧ m ≤ done.sz ∧ Cm wr cb (k + m) ∧ w.grownBy wr (some cb)) (fun _ _ _ i _ => N - (intOf i).toNat)
    case atStart => exact ⟨0, .nil, ks, ls, 0, rfl, rfl, rfl, rfl, HK.out, HK'.out, Nat.zero_le _, HCM.out, gb_refl _ _⟩
    case round =>
      obtain ⟨j, done, r1, r2, m, rfl, hj, hks, hls, hkid, hkid', hm, hcm, hgw⟩ := hrel
      have hl : N = done.len + r1.len := by rw [← HNN.out, hks, Fr.len_app]
      have hl' : N = done.len + r2.len := by rw [← HMM.out, hls, Fr.len_app]
      have hs : Z = done.sz + r1.sz := by rw [← HZ.out, hks, Fr.sz_app]
      have hrw := hgw.size
      have HKS := Lib.hid hks
      have HLS := Lib.hid hls
      by_cases hlt : 0 < r1.len
      · obtain ⟨y1, l1, s1, rfl⟩ := Fr.cut hlt
        obtain ⟨y2, l2, s2, rfl⟩ := Fr.cut (f := r2) (by omega)
        obtain ⟨kb, ko, u1, rfl, hkb, hcell, hu1, hnext⟩ := hkid.next
        obtain ⟨kb', ko', u2, rfl, hkb', hcell', hu2, hnext'⟩ := hkid'.next
        have hyl : szT (y1, l1) = 1 + l1.sz := rfl
        have hsr : (Fr.cons y1 l1 s1).sz = 1 + l1.sz + s1.sz := rfl
        have hlr : (Fr.cons y1 l1 s1).len = s1.len + 1 := rfl
        have hbr : Bel Sq wr.heap.size := fun q h => by have := HB.out q h; omega
        have hbr' : Bel Sq' wr.heap.size := fun q h => by have := HB'.out q h; omega
        have hjz : (j : Int) < (N : Int) := by omega
        have hjN : j < N := by omega
        have HSN : Hid (m + szT (y1, l1) ≤ (done.app (.cons y1 l1 .nil)).sz ∧ m + szT (y1, l1) ≤ Z) := Lib.hid (by rw [Fr.sz_app]; simp only [Fr.sz]; omega)
        have HLN : Hid (j + 1 = (done.app (.cons y1 l1 .nil)).len) := Lib.hid (by rw [Fr.len_app]; simp only [Fr.len]; omega)
        have HNX : Hid (∀ w2, wr.grownBy w2 (some cb) → Kid w2 Sq (some ⟨kb, ko, none⟩) s1 (j + 1) ∧ Kid w2 Sq' (some ⟨kb', ko', none⟩) s2 (j + 1)) := Lib.hid fun w2 hw2 => ⟨hnext.gb hbr HC.out hw2, hnext'.gb hbr' HC'.out hw2⟩
        have cI := fun b hb => HIH.out (y1, l1) (y2, l2) (by omega) wr Sq Sq' u1 u2 cb (k + m) hbr hbr' HC.out HC'.out hu1 hu2 hcm (by omega) b hb
        have HGW := Lib.hid hgw
        clear hkid hkid' hnext hnext' hu1 hu2 hks hls hj hl hl' hs hlr hsr hyl hbr hbr' hgw hcm
        by_cases heq : ((y1, l1) : Tr) = (y2, l2)
        · have cI := cI true ⟨fun _ => heq, fun _ => rfl⟩
          have HEQ := Lib.hid heq
          clear heq
          go_wp2_with (go_at_call 30; refine cI.mono ?_; rintro e w2 ⟨rfl, hc2, hg2⟩; have HC2 := Lib.hid hc2; have HG2 := Lib.hid hg2; clear hc2 hg2)
          go_roundw
          case rel =>
            obtain ⟨m2, hm2, hc2⟩ := HC2.out
            exact ⟨j + 1, done.app (.cons y1 l1 .nil), s1, s2, m + m2, by go_num, HLN.out, by rw [HKS.out, Fr.app_cons], by
              rw [HLS.out, Fr.app_cons]
              have := HEQ.out
              simp only [Prod.mk.injEq] at this
              rw [this.1, this.2], (HNX.out _ HG2.out).1, (HNX.out _ HG2.out).2, by have := HSN.out.1; omega, by rw [← Nat.add_assoc]; exact hc2, gb_trans HGW.out HG2.out⟩
          case measure => simp [intOf]; omega
        · have cI := cI false ⟨fun h => (by cases h), fun h => absurd h heq⟩
          have HE : Hid (ANS = false) := Lib.hid (bool_no HA.out fun e2 => heq (by
            rw [HKS.out, HLS.out] at e2
            have e3 := Fr.app_inj done e2
            simp only [Fr.cons.injEq] at e3
            rw [e3.1, e3.2.1]))
          clear heq
          go_wp2_with (go_at_call 30; refine cI.mono ?_; rintro e w2 ⟨rfl, hc2, hg2⟩; have HC2 := Lib.hid hc2; have HG2 := Lib.hid hg2; clear hc2 hg2)
          go_ret
          obtain ⟨m2, hm2, hc2⟩ := HC2.out
          exact cm_ret (m := m + m2) HE.out (by have := HSN.out.2; omega) (by rw [← Nat.add_assoc]; exact hc2) (gb_trans HGW.out HG2.out)
      · have h1 : r1 = .nil := by
          cases r1 with
          | nil => rfl
          | cons y l r => exact absurd (Nat.succ_pos _) hlt
        subst h1
        have hl1 : N = done.len := by simpa [Fr.len] using hl
        have h2 : r2 = .nil := by
          cases r2 with
          | nil => rfl
          | cons y l r => simp only [Fr.len] at hl'; omega
        subst h2
        have hjz : ¬ (j : Int) < (N : Int) := by omega
        have HE : Hid (ANS = true) := Lib.hid (bool_yes HA.out (by rw [HKS.out, HLS.out]))
        have HGW := Lib.hid hgw
        have HCR := Lib.hid hcm
        have hsn : (Fr.nil).sz = 0 := rfl
        have hmz : m ≤ Z := by omega
        clear hkid hkid' hks hls hj hl hl' hl1 hs hgw hcm hsn
        go_wp2_with fail
        go_ret
        exact cm_ret HE.out hmz HCR.out HGW.out
  · have e4 : ((N : Int) == (M : Int)) = false := by rw [beq_eq_false_iff_ne]; omega
    have f4 : ((N : Int) != (M : Int)) = true := by rw [bne_iff_ne]; omega
    have HE : Hid (ANS = false) := Lib.hid (bool_no HA.out fun e => d4 (by rw [← HNN.out, ← HMM.out, e]))
    clear d4
    go_enter Tryd.func47, Tryd.ntmps47
    go_wp2_with fail
    go_ret
    exact cm_ret (m := 0) HE.out (Nat.zero_le _) HCM.out (gb_refl _ _)
theorem infoNode : ∃ j : TypeInfo, Tryd.prog.info? 47 = some j ∧ j.size ≠ 0 := by
  have h : (Tryd.prog.info? 47).map (·.size) = some 5 := by kernel_rfl
  obtain ⟨j, hj, hs⟩ := Option.map_eq_some_iff.1 h
  exact ⟨j, hj, by omega⟩
theorem ptr_other {w : World} {a b : Addr} (hne : a ≠ b) (ha : Pln w a.block) (hb : Pln w b.block) : (binOp .eql 25 (.pointer (some a)) (.pointer (some b))).run Tryd.prog w = .ok (.bool false) w := by
  obtain ⟨j, hj, hs⟩ := infoNode
  obtain ⟨ca, ta, ha⟩ := ha
  obtain ⟨cb, tb, hb⟩ := hb
  exact run_eql_ptr_other w Tryd.underlying25 hj hs hne ha hb
theorem ptr_same (w : World) (a : Addr) : (binOp .eql 25 (.pointer (some a)) (.pointer (some a))).run Tryd.prog w = .ok (.bool true) w := by
  obtain ⟨j, hj, hs⟩ := infoNode
  exact run_eql_ptr_same w a Tryd.underlying25 hj
set_option maxHeartbeats 6400000 in
set_option maxRecDepth 100000 in
theorem alike_all : ∀ n, n ≤ 65536 → AlikeAt n
  | 0, _ => fun t _ h => absurd h (by unfold szT; omega)
  | n + 1, hbig => by
    have ih := alike_all n (by omega)
    rintro ⟨x, ks⟩ ⟨y, ls⟩ hn w Sq Sq' v v' cb k hS hS' hcS hcS' hin hin' hcm hk ANS hans
    have huq : v = v' → ANS = true := fun e => hans.2 (by subst e; exact hin.uniq hin')
    obtain ⟨q, p, A, c, rfl, hq1, c0, c1, c2, c3, c4, hc, hkid⟩ := hin.open
    obtain ⟨q', p', A', c', rfl, hq1', c0', c1', c2', c3', c4', hc', hkid'⟩ := hin'.open
    by_cases hsame : q = q' ∧ p = p'
    · obtain ⟨rfl, rfl⟩ := hsame
      have HE : Hid (ANS = true) := Lib.hid (huq rfl)
      have heq := ptr_same w ⟨q, p, none⟩
      clear huq hans ih hin hin' hkid hkid'
      go_enter Tryd.func30, Tryd.ntmps30
      go_wp2_with fail
      go_ret
      exact cm_ret (m := 0) HE.out (Nat.zero_le _) hcm (gb_refl _ _)
    · have heq := ptr_other (w := w) (a := ⟨q, p, none⟩) (b := ⟨q', p', none⟩) (fun e => hsame (by injection e with e1 e2; exact ⟨e1, e2⟩)) hin.pln hin'.pln
      have hq := cell_lt c4
      have hqq := cell_lt c4'
      have hcb := heap_lt hcm
      have HA := Lib.hid hans
      have HIH := Lib.hid ih
      have HCM := Lib.hid hcm
      have HK := Lib.hid hkid
      have HK' := Lib.hid hkid'
      have HB := Lib.hid hS
      have HB' := Lib.hid hS'
      have HC := Lib.hid hcS
      have HC' := Lib.hid hcS'
      have hqc : q ≠ cb := fun e => hcS (by rw [← e]; exact hq1)
      have hqc' : q' ≠ cb := fun e => hcS' (by rw [← e]; exact hq1')
      have hsz : szT (x, ks) = 1 + ks.sz := rfl
      obtain ⟨Z, hZ⟩ : ∃ Z, szT (x, ks) = Z := ⟨_, rfl⟩
      rw [hZ] at hn hk hsz ⊢
      obtain ⟨N, hN⟩ : ∃ N, ks.len = N := ⟨_, rfl⟩
      obtain ⟨M, hM⟩ : ∃ M, ls.len = M := ⟨_, rfl⟩
      rw [hN] at c4 hc
      rw [hM] at c4' hc'
      have HNN := Lib.hid hN
      have HMM := Lib.hid hM
      have HSZ := Lib.hid hsz
      have hk1 : k < 65536 := by omega
      clear huq hans ih hin hin' hcm hkid hkid' hS hS' hcS hcS' hsz hZ hN hM hsame
      by_cases d0 : x.k = y.k
      · by_cases d1 : x.n = y.n
        · by_cases d2 : x.a = y.a
          · by_cases d3 : x.m = y.m
            · have HXY := Lib.hid (nod_ext d0 d1 d2 d3)
              obtain ⟨e0, f0⟩ := int_eq d0
              obtain ⟨e1, f1⟩ := int_eq d1
              obtain ⟨e2, f2⟩ := txt_eq d2
              obtain ⟨e3, f3⟩ := txt_eq d3
              have HANS : Hid (ANS = true ↔ ks = ls) := Lib.hid (HA.out.trans ⟨fun e => (Prod.mk.inj e).2, fun e => by rw [e, HXY.out]⟩)
              have cA := fun W (h : Cm W cb k) => again_any cb k #[.pointer (some ⟨q, p, none⟩), .pointer (some ⟨q', p', none⟩)] W h hk1
              have cE := fun W (hg : w.grownBy W (some cb)) (h : Cm W cb (k + 1)) => equal_any n HIH.out ks ls (by have := HSZ.out; omega) W Sq Sq' A A' c c' cb (k + 1) (fun q h => by have := HB.out q h; have := hg.size; omega) (fun q h => by have := HB'.out q h; have := hg.size; omega) HC.out HC'.out (HK.out.gb HB.out HC.out hg) (HK'.out.gb HB'.out HC'.out hg) h (by have := HSZ.out; omega) ANS HANS.out
              rw [HNN.out, HMM.out] at cE
              have HCA := Lib.hid cA
              have HCE := Lib.hid cE
              clear d0 d1 d2 d3 cA cE
              go_enter Tryd.func30, Tryd.ntmps30
              go_wp2_with fail
              go_quiet (fail)
              go_wp2_with fail
              go_region_held3 (fun w' => w'.cell? ⟨q, p + 4, none⟩ = some (.slice A N c) ∧ w'.cell? ⟨q', p' + 4, none⟩ = some (.slice A' M c')) (go_keep)
                (first
                  | (go_at_call 46; refine (HCA.out _ (by exact HCM.out)).mono ?_; rintro e w2 ⟨rfl, hc2, hg2⟩; have hgw : w.grownBy w2 (some cb) := ⟨hg2.os, hg2.tape, hg2.output, hg2.size, hg2.block⟩; have k4 := gb_cell hgw c4 hqc; have k4' := gb_cell hgw c4' hqc'; have HC2 := Lib.hid hc2; have HG2 := Lib.hid hgw; clear hc2 hg2 hgw)
                  | (go_at_call 47; refine (HCE.out _ (by exact ⟨HG2.out.os, HG2.out.tape, HG2.out.output, HG2.out.size, HG2.out.block⟩) (by exact HC2.out)).mono ?_; rintro e w3 ⟨rfl, hc3, hg3⟩; have hgw : w.grownBy w3 (some cb) := gb_trans HG2.out ⟨hg3.os, hg3.tape, hg3.output, hg3.size, hg3.block⟩; have m4 := gb_cell hgw c4 hqc; have m4' := gb_cell hgw c4' hqc'; have HC3 := Lib.hid hc3; have HG3 := Lib.hid hgw; clear hc3 hg3 hgw))
              go_wp2_with fail
              go_ret
              obtain ⟨m3, hm3, hc3⟩ := HC3.out
              exact cm_ret (m := 1 + m3) rfl (by have := HSZ.out; omega) (by rw [← Nat.add_assoc]; exact hc3) HG3.out
            · obtain ⟨e0, f0⟩ := int_eq d0
              obtain ⟨e1, f1⟩ := int_eq d1
              obtain ⟨e2, f2⟩ := txt_eq d2
              obtain ⟨e3, f3⟩ := txt_ne d3
              have HE : Hid (ANS = false) := Lib.hid (bool_no HA.out fun e => d3 (by rw [(Prod.mk.inj e).1]))
              clear d0 d1 d2 d3
              go_enter Tryd.func30, Tryd.ntmps30
              go_wp2_with fail
              go_quiet (fail)
              go_wp2_with fail
              go_ret
              exact cm_ret (m := 0) HE.out (Nat.zero_le _) (HCM.out.drew _) (gb_drew (gb_refl _ _) _)
          · obtain ⟨e0, f0⟩ := int_eq d0
            obtain ⟨e1, f1⟩ := int_eq d1
            obtain ⟨e2, f2⟩ := txt_ne d2
            have HE : Hid (ANS = false) := Lib.hid (bool_no HA.out fun e => d2 (by rw [(Prod.mk.inj e).1]))
            clear d0 d1 d2
            go_enter Tryd.func30, Tryd.ntmps30
            go_wp2_with fail
            go_quiet (fail)
            go_wp2_with fail
            go_ret
            exact cm_ret (m := 0) HE.out (Nat.zero_le _) (HCM.out.drew _) (gb_drew (gb_refl _ _) _)
        · obtain ⟨e0, f0⟩ := int_eq d0
          obtain ⟨e1, f1⟩ := int_ne d1
          have HE : Hid (ANS = false) := Lib.hid (bool_no HA.out fun e => d1 (by rw [(Prod.mk.inj e).1]))
          clear d0 d1
          go_enter Tryd.func30, Tryd.ntmps30
          go_wp2_with fail
          go_quiet (fail)
          go_wp2_with fail
          go_ret
          exact cm_ret (m := 0) HE.out (Nat.zero_le _) (HCM.out.drew _) (gb_drew (gb_refl _ _) _)
      · obtain ⟨e0, f0⟩ := int_ne d0
        have HE : Hid (ANS = false) := Lib.hid (bool_no HA.out fun e => d0 (by rw [(Prod.mk.inj e).1]))
        clear d0
        go_enter Tryd.func30, Tryd.ntmps30
        go_wp2_with fail
        go_quiet (fail)
        go_wp2_with fail
        go_ret
        exact cm_ret (m := 0) HE.out (Nat.zero_le _) (HCM.out.drew _) (gb_drew (gb_refl _ _) _)

/-! ### Same -/
theorem ptr_nil_left (w : World) (a : Addr) : (binOp .eql 25 (.pointer none) (.pointer (some a))).run Tryd.prog w = .ok (.bool false) w := by
  have h : ∀ d : Nat, (Op.equalIn (d + 1) 25 (.pointer none) (.pointer (some a))).run Tryd.prog w = .ok false w := fun d => by simp [Op.equalIn, run_underlying Tryd.underlying25]
  simp only [binOp]
  simp [Op.equal, Op.maxDepth, h 9999]
theorem ptr_nil_right (w : World) (a : Addr) : (binOp .eql 25 (.pointer (some a)) (.pointer none)).run Tryd.prog w = .ok (.bool false) w := by
  have h : ∀ d : Nat, (Op.equalIn (d + 1) 25 (.pointer (some a)) (.pointer none)).run Tryd.prog w = .ok false w := fun d => by simp [Op.equalIn, run_underlying Tryd.underlying25]
  simp only [binOp]
  simp [Op.equal, Op.maxDepth, h 9999]
def SbPost (b : Bool) (w : World) (e : Ending) (w' : World) : Prop := e = .returned (.bool b) ∧ Below w.heap.size w w'
set_option maxHeartbeats 1600000 in
set_option maxRecDepth 100000 in
theorem alikeO (t u : Option Tr) (hno : t = none ∨ u = none) (cb : Nat) (w : World) (Sq Sq' : Nat → Prop) (v v' : Value) (hin : InO w Sq v t) (hin' : InO w Sq' v' u) (b : Bool) (hb : b = true ↔ t = u) :
    Calls Tryd.prog 30 #[.pointer (some ⟨cb, 0, none⟩), v, v'] w fun e w' => e = .returned (.bool b) ∧ ∃ n, w' = w.drewN n := by
  cases t with
  | none =>
    have hv : v = .pointer none := hin
    subst hv
    cases u with
    | none =>
      have hv : v' = .pointer none := hin'
      subst hv
      have HE : Hid (b = true) := Lib.hid (hb.2 rfl)
      clear hb hin hin' hno
      go_enter Tryd.func30, Tryd.ntmps30
      go_wp2_with fail
      go_ret
      exact sm_ret HE.out ⟨0, rfl⟩
    | some u =>
      obtain ⟨q, p, rfl⟩ := InT.ptr hin'
      have HE : Hid (b = false) := Lib.hid (bool_no hb (by simp))
      have heq := ptr_nil_left w ⟨q, p, none⟩
      clear hb hin hin' hno
      go_enter Tryd.func30, Tryd.ntmps30
      go_wp2_with fail
      go_quiet (fail)
      go_wp2_with fail
      go_ret
      exact sm_ret HE.out ⟨_, rfl⟩
  | some t =>
    obtain rfl : u = none := hno.resolve_left (by simp)
    have hv : v' = .pointer none := hin'
    subst hv
    obtain ⟨q, p, rfl⟩ := InT.ptr hin
    have HE : Hid (b = false) := Lib.hid (bool_no hb (by simp))
    have heq := ptr_nil_right w ⟨q, p, none⟩
    clear hb hin hin' hno
    go_enter Tryd.func30, Tryd.ntmps30
    go_wp2_with fail
    go_quiet (fail)
    go_wp2_with fail
    go_ret
    exact sm_ret HE.out ⟨_, rfl⟩
set_option maxHeartbeats 1600000 in
set_option maxRecDepth 100000 in
theorem arSame (t u : Option Tr) (w : World) (Sq Sq' : Nat → Prop) (v v' : Value) (hS : Bel Sq w.heap.size) (hS' : Bel Sq' w.heap.size) (hin : InO w Sq v t) (hin' : InO w Sq' v' u) (hsz : szO t ≤ 65536) (b : Bool) (hb : b = true ↔ t = u) :
    Calls Tryd.prog 17 #[v, v'] w (SbPost b w) := by
  obtain ⟨H, hH⟩ : ∃ H, w.heap.size = H := ⟨_, rfl⟩
  have hbel := (Below.refl w.heap.size w).alloc (Nat.le_refl _) (.cells #[.int .i64 0, .map none] 64)
  have key : Calls Tryd.prog 30 #[.pointer (some ⟨H, 0, none⟩), v, v'] (w.alloc (.cells #[.int .i64 0, .map none] 64)) fun e w' => e = .returned (.bool b) ∧ Below w.heap.size w w' := by
    by_cases hno : t = none ∨ u = none
    · refine (alikeO t u hno H _ Sq Sq' v v' (hin.below hS hbel) (hin'.below hS' hbel) b hb).mono ?_
      rintro e w' ⟨rfl, n, rfl⟩
      exact ⟨rfl, below_drewN' hbel n⟩
    · cases t with
      | none => exact absurd (.inl rfl) hno
      | some t =>
        cases u with
        | none => exact absurd (.inr rfl) hno
        | some u =>
          have hs1 : (w.alloc (.cells #[.int .i64 0, .map none] 64)).heap.size = H + 1 := by simp; omega
          have hszt : szO (some t) = szT t := rfl
          refine (alike_all 65536 (Nat.le_refl _) t u (by omega) _ Sq Sq' v v' H 0 (fun q h => by have := hS q h; omega) (fun q h => by have := hS' q h; omega) (fun h => by have := hS _ h; omega) (fun h => by have := hS' _ h; omega) (InT.below hin hS hbel) (InT.below hin' hS' hbel) (by rw [← hH]; exact heap_alloc_new w _) (by omega) b (by rw [hb]; simp)).mono ?_
          rintro e w' ⟨rfl, -, hg⟩
          exact ⟨rfl, gb_base hbel hg (by omega) fun g h => by injection h with h; omega⟩
  rw [← hH] at key
  clear hin hin' hS hS' hbel hb hsz hH
  go_enter Tryd.func17, Tryd.ntmps17
  go_wp2_with fail
  refine key.mono ?_
  rintro e w1 ⟨rfl, hb1⟩
  go_wp2_with fail
  go_ret
  exact ⟨rfl, hb1⟩
end Go.Proofs.YtofgniceilbpaaaDoor
namespace Go.Proofs.YtofgniceilbpaaaDoor
open Go.ChangeShapes Go.WideShapes Go.Deep Go.RowKit

theorem plain_of {w : World} {a : Addr} {v : Value} (h : w.cell? (a.add 0) = some v) : ∃ b o, a = ⟨b, o, none⟩ ∧ b < w.heap.size := by
  have hb := cell_lt h
  rw [addBlock] at hb
  obtain ⟨b, o, s⟩ := a
  cases s with
  | none => exact ⟨b, o, rfl, hb⟩
  | some s =>
    exfalso
    unfold Addr.add World.cell? at h
    split at h
    · simp at h
    · cases h
theorem open_nums {H : Type} {enc : TypeId × Value → H} {w : World} {base fuel : Nat} {spare : Nat → Bool} {held : Bool} {v : Value} {x : DataW H × List MemPlace}
    (h : DataW.trod enc Tryd.prog w base spare held fuel 49 [v] = some x) : ∃ l : List Int, Sp w w.heap.size v l ∧ l.length ≤ maxLen := by
  rcases open_slice1 Tryd.underlying49 (by kernel_rfl) h with ⟨h1, _⟩ | ⟨a, len, cap, m, n, V, D, Pl, h1, _, hl, hcm, hmm, _, hi⟩
  · injection h1 with h1
    rw [h1]
    exact ⟨[], ⟨none, 0, rfl, Nat.le_refl _, fun j u hu => by simp at hu⟩, Nat.zero_le _⟩
  · injection h1 with h1
    rw [h1]
    have hlm : len ≤ m := by rw [hmm]; split <;> omega
    have key : ∀ i, i < len → ∃ k : Int, w.cell? (a.add i) = some (.int .i64 k) := by
      intro i h
      obtain ⟨h2, h3⟩ := hi i (by omega)
      obtain ⟨k, e, _⟩ := DataW.trod_int Tryd.underlying3 h3
      injection e with e
      exact ⟨k, by rw [h2, e]⟩
    let f : Nat → Int := fun i => if h : i < len then Classical.choose (key i h) else 0
    have hf : ∀ i, i < len → w.cell? (a.add i) = some (.int .i64 (f i)) := by
      intro i h
      have := Classical.choose_spec (key i h)
      show w.cell? _ = some (.int .i64 (dite _ _ _))
      rw [dif_pos h]
      exact this
    refine ⟨(List.range len).map f, ⟨some a, cap, by rw [List.length_map, List.length_range], by rw [List.length_map, List.length_range]; exact hl, fun j u hu => ?_⟩, by rw [List.length_map, List.length_range]; omega⟩
    rw [List.getElem?_map] at hu
    obtain ⟨i, hi1, rfl⟩ := Option.map_eq_some_iff.1 hu
    obtain ⟨h2, h3⟩ := List.getElem?_eq_some_iff.1 hi1
    rw [List.length_range] at h2
    rw [List.getElem_range] at h3
    subst h3
    obtain ⟨b, o, rfl, e2⟩ := plain_of (hf 0 (by omega))
    have e3 := hf j h2
    rw [addAt] at e3
    exact ⟨b, o, rfl, e2, e3⟩
theorem add_zero' (a : Addr) : (a.add 0).add 0 = a.add 0 := by simp [Addr.add]
def w5 (w : World) (a : Addr) (c : Cel) (kv : Value) : Prop := w.cell? (a.add 0) = some (.int .i64 c.x.k) ∧ w.cell? (a.add 1) = some (.int .i64 c.x.n) ∧ w.cell? (a.add 2) = some (.string c.x.a) ∧ w.cell? (a.add 3) = some (.string c.x.m) ∧ w.cell? (a.add 4) = some kv
def fitC (c : Cel) : Prop := c.x.a.size ≤ maxLen ∧ c.x.m.size ≤ maxLen ∧ c.ks.length ≤ maxLen
set_option maxRecDepth 100000 in
theorem one_cel {H : Type} {enc : TypeId × Value → H} {w : World} {base fuel : Nat} {spare : Nat → Bool} {held : Bool} {cs : List Value} {x : DataW H × List MemPlace}
    (h : DataW.trod enc Tryd.prog w base spare held fuel 51 cs = some x) : ∃ (c : Cel) (kv : Value), cs = [.int .i64 c.x.k, .int .i64 c.x.n, .string c.x.a, .string c.x.m, kv] ∧ Sp w w.heap.size kv c.ks ∧ fitC c := by
  obtain ⟨ys, n, _, _, hlen, hyl, hf⟩ := DataW.trod_struct Tryd.underlying51 h
  have hC : Tryd.prog.cellsOf 51 = 5 := by kernel_rfl
  rw [hC] at hlen
  have hl5 : cs.length = 5 := hlen
  have hy5 : ys.length = 5 := hyl
  match cs, hl5 with
  | [c0, c1, c2, c3, c4], _ =>
    match ys, hy5 with
    | [y0, y1, y2, y3, y4], _ =>
      have g0 : DataW.trod enc Tryd.prog w base spare held n 3 [c0] = some y0 := hf 0 _ rfl
      have g1 : DataW.trod enc Tryd.prog w base spare held n 3 [c1] = some y1 := hf 1 _ rfl
      have g2 : DataW.trod enc Tryd.prog w base spare held n 9 [c2] = some y2 := hf 2 _ rfl
      have g3 : DataW.trod enc Tryd.prog w base spare held n 9 [c3] = some y3 := hf 3 _ rfl
      have g4 : DataW.trod enc Tryd.prog w base spare held n 49 [c4] = some y4 := hf 4 _ rfl
      obtain ⟨k, e0, _⟩ := DataW.trod_int Tryd.underlying3 g0
      obtain ⟨m, e1, _⟩ := DataW.trod_int Tryd.underlying3 g1
      obtain ⟨s, e2, _, hs⟩ := DataW.trod_string Tryd.underlying9 g2
      obtain ⟨t, e3, _, ht⟩ := DataW.trod_string Tryd.underlying9 g3
      obtain ⟨l, hsp, hl⟩ := open_nums g4
      injection e0 with e0
      injection e1 with e1
      injection e2 with e2
      injection e3 with e3
      exact ⟨⟨⟨k, m, s, t⟩, l⟩, c4, by rw [e0, e1, e2, e3], hsp, hs, ht, hl⟩
set_option maxRecDepth 100000 in
theorem open_tree {H : Type} {enc : TypeId × Value → H} {W : World} {base : Nat} {v : Value} {d : DataW H} {p : List MemPlace}
    (hv : Value.okWide Tryd.prog W .any base 24 v) (h : DataW.Trod enc Tryd.prog W 0 (fun _ => true) true 24 v d p) :
    ∃ (cv : Value) (cs : List Cel), v = .agg #[cv] ∧ Cls W W.heap.size cv cs ∧ cs.length ≤ maxLen ∧ ∀ c ∈ cs, fitC c := by
  obtain ⟨cv0, rfl, hsz⟩ := okWide_struct Tryd.underlying24 hv
  have hC1 : Tryd.prog.cellsOf 24 = 1 := by kernel_rfl
  rw [hC1] at hsz
  obtain ⟨l0⟩ := cv0
  have hl1 : l0.length = 1 := hsz
  match l0, hl1 with
  | [cv], _ =>
  obtain ⟨fuel, hf⟩ := h
  obtain ⟨ys, n, _, _, hlen, hyl, hff⟩ := DataW.trod_struct Tryd.underlying24 hf
  have hy1 : ys.length = 1 := hyl
  match ys, hy1 with
  | [y0], _ =>
  have g0 : DataW.trod enc Tryd.prog W 0 (fun _ => true) true n 22 [cv] = some y0 := hff 0 _ rfl
  refine ⟨cv, ?_⟩
  rcases open_slice Tryd.underlying22 g0 with ⟨h0, _⟩ | ⟨a, len, cap, m, n, D, Pl, hc, _, hlc, hcm, hm, _, hi⟩
  · injection h0 with h0
    rw [h0]
    exact ⟨[], rfl, ⟨none, 0, rfl, Nat.le_refl _, fun j t ht => by simp at ht⟩, Nat.zero_le _, fun t ht => by cases ht⟩
  · injection hc with hc
    rw [hc]
    have hm2 : m = cap := by simpa using hm
    have hC : Tryd.prog.cellsOf 51 = 5 := by kernel_rfl
    have key : ∀ i, i < len → ∃ (c : Cel) (kv : Value), w5 W (a.add (i * 5)) c kv ∧ Sp W W.heap.size kv c.ks ∧ fitC c := by
      intro i hil
      obtain ⟨cs', hce, htr⟩ := hi i (by omega)
      obtain ⟨c, kv, rfl, hsp, hfit⟩ := one_cel htr
      rw [hC] at hce
      obtain ⟨_, _, hat⟩ := World.cells?_some hce
      exact ⟨c, kv, ⟨hat 0 (by omega), hat 1 (by omega), hat 2 (by omega), hat 3 (by omega), hat 4 (by omega)⟩, hsp, hfit⟩
    have key2 : ∀ i, i < len → ∃ c : Cel, (∃ b o, a = ⟨b, o, none⟩ ∧ b < W.heap.size ∧ CelAt W W.heap.size b (o + i * 5) c) ∧ fitC c := by
      intro i hil
      obtain ⟨_, _, hw0, _, _⟩ := key 0 (by omega)
      have h00 := hw0.1
      rw [Nat.zero_mul] at h00
      obtain ⟨b, o, rfl, hb⟩ := plain_of (a := a) (by rw [add_zero'] at h00; exact h00)
      obtain ⟨c, kv, ⟨q0, q1, q2, q3, q4⟩, hsp, hfit⟩ := key i hil
      simp only [addAt] at q0 q1 q2 q3 q4
      exact ⟨c, ⟨b, o, rfl, hb, q0, q1, q2, q3, kv, q4, hsp⟩, hfit⟩
    let f : Nat → Cel := fun i => if h : i < len then Classical.choose (key2 i h) else ⟨⟨0, 0, ⟨#[]⟩, ⟨#[]⟩⟩, []⟩
    have hfx : ∀ i, i < len → (∃ b o, a = ⟨b, o, none⟩ ∧ b < W.heap.size ∧ CelAt W W.heap.size b (o + i * 5) (f i)) ∧ fitC (f i) := by
      intro i h
      have := Classical.choose_spec (key2 i h)
      show (∃ b o, _ ∧ _ ∧ CelAt W _ _ _ (dite _ _ _)) ∧ fitC (dite _ _ _)
      rw [dif_pos h]
      exact this
    refine ⟨(List.range len).map f, rfl, ⟨some a, cap, by rw [List.length_map, List.length_range], by rw [List.length_map, List.length_range]; exact hlc, fun j t ht => ?_⟩, by rw [List.length_map, List.length_range]; omega, fun t ht => ?_⟩
    · rw [List.getElem?_map] at ht
      obtain ⟨i, hi', rfl⟩ := Option.map_eq_some_iff.1 ht
      obtain ⟨h1, h2⟩ := List.getElem?_eq_some_iff.1 hi'
      rw [List.length_range] at h1
      rw [List.getElem_range] at h2
      subst h2
      obtain ⟨⟨b, o, rfl, e2, e3⟩, _⟩ := hfx j h1
      exact ⟨b, o, rfl, e2, e3⟩
    · obtain ⟨i, hi', rfl⟩ := List.mem_map.1 ht
      exact (hfx i (List.mem_range.1 hi')).2
end Go.Proofs.YtofgniceilbpaaaDoor
