/-
  The program's again, alike, EqualFunc over alike, Same: what they tell of trees.
-/
import Derived.Test.YthonaeigacfmbaaGreatDoorGp32
import Derived.ArgAppend
import Derived.Deep.DeepCutAuto
import Derived.Deep.OwnRows
import Derived.LaidEqlPtr
namespace Go.Proofs.YthonaeigacfmbaaGreatDoor
open Go.RowKit

/-! ### what lies at a place is one tree -/
theorem nd_uniq {w : World} {S S' : Nat → Prop} {v : Value} {x y : Nod} {ks ls : Fr} (hU : ∀ {b o : Nat}, ks.len = ls.len → InF w S ks b o → InF w S' ls b o → ks = ls)
    (h : Nd w S v x ks.len (InF w S ks)) (h' : Nd w S' v y ls.len (InF w S' ls)) : x = y ∧ ks = ls := by
  obtain ⟨q, p, A, c, e, _, _, h0, h1, h2, h3, h4, _, hk⟩ := h
  obtain ⟨q', p', A', c', e', _, _, h0', h1', h2', h3', h4', _, hk'⟩ := h'
  subst e
  injection e' with e'
  injection e' with e'
  injection e' with e1 e2
  subst e1 e2
  have k0 : x.k = y.k := by rw [h0] at h0'; injection h0' with h; injection h
  have k1 : x.n = y.n := by rw [h1] at h1'; injection h1' with h; injection h
  have k2 : x.a = y.a := by rw [h2] at h2'; injection h2' with h; injection h
  have k3 : x.m = y.m := by rw [h3] at h3'; injection h3' with h; injection h
  rw [h4] at h4'
  injection h4' with h4'
  injection h4' with hA hl _
  subst hA
  refine ⟨nod_ext k0 k1 k2 k3, ?_⟩
  rcases Nat.eq_zero_or_pos ks.len with hz | hp
  · cases ks with
    | nil => cases ls with
      | nil => rfl
      | cons _ _ _ => simp [Fr.len] at hl
    | cons _ _ _ => simp [Fr.len] at hz
  · obtain ⟨kb, ko, hA1, _, hkk⟩ := hk hp
    obtain ⟨kb', ko', hA2, _, hkk'⟩ := hk' (by omega)
    rw [hA1] at hA2
    injection hA2 with hA2
    injection hA2 with e1 e2
    subst e1 e2
    exact hU hl hkk hkk'
theorem InF.uniq {w : World} {S S' : Nat → Prop} : ∀ {f g : Fr} {b o : Nat}, f.len = g.len → InF w S f b o → InF w S' g b o → f = g
  | .nil, .nil, _, _, _, _, _ => rfl
  | .nil, .cons _ _ _, _, _, h, _, _ => by simp [Fr.len] at h
  | .cons _ _ _, .nil, _, _, h, _, _ => by simp [Fr.len] at h
  | .cons x ks rs, .cons y ls ss, b, o, hlen, h, h' => by
    obtain ⟨⟨v, hv, hn⟩, hr⟩ := h
    obtain ⟨⟨v', hv', hn'⟩, hr'⟩ := h'
    obtain rfl : v = v' := by rw [hv] at hv'; injection hv'
    have hr2 : rs = ss := InF.uniq (f := rs) (g := ss) (by simp only [Fr.len] at hlen; omega) hr hr'
    obtain ⟨e1, e2⟩ := nd_uniq (fun hl h1 h2 => InF.uniq (f := ks) (g := ls) hl h1 h2) hn hn'
    rw [e1, e2, hr2]
theorem InT.uniq {w : World} {S S' : Nat → Prop} {v : Value} {t u : Tr} (h : InT w S v t) (h' : InT w S' v u) : t = u := by
  obtain ⟨e1, e2⟩ := nd_uniq (fun hl h1 h2 => InF.uniq hl h1 h2) h h'
  exact Prod.ext e1 e2

/-! ### again -/
def Cm (w : World) (cb k : Nat) : Prop := w.heap[cb]? = some (.cells #[.int .i64 (k : Int), .map none] 106 (0, 0))
theorem again_any (cb k : Nat) (p : Array Value) (w : World) (h : Cm w cb k) (hk : k < 65536) :
    Calls Tryz.prog 126 #[.pointer (some ⟨cb, 0, none⟩), .agg p] w fun e w' => e = .returned (.bool false) ∧ Cm w' cb (k + 1) ∧ w.grownBy w' (some cb) := by
  have c0 := cell_of_row w cb 0 _ _ _ h
  have f0 := frozen_of_row w cb 0 _ _ h
  have hcb := heap_lt h
  have h1 : (k : Int) + 1 ≤ 65536 := by omega
  have HC := Lib.hid h
  clear h
  go_enter Tryz.func126, Tryz.ntmps126
  go_wp2_with fail
  go_ret
  refine ⟨rfl, ?_, gb_alloc (gb_set (gb_refl w _) _ _ (.inr rfl)) _⟩
  have e1 : ((k + 1 : Nat) : Int) = (k : Int) + 1 := by omega
  refine block_alloc _ ?_
  rw [e1, block_set _ HC.out]
  rfl

/-! ### alike, EqualFunc over alike -/
def CmPost (b : Bool) (cb k M : Nat) (w : World) (e : Ending) (w' : World) : Prop := e = .returned (.bool b) ∧ (∃ m, m ≤ M ∧ Cm w' cb (k + m)) ∧ w.grownBy w' (some cb)
theorem cm_ret {b b' : Bool} {cb k M m : Nat} {w w' : World} (hb : b = b') (hm : m ≤ M) (h : Cm w' cb (k + m)) (hg : w.grownBy w' (some cb)) : CmPost b cb k M w (.returned (.bool b')) w' := ⟨by rw [hb], ⟨m, hm, h⟩, hg⟩
def AlikeAt (n : Nat) : Prop := ∀ (t u : Tr), szT t ≤ n → ∀ (w : World) (Sq Sq' : Nat → Prop) (v v' : Value) (cb k : Nat), Bel Sq w.heap.size → Bel Sq' w.heap.size → ¬ Sq cb → ¬ Sq' cb → InT w Sq v t → InT w Sq' v' u → Cm w cb k → k + szT t ≤ 65536 → ∀ b : Bool, (b = true ↔ t = u) →
    Calls Tryz.prog 74 #[.pointer (some ⟨cb, 0, none⟩), v, v'] w (CmPost b cb k (szT t) w)
theorem Cm.drew {w : World} {cb k : Nat} (h : Cm w cb k) (q : Nat) : Cm (w.drewN q) cb k := h
set_option maxHeartbeats 3200000 in
set_option maxRecDepth 100000 in
theorem equal_any (n : Nat) (ih : AlikeAt n) (ks ls : Fr) (hn : ks.sz ≤ n) (w : World) (Sq Sq' : Nat → Prop) (A A' : Option Addr) (c c' cb k : Nat) (hS : Bel Sq w.heap.size) (hS' : Bel Sq' w.heap.size) (hcS : ¬ Sq cb) (hcS' : ¬ Sq' cb)
    (hkid : Kid w Sq A ks 0) (hkid' : Kid w Sq' A' ls 0) (hcm : Cm w cb k) (hk : k + ks.sz ≤ 65536) (ANS : Bool) (hans : ANS = true ↔ ks = ls) :
    Calls Tryz.prog 127 #[.slice A ks.len c, .slice A' ls.len c', .func (.func 74) #[.pointer (some ⟨cb, 0, none⟩)] #[]] w (CmPost ANS cb k ks.sz w) := by
  have HA := Lib.hid hans
  have HK := Lib.hid hkid
  have HK' := Lib.hid hkid'
  have HIH := Lib.hid ih
  have HCM := Lib.hid hcm
  have HB := Lib.hid hS
  have HB' := Lib.hid hS'
  have HC := Lib.hid hcS
  have HC' := Lib.hid hcS'
  have hll := Fr.len_le ks
  obtain ⟨N, hN⟩ : ∃ N, ks.len = N := ⟨_, rfl⟩
  obtain ⟨M, hM⟩ : ∃ M, ls.len = M := ⟨_, rfl⟩
  obtain ⟨Z, hZ⟩ : ∃ Z, ks.sz = Z := ⟨_, rfl⟩
  rw [hN, hZ] at hll
  rw [hZ] at hk hn
  rw [hN, hM, hZ]
  have HNN := Lib.hid hN
  have HMM := Lib.hid hM
  have HZ := Lib.hid hZ
  clear hans hkid hkid' ih hcm hS hS' hcS hcS' hN hM hZ
  by_cases d4 : N = M
  · subst d4
    go_enter Tryz.func127, Tryz.ntmps127
    go_wp2_with fail
    go_loopw [7, 8, 9, 17] (fun _ _ _ i wr => ∃ (j : Nat) (done r1 r2 : Fr) (m : Nat), i = .int .i64 j ∧ j = done.len ∧ ks = done.app r1 ∧ ls = done.app r2 ∧ Kid wr Sq A r1 j ∧ Kid wr Sq' A' r2 j ∧ m ≤ done.sz ∧ Cm wr cb (k + m) ∧ w.grownBy wr (some cb)) (fun _ _ _ i _ => N - (intOf i).toNat)
    case atStart => exact ⟨0, .nil, ks, ls, 0, rfl, rfl, rfl, rfl, HK.out, HK'.out, Nat.zero_le _, HCM.out, gb_refl _ _⟩
    case round =>
      obtain ⟨j, done, r1, r2, m, rfl, hj, hks, hls, hkid, hkid', hm, hcm, hgw⟩ := hrel
      have hl : N = done.len + r1.len := by rw [← HNN.out, hks, Fr.len_app]
      have hl' : N = done.len + r2.len := by rw [← HMM.out, hls, Fr.len_app]
      have hs : Z = done.sz + r1.sz := by rw [← HZ.out, hks, Fr.sz_app]
      have hrw := hgw.size
      have HKS := Lib.hid hks
      have HLS := Lib.hid hls
      by_cases hlt : 0 < r1.len
      · obtain ⟨y1, l1, s1, rfl⟩ := Fr.cut hlt
        obtain ⟨y2, l2, s2, rfl⟩ := Fr.cut (f := r2) (by omega)
        obtain ⟨kb, ko, u1, rfl, hkb, hcell, hu1, hnext⟩ := hkid.next
        obtain ⟨kb', ko', u2, rfl, hkb', hcell', hu2, hnext'⟩ := hkid'.next
        have hyl : szT (y1, l1) = 1 + l1.sz := rfl
        have hsr : (Fr.cons y1 l1 s1).sz = 1 + l1.sz + s1.sz := rfl
        have hlr : (Fr.cons y1 l1 s1).len = s1.len + 1 := rfl
        have hbr : Bel Sq wr.heap.size := fun q h => by have := HB.out q h; omega
        have hbr' : Bel Sq' wr.heap.size := fun q h => by have := HB'.out q h; omega
        have hjz : (j : Int) < (N : Int) := by omega
        have hjN : j < N := by omega
        have HSN : Hid (m + szT (y1, l1) ≤ (done.app (.cons y1 l1 .nil)).sz ∧ m + szT (y1, l1) ≤ Z) := Lib.hid (by rw [Fr.sz_app]; simp only [Fr.sz]; omega)
        have HLN : Hid (j + 1 = (done.app (.cons y1 l1 .nil)).len) := Lib.hid (by rw [Fr.len_app]; simp only [Fr.len]; omega)
        have HNX : Hid (∀ w2, wr.grownBy w2 (some cb) → Kid w2 Sq (some ⟨kb, ko, none⟩) s1 (j + 1) ∧ Kid w2 Sq' (some ⟨kb', ko', none⟩) s2 (j + 1)) := Lib.hid fun w2 hw2 => ⟨hnext.gb hbr HC.out hw2, hnext'.gb hbr' HC'.out hw2⟩
        have cI := fun b hb => HIH.out (y1, l1) (y2, l2) (by omega) wr Sq Sq' u1 u2 cb (k + m) hbr hbr' HC.out HC'.out hu1 hu2 hcm (by omega) b hb
        have HGW := Lib.hid hgw
        clear hkid hkid' hnext hnext' hu1 hu2 hks hls hj hl hl' hs hlr hsr hyl hbr hbr' hgw hcm
        by_cases heq : ((y1, l1) : Tr) = (y2, l2)
        · have cI := cI true ⟨fun _ => heq, fun _ => rfl⟩
          have HEQ := Lib.hid heq
          clear heq
          go_wp2_with (go_at_call 74; refine cI.mono ?_; rintro e w2 ⟨rfl, hc2, hg2⟩; have HC2 := Lib.hid hc2; have HG2 := Lib.hid hg2; clear hc2 hg2)
          go_roundw
          case rel =>
            obtain ⟨m2, hm2, hc2⟩ := HC2.out
            exact ⟨j + 1, done.app (.cons y1 l1 .nil), s1, s2, m + m2, by go_num, HLN.out, by rw [HKS.out, Fr.app_cons], by
              rw [HLS.out, Fr.app_cons]
              have := HEQ.out
              simp only [Prod.mk.injEq] at this
              rw [this.1, this.2], (HNX.out _ HG2.out).1, (HNX.out _ HG2.out).2, by have := HSN.out.1; omega, by rw [← Nat.add_assoc]; exact hc2, gb_trans HGW.out HG2.out⟩
          case measure => simp [intOf]; omega
        · have cI := cI false ⟨fun h => (by cases h), fun h => absurd h heq⟩
          have HE : Hid (ANS = false) := Lib.hid (bool_no HA.out fun e2 => heq (by
            rw [HKS.out, HLS.out] at e2
            have e3 := Fr.app_inj done e2
            simp only [Fr.cons.injEq] at e3
            rw [e3.1, e3.2.1]))
          clear heq
          go_wp2_with (go_at_call 74; refine cI.mono ?_; rintro e w2 ⟨rfl, hc2, hg2⟩; have HC2 := Lib.hid hc2; have HG2 := Lib.hid hg2; clear hc2 hg2)
          go_ret
          obtain ⟨m2, hm2, hc2⟩ := HC2.out
          exact cm_ret (m := m + m2) HE.out (by have := HSN.out.2; omega) (by rw [← Nat.add_assoc]; exact hc2) (gb_trans HGW.out HG2.out)
      · have h1 : r1 = .nil := by
          cases r1 with
          | nil => rfl
          | cons y l r => exact absurd (Nat.succ_pos _) hlt
        subst h1
        have hl1 : N = done.len := by simpa [Fr.len] using hl
        have h2 : r2 = .nil := by
          cases r2 with
          | nil => rfl
          | cons y l r => simp only [Fr.len] at hl'; omega
        subst h2
        have hjz : ¬ (j : Int) < (N : Int) := by omega
        have HE : Hid (ANS = true) := Lib.hid (bool_yes HA.out (by rw [HKS.out, HLS.out]))
        have HGW := Lib.hid hgw
        have HCR := Lib.hid hcm
        have hsn : (Fr.nil).sz = 0 := rfl
        have hmz : m ≤ Z := by omega
        clear hkid hkid' hks hls hj hl hl' hl1 hs hgw hcm hsn
        go_wp2_with fail
        go_ret
        exact cm_ret HE.out hmz HCR.out HGW.out
  · have e4 : ((N : Int) == (M : Int)) = false := by rw [beq_eq_false_iff_ne]; omega
    have f4 : ((N : Int) != (M : Int)) = true := by rw [bne_iff_ne]; omega
    have HE : Hid (ANS = false) := Lib.hid (bool_no HA.out fun e => d4 (by rw [← HNN.out, ← HMM.out, e]))
    clear d4
    go_enter Tryz.func127, Tryz.ntmps127
    go_wp2_with fail
    go_ret
    exact cm_ret (m := 0) HE.out (Nat.zero_le _) HCM.out (gb_refl _ _)
theorem infoNode : ∃ j : TypeInfo, Tryz.prog.info? 66 = some j ∧ j.size ≠ 0 := by
  have h : (Tryz.prog.info? 66).map (·.size) = some 5 := by kernel_rfl
  obtain ⟨j, hj, hs⟩ := Option.map_eq_some_iff.1 h
  exact ⟨j, hj, by omega⟩
theorem ptr_other {w : World} {a b : Addr} (hne : a ≠ b) (ha : Pln w a.block) (hb : Pln w b.block) : (binOp .eql 24 (.pointer (some a)) (.pointer (some b))).run Tryz.prog w = .ok (.bool false) w := by
  obtain ⟨j, hj, hs⟩ := infoNode
  obtain ⟨ca, ta, ha⟩ := ha
  obtain ⟨cb, tb, hb⟩ := hb
  exact run_eql_ptr_other w Tryz.underlying24 hj hs hne ha hb
theorem ptr_same (w : World) (a : Addr) : (binOp .eql 24 (.pointer (some a)) (.pointer (some a))).run Tryz.prog w = .ok (.bool true) w := by
  obtain ⟨j, hj, hs⟩ := infoNode
  exact run_eql_ptr_same w a Tryz.underlying24 hj
set_option maxHeartbeats 6400000 in
set_option maxRecDepth 100000 in
theorem alike_all : ∀ n, n ≤ 65536 → AlikeAt n
  | 0, _ => fun t _ h => absurd h (by unfold szT; omega)
  | n + 1, hbig => by
    have ih := alike_all n (by omega)
    rintro ⟨x, ks⟩ ⟨y, ls⟩ hn w Sq Sq' v v' cb k hS hS' hcS hcS' hin hin' hcm hk ANS hans
    have huq : v = v' → ANS = true := fun e => hans.2 (by subst e; exact hin.uniq hin')
    obtain ⟨q, p, A, c, rfl, hq1, c0, c1, c2, c3, c4, hc, hkid⟩ := hin.open
    obtain ⟨q', p', A', c', rfl, hq1', c0', c1', c2', c3', c4', hc', hkid'⟩ := hin'.open
    by_cases hsame : q = q' ∧ p = p'
    · obtain ⟨rfl, rfl⟩ := hsame
      have HE : Hid (ANS = true) := Lib.hid (huq rfl)
      have heq := ptr_same w ⟨q, p, none⟩
      clear huq hans ih hin hin' hkid hkid'
      go_enter Tryz.func74, Tryz.ntmps74
      go_wp2_with fail
      go_ret
      exact cm_ret (m := 0) HE.out (Nat.zero_le _) hcm (gb_refl _ _)
    · have heq := ptr_other (w := w) (a := ⟨q, p, none⟩) (b := ⟨q', p', none⟩) (fun e => hsame (by injection e with e1 e2; exact ⟨e1, e2⟩)) hin.pln hin'.pln
      have hq := cell_lt c4
      have hqq := cell_lt c4'
      have hcb := heap_lt hcm
      have HA := Lib.hid hans
      have HIH := Lib.hid ih
      have HCM := Lib.hid hcm
      have HK := Lib.hid hkid
      have HK' := Lib.hid hkid'
      have HB := Lib.hid hS
      have HB' := Lib.hid hS'
      have HC := Lib.hid hcS
      have HC' := Lib.hid hcS'
      have hqc : q ≠ cb := fun e => hcS (by rw [← e]; exact hq1)
      have hqc' : q' ≠ cb := fun e => hcS' (by rw [← e]; exact hq1')
      have hsz : szT (x, ks) = 1 + ks.sz := rfl
      obtain ⟨Z, hZ⟩ : ∃ Z, szT (x, ks) = Z := ⟨_, rfl⟩
      rw [hZ] at hn hk hsz ⊢
      obtain ⟨N, hN⟩ : ∃ N, ks.len = N := ⟨_, rfl⟩
      obtain ⟨M, hM⟩ : ∃ M, ls.len = M := ⟨_, rfl⟩
      rw [hN] at c4 hc
      rw [hM] at c4' hc'
      have HNN := Lib.hid hN
      have HMM := Lib.hid hM
      have HSZ := Lib.hid hsz
      have hk1 : k < 65536 := by omega
      clear huq hans ih hin hin' hcm hkid hkid' hS hS' hcS hcS' hsz hZ hN hM hsame
      by_cases d0 : x.k = y.k
      · by_cases d1 : x.n = y.n
        · by_cases d2 : x.a = y.a
          · by_cases d3 : x.m = y.m
            · have HXY := Lib.hid (nod_ext d0 d1 d2 d3)
              obtain ⟨e0, f0⟩ := int_eq d0
              obtain ⟨e1, f1⟩ := int_eq d1
              obtain ⟨e2, f2⟩ := txt_eq d2
              obtain ⟨e3, f3⟩ := txt_eq d3
              have HANS : Hid (ANS = true ↔ ks = ls) := Lib.hid (HA.out.trans ⟨fun e => (Prod.mk.inj e).2, fun e => by rw [e, HXY.out]⟩)
              have cA := fun W (h : Cm W cb k) => again_any cb k #[.pointer (some ⟨q, p, none⟩), .pointer (some ⟨q', p', none⟩)] W h hk1
              have cE := fun W (hg : w.grownBy W (some cb)) (h : Cm W cb (k + 1)) => equal_any n HIH.out ks ls (by have := HSZ.out; omega) W Sq Sq' A A' c c' cb (k + 1) (fun q h => by have := HB.out q h; have := hg.size; omega) (fun q h => by have := HB'.out q h; have := hg.size; omega) HC.out HC'.out (HK.out.gb HB.out HC.out hg) (HK'.out.gb HB'.out HC'.out hg) h (by have := HSZ.out; omega) ANS HANS.out
              rw [HNN.out, HMM.out] at cE
              have HCA := Lib.hid cA
              have HCE := Lib.hid cE
              clear d0 d1 d2 d3 cA cE
              go_enter Tryz.func74, Tryz.ntmps74
              go_wp2_with fail
              go_quiet (fail)
              go_wp2_with fail
              go_region_held3 (fun w' => w'.cell? ⟨q, p + 4, none⟩ = some (.slice A N c) ∧ w'.cell? ⟨q', p' + 4, none⟩ = some (.slice A' M c')) (go_keep)
                (first
                  | (go_at_call 126; refine (HCA.out _ (by exact HCM.out)).mono ?_; rintro e w2 ⟨rfl, hc2, hg2⟩; have hgw : w.grownBy w2 (some cb) := ⟨hg2.os, hg2.tape, hg2.output, hg2.size, hg2.block⟩; have k4 := gb_cell hgw c4 hqc; have k4' := gb_cell hgw c4' hqc'; have HC2 := Lib.hid hc2; have HG2 := Lib.hid hgw; clear hc2 hg2 hgw)
                  | (go_at_call 127; refine (HCE.out _ (by exact ⟨HG2.out.os, HG2.out.tape, HG2.out.output, HG2.out.size, HG2.out.block⟩) (by exact HC2.out)).mono ?_; rintro e w3 ⟨rfl, hc3, hg3⟩; have hgw : w.grownBy w3 (some cb) := gb_trans HG2.out ⟨hg3.os, hg3.tape, hg3.output, hg3.size, hg3.block⟩; have m4 := gb_cell hgw c4 hqc; have m4' := gb_cell hgw c4' hqc'; have HC3 := Lib.hid hc3; have HG3 := Lib.hid hgw; clear hc3 hg3 hgw))
              go_wp2_with fail
              go_ret
              obtain ⟨m3, hm3, hc3⟩ := HC3.out
              exact cm_ret (m := 1 + m3) rfl (by have := HSZ.out; omega) (by rw [← Nat.add_assoc]; exact hc3) HG3.out
            · obtain ⟨e0, f0⟩ := int_eq d0
              obtain ⟨e1, f1⟩ := int_eq d1
              obtain ⟨e2, f2⟩ := txt_eq d2
              obtain ⟨e3, f3⟩ := txt_ne d3
              have HE : Hid (ANS = false) := Lib.hid (bool_no HA.out fun e => d3 (by rw [(Prod.mk.inj e).1]))
              clear d0 d1 d2 d3
              go_enter Tryz.func74, Tryz.ntmps74
              go_wp2_with fail
              go_quiet (fail)
              go_wp2_with fail
              go_ret
              exact cm_ret (m := 0) HE.out (Nat.zero_le _) (HCM.out.drew _) (gb_drew (gb_refl _ _) _)
          · obtain ⟨e0, f0⟩ := int_eq d0
            obtain ⟨e1, f1⟩ := int_eq d1
            obtain ⟨e2, f2⟩ := txt_ne d2
            have HE : Hid (ANS = false) := Lib.hid (bool_no HA.out fun e => d2 (by rw [(Prod.mk.inj e).1]))
            clear d0 d1 d2
            go_enter Tryz.func74, Tryz.ntmps74
            go_wp2_with fail
            go_quiet (fail)
            go_wp2_with fail
            go_ret
            exact cm_ret (m := 0) HE.out (Nat.zero_le _) (HCM.out.drew _) (gb_drew (gb_refl _ _) _)
        · obtain ⟨e0, f0⟩ := int_eq d0
          obtain ⟨e1, f1⟩ := int_ne d1
          have HE : Hid (ANS = false) := Lib.hid (bool_no HA.out fun e => d1 (by rw [(Prod.mk.inj e).1]))
          clear d0 d1
          go_enter Tryz.func74, Tryz.ntmps74
          go_wp2_with fail
          go_quiet (fail)
          go_wp2_with fail
          go_ret
          exact cm_ret (m := 0) HE.out (Nat.zero_le _) (HCM.out.drew _) (gb_drew (gb_refl _ _) _)
      · obtain ⟨e0, f0⟩ := int_ne d0
        have HE : Hid (ANS = false) := Lib.hid (bool_no HA.out fun e => d0 (by rw [(Prod.mk.inj e).1]))
        clear d0
        go_enter Tryz.func74, Tryz.ntmps74
        go_wp2_with fail
        go_quiet (fail)
        go_wp2_with fail
        go_ret
        exact cm_ret (m := 0) HE.out (Nat.zero_le _) (HCM.out.drew _) (gb_drew (gb_refl _ _) _)

/-! ### Same -/
theorem ptr_nil_left (w : World) (a : Addr) : (binOp .eql 24 (.pointer none) (.pointer (some a))).run Tryz.prog w = .ok (.bool false) w := by
  have h : ∀ d : Nat, (Op.equalIn (d + 1) 24 (.pointer none) (.pointer (some a))).run Tryz.prog w = .ok false w := fun d => by simp [Op.equalIn, run_underlying Tryz.underlying24]
  simp only [binOp]
  simp [Op.equal, Op.maxDepth, h 9999]
theorem ptr_nil_right (w : World) (a : Addr) : (binOp .eql 24 (.pointer (some a)) (.pointer none)).run Tryz.prog w = .ok (.bool false) w := by
  have h : ∀ d : Nat, (Op.equalIn (d + 1) 24 (.pointer (some a)) (.pointer none)).run Tryz.prog w = .ok false w := fun d => by simp [Op.equalIn, run_underlying Tryz.underlying24]
  simp only [binOp]
  simp [Op.equal, Op.maxDepth, h 9999]
def SbPost (b : Bool) (w : World) (e : Ending) (w' : World) : Prop := e = .returned (.bool b) ∧ Below w.heap.size w w'
set_option maxHeartbeats 1600000 in
set_option maxRecDepth 100000 in
theorem alikeO (t u : Option Tr) (hno : t = none ∨ u = none) (cb : Nat) (w : World) (Sq Sq' : Nat → Prop) (v v' : Value) (hin : InO w Sq v t) (hin' : InO w Sq' v' u) (b : Bool) (hb : b = true ↔ t = u) :
    Calls Tryz.prog 74 #[.pointer (some ⟨cb, 0, none⟩), v, v'] w fun e w' => e = .returned (.bool b) ∧ ∃ n, w' = w.drewN n := by
  cases t with
  | none =>
    have hv : v = .pointer none := hin
    subst hv
    cases u with
    | none =>
      have hv : v' = .pointer none := hin'
      subst hv
      have HE : Hid (b = true) := Lib.hid (hb.2 rfl)
      clear hb hin hin' hno
      go_enter Tryz.func74, Tryz.ntmps74
      go_wp2_with fail
      go_ret
      exact sm_ret HE.out ⟨0, rfl⟩
    | some u =>
      obtain ⟨q, p, rfl⟩ := InT.ptr hin'
      have HE : Hid (b = false) := Lib.hid (bool_no hb (by simp))
      have heq := ptr_nil_left w ⟨q, p, none⟩
      clear hb hin hin' hno
      go_enter Tryz.func74, Tryz.ntmps74
      go_wp2_with fail
      go_quiet (fail)
      go_wp2_with fail
      go_ret
      exact sm_ret HE.out ⟨_, rfl⟩
  | some t =>
    obtain rfl : u = none := hno.resolve_left (by simp)
    have hv : v' = .pointer none := hin'
    subst hv
    obtain ⟨q, p, rfl⟩ := InT.ptr hin
    have HE : Hid (b = false) := Lib.hid (bool_no hb (by simp))
    have heq := ptr_nil_right w ⟨q, p, none⟩
    clear hb hin hin' hno
    go_enter Tryz.func74, Tryz.ntmps74
    go_wp2_with fail
    go_quiet (fail)
    go_wp2_with fail
    go_ret
    exact sm_ret HE.out ⟨_, rfl⟩
set_option maxHeartbeats 1600000 in
set_option maxRecDepth 100000 in
theorem arSame (t u : Option Tr) (w : World) (Sq Sq' : Nat → Prop) (v v' : Value) (hS : Bel Sq w.heap.size) (hS' : Bel Sq' w.heap.size) (hin : InO w Sq v t) (hin' : InO w Sq' v' u) (hsz : szO t ≤ 65536) (b : Bool) (hb : b = true ↔ t = u) :
    Calls Tryz.prog 36 #[v, v'] w (SbPost b w) := by
  obtain ⟨H, hH⟩ : ∃ H, w.heap.size = H := ⟨_, rfl⟩
  have hbel := (Below.refl w.heap.size w).alloc (Nat.le_refl _) (.cells #[.int .i64 0, .map none] 106)
  have key : Calls Tryz.prog 74 #[.pointer (some ⟨H, 0, none⟩), v, v'] (w.alloc (.cells #[.int .i64 0, .map none] 106)) fun e w' => e = .returned (.bool b) ∧ Below w.heap.size w w' := by
    by_cases hno : t = none ∨ u = none
    · refine (alikeO t u hno H _ Sq Sq' v v' (hin.below hS hbel) (hin'.below hS' hbel) b hb).mono ?_
      rintro e w' ⟨rfl, n, rfl⟩
      exact ⟨rfl, below_drewN' hbel n⟩
    · cases t with
      | none => exact absurd (.inl rfl) hno
      | some t =>
        cases u with
        | none => exact absurd (.inr rfl) hno
        | some u =>
          have hs1 : (w.alloc (.cells #[.int .i64 0, .map none] 106)).heap.size = H + 1 := by simp; omega
          have hszt : szO (some t) = szT t := rfl
          refine (alike_all 65536 (Nat.le_refl _) t u (by omega) _ Sq Sq' v v' H 0 (fun q h => by have := hS q h; omega) (fun q h => by have := hS' q h; omega) (fun h => by have := hS _ h; omega) (fun h => by have := hS' _ h; omega) (InT.below hin hS hbel) (InT.below hin' hS' hbel) (by rw [← hH]; exact heap_alloc_new w _) (by omega) b (by rw [hb]; simp)).mono ?_
          rintro e w' ⟨rfl, -, hg⟩
          exact ⟨rfl, gb_base hbel hg (by omega) fun g h => by injection h with h; omega⟩
  rw [← hH] at key
  clear hin hin' hS hS' hbel hb hsz hH
  go_enter Tryz.func36, Tryz.ntmps36
  go_wp2_with fail
  refine key.mono ?_
  rintro e w1 ⟨rfl, hb1⟩
  go_wp2_with fail
  go_ret
  exact ⟨rfl, hb1⟩
end Go.Proofs.YthonaeigacfmbaaGreatDoor
namespace Go.Proofs.YthonaeigacfmbaaGreatDoor
open Go.RowKit

/-! ### SameCells -/
theorem CelAt.open {w : World} {B b o : Nat} {c : Cel} (h : CelAt w B b o c) : ∃ KA kc, w.cell? ⟨b, o, none⟩ = some (.int .i64 c.x.k) ∧ w.cell? ⟨b, o + 1, none⟩ = some (.int .i64 c.x.n) ∧ w.cell? ⟨b, o + 2, none⟩ = some (.string c.x.a) ∧ w.cell? ⟨b, o + 3, none⟩ = some (.string c.x.m) ∧ w.cell? ⟨b, o + 4, none⟩ = some (.slice KA c.ks.length kc) ∧ Sp w B (.slice KA c.ks.length kc) c.ks := by
  obtain ⟨h0, h1, h2, h3, kv, h4, KA, kc, rfl, h5⟩ := h
  exact ⟨KA, kc, h0, h1, h2, h3, h4, KA, kc, rfl, h5⟩
end Go.Proofs.YthonaeigacfmbaaGreatDoor
namespace Go.Proofs.YthonaeigacfmbaaGreatDoor
open Go.RowKit

theorem with_snoc : ∀ (p : List Int) (t T u s : Tr) (i : Int), atT t p = some T → getZ T.2 i = some u → withT t (p ++ [i]) s = withT t p (T.1, T.2.set i.toNat s)
  | [], t, T, u, s, i, h, hg => by
    injection h with h
    subst h
    rw [List.nil_append, withT_some [] s hg]
    rfl
  | j :: p, t, T, u, s, i, h, hg => by
    unfold atT at h
    cases hj : getZ t.2 j with
    | none => rw [hj] at h; cases h
    | some v =>
      rw [hj] at h
      rw [List.cons_append, withT_some (p ++ [i]) s hj, withT_some p _ hj, with_snoc p v T u s i h hg]
theorem PtF.set {w : World} {S : Nat → Prop} {v : Value} {t : Tr} (hv : InT w S v t) : ∀ {vs : List Value} {f : Fr} {m : Nat}, PtF w S vs f → PtF w S (vs.set m v) (f.set m t)
  | [], .nil, _, _ => trivial
  | [], .cons _ _ _, _, h => h.elim
  | _ :: _, .nil, _, h => h.elim
  | _ :: _, .cons _ _ _, 0, h => ⟨hv, h.2⟩
  | _ :: _, .cons _ _ _, _ + 1, h => ⟨h.1, PtF.set hv h.2⟩
theorem PtF.at {w : World} {S : Nat → Prop} : ∀ {vs : List Value} {f : Fr} {m : Nat} {t : Tr}, PtF w S vs f → f.get m = some t → ∃ v, vs[m]? = some v ∧ InT w S v t
  | [], .nil, _, _, _, h => by cases h
  | [], .cons _ _ _, _, _, h, _ => h.elim
  | _ :: _, .nil, _, _, h, _ => h.elim
  | v :: _, .cons _ _ _, 0, _, h, hg => by injection hg with hg; subst hg; exact ⟨v, rfl, h.1⟩
  | _ :: vs, .cons _ _ rs, m + 1, _, h, hg => PtF.at (vs := vs) (f := rs) (m := m) h.2 hg
def Ctx (W : World) (Sq : Nat → Prop) (t : Tr) (p : List Int) (H hb ho : Nat) (wr : World) : Prop :=
  ∀ (w2 : World) (uv : Value) (s : Tr), wr.heap.size ≤ w2.heap.size → (∀ b, b < wr.heap.size → b ≠ hb → w2.heap[b]? = wr.heap[b]?) → (∀ o, o ≠ ho → w2.cell? ⟨hb, o, none⟩ = wr.cell? ⟨hb, o, none⟩) → w2.cell? ⟨hb, ho, none⟩ = some uv →
    InT w2 (Sin Sq W w2) uv s → ∃ v, w2.cell? ⟨H, 0, none⟩ = some v ∧ InT w2 (Sin Sq W w2) v (withT t p s)
theorem Ctx.step {W wr w5 : World} {Sq : Nat → Prop} {t u : Tr} {x : Nod} {ks : Fr} {p : List Int} {H hb ho C g m N cap : Nat} {us : List Value} (h : Ctx W Sq t p H hb ho wr) (hS : Bel Sq H) (hHW : W.heap.size = H) (hH : H ≤ hb) (hhb : hb < wr.heap.size)
    (hat : atT t p = some (x, ks)) (hg : getZ ks (m : Int) = some u) (hC : wr.heap.size ≤ C) (hgC : wr.heap.size ≤ g) (hCg : C ≠ g) (hN : ks.len = N) (hNc : N ≤ cap) (hC5 : C < w5.heap.size) (hg5 : g < w5.heap.size) (hsz : wr.heap.size ≤ w5.heap.size)
    (hk : ∀ b, b < wr.heap.size → b ≠ hb → w5.heap[b]? = wr.heap[b]?) (hk2 : ∀ o, o ≠ ho → w5.cell? ⟨hb, o, none⟩ = wr.cell? ⟨hb, o, none⟩) (hk3 : w5.cell? ⟨hb, ho, none⟩ = some (.pointer (some ⟨C, 0, none⟩)))
    (hn : Nb w5 C x (.slice (some ⟨g, 0, none⟩) N cap)) (hus : PtF W Sq us ks) (hrow : ∀ (j : Nat) v, us[j]? = some v → w5.cell? ⟨g, j, none⟩ = some v) (hb5 : Below H W wr) : Ctx W Sq t (p ++ [(m : Int)]) H g m w5 := by
  intro w2 uv s h1 h2 h3 h4 h5
  have e := with_snoc p t (x, ks) u s (m : Int) hat hg
  rw [Int.toNat_natCast] at e
  rw [e]
  have hm : m < N := by rw [← hN]; exact Fr.get_lt (getZ_some hg).2
  have hold : ∀ b, Sq b → w2.heap[b]? = W.heap[b]? := fun b hb' => by
    have hb1 := hS b hb'
    have hbs := hb5.size
    rw [h2 b (by omega) (by omega), hk b (by omega) (by omega), hb5.block b hb1]
  have hus2 : PtF w2 (Sin Sq W w2) us ks := hus.keep (fun q h => .inl h) hold
  have hset := PtF.set (m := m) h5 hus2
  have hC2 : w2.heap[C]? = w5.heap[C]? := h2 C hC5 hCg
  have hbW := hb5.size
  refine h w2 (.pointer (some ⟨C, 0, none⟩)) (x, ks.set m s) (by omega) (fun b hb1 hb2 => ?_) (fun o ho1 => ?_) ?_ ?_
  · rw [h2 b (by omega) (by omega), hk b hb1 hb2]
  · rw [World.cell?_of_block (w := w5) (h2 hb (by omega) (by omega)), hk2 o ho1]
  · rw [World.cell?_of_block (w := w5) (h2 hb (by omega) (by omega)), hk3]
  · have hn2 : Nb w2 C x (.slice (some ⟨g, 0, none⟩) N cap) := hC2.trans hn
    have c : ∀ i u, (#[Value.int .i64 x.k, .int .i64 x.n, .string x.a, .string x.m, .slice (some ⟨g, 0, none⟩) N cap] : Array Value)[i]? = some u → w2.cell? ⟨C, i, none⟩ = some u := by
      intro i u hu
      rw [cell_of_row w2 C i _ _ _ hn2]
      exact hu
    have hl : (ks.set m s).len = N := by rw [Fr.len_set]; exact hN
    refine ⟨C, 0, some ⟨g, 0, none⟩, cap, rfl, .inr ⟨by omega, by omega⟩, ⟨_, _, hn2⟩, c 0 _ rfl, c 1 _ rfl, c 2 _ rfl, c 3 _ rfl, by simp only [hl]; exact c 4 _ rfl, by simp only [hl]; exact hNc, fun _ => ⟨g, 0, rfl, .inr ⟨by omega, by omega⟩, hset.row fun j v hv => ?_⟩⟩
    rw [Nat.zero_add]
    by_cases ej : j = m
    · subst ej
      rw [List.getElem?_set_self (by rw [hus.len]; omega)] at hv
      injection hv with hv
      rw [h4, hv]
    · rw [List.getElem?_set_ne (Ne.symm ej)] at hv
      rw [h3 j ej]
      exact hrow j v hv
end Go.Proofs.YthonaeigacfmbaaGreatDoor
namespace Go.Proofs.YthonaeigacfmbaaGreatDoor
open Go.RowKit

theorem Sp.up {W w : World} {v : Value} {l : List Int} (h : Sp W W.heap.size v l) (u : Up W w) : Sp w w.heap.size v l := Sp.keep h u.size fun _ hp => Below.cell u hp
theorem Spp.up {W w : World} {v : Value} {l : List (List Int)} (h : Spp W W.heap.size v l) (u : Up W w) : Spp w w.heap.size v l := Spp.keep h u.size fun _ hp => Below.cell u hp
/-! ### the program's calls -/
theorem uSame (o o' : Option Tr) {W w : World} {v v' : Value} (h : HasT W v o) (h' : HasT W v' o') (hz : szO o ≤ 65536) (b : Bool) (hb : b = true ↔ o = o') (u : Up W w) :
    Calls Tryz.prog 36 #[v, v'] w (BoP b W) :=
  (arSame o o' w _ _ v v' HasT.bel HasT.bel (h.up u) (h'.up u) hz b hb).mono fun _ _ k => ⟨k.1, u.of k.2⟩
theorem rSame (o o' : Option Tr) {W w : World} {v v' : Value} (h : HasT W v o) (h' : HasT W v' o') (hz : szO o ≤ 65536) (b : Bool) (hb : b = true ↔ o = o') (u : Up W w) :
    Calls Tryz.prog 24 #[v, v'] w (BoP b W) :=
  (refSameO o o' w _ _ v v' (h.up u) (h'.up u) (by omega) b hb).mono fun _ _ k => by obtain ⟨k1, q, rfl⟩ := k; exact ⟨k1, u.drewN q⟩
theorem uDeep (o : Option Tr) {W w : World} {v : Value} (h : HasT W v o) (hz : szO o ≤ 65536) (u : Up W w) : Calls Tryz.prog 129 #[v] w (NuP (dpO o) W) :=
  (arDeep o w _ v HasT.bel (h.up u) hz).mono fun _ _ k => ⟨k.1, u.of k.2⟩
theorem uPack (t : Tr) {W w : World} {v : Value} (h : HasT W v (some t)) (hz : szT t ≤ 8192) (u : Up W w) :
    Calls Tryz.prog 128 #[v] w fun e w' => ∃ v', e = .returned (.tuple #[.agg #[v'], .int .i64 0]) ∧ Cls w' w'.heap.size v' (celT t 0) ∧ Up W w' :=
  (arPack t hz w _ v HasT.bel (h.up u)).mono fun _ _ k => by obtain ⟨p, k1, k2, k3⟩ := k; exact ⟨p, k1, k2, u.of k3⟩
end Go.Proofs.YthonaeigacfmbaaGreatDoor
namespace Go.Proofs.YthonaeigacfmbaaGreatDoor
open Go.RowKit

def MrPost (gp : Bool) (w : World) (e : Ending) (w' : World) : Prop := ∃ s d : Nat, e = .returned (.agg #[.int .i64 (s : Int), .int .i64 (d : Int), .bool gp]) ∧ s ≤ 100000 ∧ (gp = false → 8192 < s) ∧ Below w.heap.size w w'
def PnPost (z : Int) (w : World) (e : Ending) (w' : World) : Prop := e = .returned (.tuple #[.agg #[.slice none 0 0], .int .i64 z]) ∧ Up w w'
set_option maxHeartbeats 3200000 in
set_option maxRecDepth 100000 in
theorem pack_no (gp : Bool) (v : Value) (w : World) (cM : Calls Tryz.prog 191 #[v] (w.alloc (.cells #[.slice none 0 0] 46)) (MrPost gp (w.alloc (.cells #[.slice none 0 0] 46)))) :
    Calls Tryz.prog 128 #[v] w (PnPost (if gp then 1 else 3) w) := by
  have hb := (Below.refl w.heap.size w).alloc (Nat.le_refl _) (.cells #[.slice none 0 0] 46)
  have hs : (w.alloc (.cells #[.slice none 0 0] 46)).heap.size = w.heap.size + 1 := by simp
  have hbx : (w.alloc (.cells #[.slice none 0 0] 46)).heap[w.heap.size]? = some (.cells #[.slice none 0 0] 46 (0, 0)) := heap_alloc_new w _
  obtain ⟨H, hH⟩ : ∃ H, w.heap.size = H := ⟨_, rfl⟩
  rw [hH] at hb hs hbx
  have HS := Lib.hid hs
  have HB := Lib.hid hb
  have HBX := Lib.hid hbx
  have HH := Lib.hid hH
  clear hs hb hbx hH
  cases gp
  · go_enter Tryz.func128, Tryz.ntmps128
    go_wp2_with fail
    refine cM.mono ?_
    rintro e w1 ⟨S, D, rfl, hS, hg, hb1⟩
    rw [HS.out] at hb1
    have hbx1 := (hb1.block H (by omega)).trans HBX.out
    have cz := cell_of_row w1 H 0 _ _ _ hbx1
    have fz := frozen_of_row w1 H 0 _ _ hbx1
    have HB1 := Lib.hid hb1
    have HX1 := Lib.hid hbx1
    have hH1 := heap_lt hbx1
    have hzz : (8192 : Int) < (S : Int) := by have := hg rfl; omega
    clear hbx1 hb1 cM hg
    rw [HH.out]
    go_wp2_with fail
    have r0 : ((w1.setCell ⟨H, 0, none⟩ (.slice none 0 0)).alloc (.cells #[.int .i64 (S : Int), .int .i64 (D : Int), .bool false] 194)).cell? ⟨H, 0, none⟩ = some (.slice none 0 0) := cell_of_row _ H 0 _ _ _ (block_alloc _ (block_set _ HX1.out))
    have hbF : Below H w ((w1.setCell ⟨H, 0, none⟩ (.slice none 0 0)).alloc (.cells #[.int .i64 (S : Int), .int .i64 (D : Int), .bool false] 194)) :=
      Below.alloc (Below.setCell (HB.out.trans (HB1.out.mono (by omega))) (Nat.le_refl _) _) (by simp [World.setCell]; omega) _
    exact bodyPost_ret (v := .tuple #[.agg #[.slice none 0 0], .int .i64 3]) (by simp [results, Tryz.results128, go_sem, r0]) rfl ⟨rfl, by show Below w.heap.size _ _; rw [HH.out]; exact hbF⟩
  · go_enter Tryz.func128, Tryz.ntmps128
    go_wp2_with fail
    refine cM.mono ?_
    rintro e w1 ⟨S, D, rfl, hS, hg, hb1⟩
    rw [HS.out] at hb1
    have hbx1 := (hb1.block H (by omega)).trans HBX.out
    have cz := cell_of_row w1 H 0 _ _ _ hbx1
    have fz := frozen_of_row w1 H 0 _ _ hbx1
    have HB1 := Lib.hid hb1
    have HX1 := Lib.hid hbx1
    have hH1 := heap_lt hbx1
    clear hbx1 hb1 cM hg
    rw [HH.out]
    go_wp2_with fail
    have r0 : ((w1.setCell ⟨H, 0, none⟩ (.slice none 0 0)).alloc (.cells #[.int .i64 (S : Int), .int .i64 (D : Int), .bool true] 194)).cell? ⟨H, 0, none⟩ = some (.slice none 0 0) := cell_of_row _ H 0 _ _ _ (block_alloc _ (block_set _ HX1.out))
    have hbF : Below H w ((w1.setCell ⟨H, 0, none⟩ (.slice none 0 0)).alloc (.cells #[.int .i64 (S : Int), .int .i64 (D : Int), .bool true] 194)) :=
      Below.alloc (Below.setCell (HB.out.trans (HB1.out.mono (by omega))) (Nat.le_refl _) _) (by simp [World.setCell]; omega) _
    exact bodyPost_ret (v := .tuple #[.agg #[.slice none 0 0], .int .i64 1]) (by simp [results, Tryz.results128, go_sem, r0]) rfl ⟨rfl, by show Below w.heap.size _ _; rw [HH.out]; exact hbF⟩
theorem pack_nil (w : World) (v : Value) (hv : HasT w v none) : Calls Tryz.prog 128 #[v] w (PnPost 1 w) :=
  pack_no true v w ((measured_any none _ (fun q => q < (w.alloc (.cells #[.slice none 0 0] 46)).heap.size) v (fun _ h => h) (hv.up ((Up.refl w).alloc _)) (by show (0 : Nat) ≤ 65536; omega)).mono fun e w' h => ⟨0, 0, h.1, by omega, (fun h => by cases h), h.2⟩)
theorem pack_big (t : Tr) (w : World) (v : Value) (hv : HasT w v (some t)) (hz : szT t ≤ 60000) (hb : 8192 < szT t) : Calls Tryz.prog 128 #[v] w (PnPost 3 w) :=
  pack_no false v w ((measured_any (some t) _ (fun q => q < (w.alloc (.cells #[.slice none 0 0] 46)).heap.size) v (fun _ h => h) (hv.up ((Up.refl w).alloc _)) (by show szT t ≤ 65536; omega)).mono fun e w' h => ⟨szT t, dpO (some t), h.1, by omega, fun _ => hb, h.2⟩)
set_option maxHeartbeats 1600000 in
set_option maxRecDepth 100000 in
theorem asked_no (k : FuncId) (z : Int) (hz : ¬ z = 0) (v : Value) (w : World) (cP : Calls Tryz.prog 128 #[v] w (PnPost z w)) : Calls Tryz.prog 75 #[v, .func (.func k) #[] #[]] w (InP z w) := by
  go_enter Tryz.func75, Tryz.ntmps75
  go_wp2_with fail
  refine cP.mono ?_
  rintro e w1 ⟨rfl, u1⟩
  go_wp2_with fail
  go_ret
  exact in_ret rfl (u1.alloc _)
set_option maxHeartbeats 3200000 in
set_option maxRecDepth 100000 in
theorem asked_ok (k : FuncId) (ek : Ent k) (t : Tr) (b : Bool) (v : Value) (w : World) (hx : B.Nx w) (hv : HasT w v (some t)) (hz : szT t ≤ 8192) (cT : TelAt k b t) :
    Calls Tryz.prog 75 #[v, .func (.func k) #[] #[]] w (InP (if 60 < dpT t then 7 else if b then 0 else 16) w) := by
  have cP := uPack t hv hz (Up.refl w)
  have cD : ∀ w', Up w w' → Calls Tryz.prog 129 #[v] w' (NuP (dpT t) w) := fun w' u => uDeep (some t) hv (by show szT t ≤ 65536; omega) u
  have cK : ∀ w', Up w w' → Calls Tryz.prog k #[v] w' (TelB b w') := fun w' u => cT w' v (Nx.up hx u) (hv.up u)
  obtain ⟨D, hD⟩ : ∃ D, dpT t = D := ⟨_, rfl⟩
  rw [hD] at cD ⊢
  clear hx hv hz cT hD
  by_cases hd : 60 < D
  · have hd' : (60 : Int) < (D : Int) := by omega
    rw [if_pos hd]
    go_enter Tryz.func75, Tryz.ntmps75
    go_wp2_with fail
    refine cP.mono ?_
    rintro e w1 ⟨v', rfl, hcl, u1⟩
    obtain ⟨A6, C6, rfl, -⟩ := id hcl
    clear hcl cP cK
    go_wp2_with fail
    refine (cD _ (u1.alloc _)).mono ?_
    rintro e w2 ⟨rfl, u2⟩
    go_wp2_with fail
    go_ret
    exact in_ret rfl u2
  · have hd' : ¬ (60 : Int) < (D : Int) := by omega
    rw [if_neg hd]
    cases b
    all_goals
      go_enter Tryz.func75, Tryz.ntmps75
      go_wp2_with fail
      refine cP.mono ?_
      rintro e w1 ⟨v', rfl, hcl, u1⟩
      obtain ⟨A6, C6, rfl, -⟩ := id hcl
      clear hcl cP
      go_wp2_with fail
      refine (cD _ (u1.alloc _)).mono ?_
      rintro e w2 ⟨rfl, u2⟩
      go_wp2_with fail
      rw [ek, Oper.upon_enter]
      refine (cK _ u2).mono ?_
      rintro e w3 ⟨rfl, u3⟩
      go_wp2_with fail
      go_ret
      exact in_ret rfl (u2.trans u3)
theorem in_up {z : Int} {W w : World} {P : Program} {k : FuncId} {args : Array Value} (u : Up W w) (h : Calls P k args w (InP z w)) : Calls P k args w (InP z W) := h.mono fun _ _ h => ⟨h.1, u.trans h.2⟩
theorem asked_any (k : FuncId) (ek : Ent k) (c : Int) (cT : ∀ t, szT t ≤ 60000 → okST t → TelAt k (isT B.nck B.long t c) t) (o : Option Tr) (hz : szO o ≤ 60000) (hs : okSO o) (W w : World) (v : Value) (hx : B.Nx W) (hv : HasT W v o) (hu : Up W w) :
    Calls Tryz.prog 75 #[v, .func (.func k) #[] #[]] w (InP (chk B.nck B.long o c) W) := by
  refine in_up hu ?_
  have hv' := hv.up hu
  have hx' := Nx.up hx hu
  cases o with
  | none => exact asked_no k 1 (by omega) v w (pack_nil w v hv')
  | some t =>
    have hz' : szT t ≤ 60000 := hz
    unfold chk
    simp only
    by_cases hb : 8192 < szT t
    · rw [if_pos hb]
      exact asked_no k 3 (by omega) v w (pack_big t w v hv' hz' hb)
    · rw [if_neg hb]
      exact asked_ok k ek t _ v w hx' hv' (by omega) (cT t hz' (hs t rfl))
theorem callType {z : Int} {W w : World} {v : Value} (h : Calls Tryz.prog 75 #[v, .func (.func 76) #[] #[]] w (InP z W)) : Calls Tryz.prog 37 #[v] w (InP z W) := by
  go_enter Tryz.func37, Tryz.ntmps37
  go_wp2_with fail
  refine h.mono ?_
  rintro e w1 ⟨rfl, u1⟩
  go_wp2_with fail
  go_ret
  exact in_ret rfl u1
theorem shpType : ShpAt 37 1 := fun o hz hs W w v hx hv hu => callType (asked_any 76 (fun _ _ => by kernel_rfl) 1 (fun t h hs => (nd_all _ t (Nat.le_refl _) h hs).1.a1) o hz hs W w v hx hv hu)
end Go.Proofs.YthonaeigacfmbaaGreatDoor
