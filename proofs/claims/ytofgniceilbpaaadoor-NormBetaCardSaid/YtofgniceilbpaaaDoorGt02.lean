/-
  The document's Same and hole: what they tell of trees.
-/
import Derived.Test.YtofgniceilbpaaaDoorGt01
import Derived.Lib.Strings
namespace Go.Proofs.YtofgniceilbpaaaDoor
open Go.RowKit

theorem ba_eq {s t : ByteArray} (h : s.data.toList = t.data.toList) : s = t := by
  apply ByteArray.ext
  exact Array.ext' h
theorem txt_eq {x y : ByteArray} (h : x = y) : (x.toList == y.toList) = true ∧ (x.toList != y.toList) = false := by subst h; simp
theorem txt_ne {x y : ByteArray} (h : x ≠ y) : (x.toList == y.toList) = false ∧ (x.toList != y.toList) = true := by
  have : (x.toList == y.toList) = false := by
    rw [beq_eq_false_iff_ne]
    intro e
    rw [Lib.toList_data, Lib.toList_data] at e
    exact h (ba_eq e)
  exact ⟨this, by unfold bne; rw [this]; rfl⟩
theorem int_eq {x y : Int} (h : x = y) : (x == y) = true ∧ (x != y) = false := by subst h; simp
theorem int_ne {x y : Int} (h : x ≠ y) : (x == y) = false ∧ (x != y) = true := by simp [h]
def SmPost (b : Bool) (w : World) (e : Ending) (w' : World) : Prop := e = .returned (.bool b) ∧ ∃ q, w' = w.drewN q
theorem sm_ret {a b : Bool} {w w' : World} (h : b = a) (hw : ∃ q, w' = w.drewN q) : SmPost b w (.returned (.bool a)) w' := ⟨by rw [h], hw⟩
theorem quiet_off {P : Program} {f : FuncId} {args : Array Value} {w : World} {q x : Nat} {v : Value} (h : Calls P f args (w.drewN (q + x)) fun e w' => e = .returned v ∧ ∃ m, w' = (w.drewN (q + x)).drewN m) :
    Calls P f args (w.drewN (q + x)) fun e w'' => e = .returned v ∧ ∃ n, w'' = w.drewN (q + n) := h.mono fun _ _ ⟨he, m, hm⟩ => ⟨he, x + m, by rw [hm, World.drewN_drewN, Nat.add_assoc]⟩
theorem bool_no {b : Bool} {P : Prop} (h : b = true ↔ P) (hn : ¬ P) : b = false := by cases b; rfl; exact absurd (h.1 rfl) hn
theorem bool_yes {b : Bool} {P : Prop} (h : b = true ↔ P) (hp : P) : b = true := h.2 hp
theorem Fr.app_inj (a : Fr) {b c : Fr} (h : a.app b = a.app c) : b = c := by
  induction a with
  | nil => exact h
  | cons x k r _ ih => simp only [Fr.app, Fr.cons.injEq] at h; exact ih h.2.2
theorem nod_ext {x y : Nod} (h1 : x.k = y.k) (h2 : x.n = y.n) (h3 : x.a = y.a) (h4 : x.m = y.m) : x = y := by
  cases x; cases y; simp only at h1 h2 h3 h4; subst h1 h2 h3 h4; rfl

set_option maxHeartbeats 6400000 in
set_option maxRecDepth 100000 in
theorem refSame : ∀ (n : Nat) (t u : Tr), szT t ≤ n → n ≤ 1000000000 → ∀ (w : World) (Sq Sq' : Nat → Prop) (v v' : Value), InT w Sq v t → InT w Sq' v' u → ∀ b : Bool, (b = true ↔ t = u) →
    Calls Tryd.prog 11 #[v, v'] w (SmPost b w)
  | 0, t, _, h, _, _, _, _, _, _, _, _, _, _ => absurd h (by unfold szT; omega)
  | n + 1, (x, ks), (y, ls), hn, hbig, w, Sq, Sq', v, v', hin, hin', ANS, hans => by
    have ih := refSame n
    obtain ⟨q, p, A, c, rfl, hq1, c0, c1, c2, c3, c4, hc, hkid⟩ := hin.open
    obtain ⟨q', p', A', c', rfl, hq1', c0', c1', c2', c3', c4', hc', hkid'⟩ := hin'.open
    have HA := Lib.hid hans
    have HK := Lib.hid hkid
    have HK' := Lib.hid hkid'
    have hsz : szT (x, ks) = 1 + ks.sz := rfl
    have hll := Fr.len_le ks
    obtain ⟨S, hS⟩ : ∃ S, szT (x, ks) = S := ⟨_, rfl⟩
    rw [hS] at hn hsz
    obtain ⟨N, hN⟩ : ∃ N, ks.len = N := ⟨_, rfl⟩
    obtain ⟨M, hM⟩ : ∃ M, ls.len = M := ⟨_, rfl⟩
    rw [hN] at c4 hll
    rw [hM] at c4'
    have hN1 : N ≤ 1000000000 := by omega
    have HNN := Lib.hid hN
    have HMM := Lib.hid hM
    have HSZ := Lib.hid hsz
    clear hin hin' hkid hkid' hS hc hc' hN hM hsz hans
    by_cases d0 : x.k = y.k
    · by_cases d1 : x.n = y.n
      · by_cases d2 : x.a = y.a
        · by_cases d3 : x.m = y.m
          · have HXY := Lib.hid (nod_ext d0 d1 d2 d3)
            obtain ⟨e0, f0⟩ := int_eq d0
            obtain ⟨e1, f1⟩ := int_eq d1
            obtain ⟨e2, f2⟩ := txt_eq d2
            obtain ⟨e3, f3⟩ := txt_eq d3
            clear d0 d1 d2 d3
            by_cases d4 : N = M
            · subst d4
              go_enter Tryd.func11, Tryd.ntmps11
              go_wp2_with fail
              go_quiet (fail)
              go_wp2_with fail
              go_loopw [5] (fun i wr => ∃ (k : Nat) (done r1 r2 : Fr), i = .int .i64 k ∧ k = done.len ∧ ks = done.app r1 ∧ ls = done.app r2 ∧ Kid w Sq A r1 k ∧ Kid w Sq' A' r2 k ∧ ∃ q, wr = w.drewN q) (fun i _ => N - (intOf i).toNat)
              case atStart => exact ⟨0, .nil, ks, ls, rfl, rfl, rfl, rfl, HK.out, HK'.out, _, rfl⟩
              case round =>
                obtain ⟨k, done, r1, r2, rfl, hk, hks, hls, hkid, hkid', qq, rfl⟩ := hrel
                have hl : N = done.len + r1.len := by rw [← HNN.out, hks, Fr.len_app]
                have hl' : N = done.len + r2.len := by rw [← HMM.out, hls, Fr.len_app]
                have hs : ks.sz = done.sz + r1.sz := by rw [hks, Fr.sz_app]
                have hsz := HSZ.out
                have HKS := Lib.hid hks
                have HLS := Lib.hid hls
                by_cases hlt : 0 < r1.len
                · obtain ⟨y1, l1, s1, rfl⟩ := Fr.cut hlt
                  obtain ⟨y2, l2, s2, rfl⟩ := Fr.cut (f := r2) (by omega)
                  obtain ⟨kb, ko, u1, rfl, hkb, hcell, hu1, hnext⟩ := hkid.next
                  obtain ⟨kb', ko', u2, rfl, hkb', hcell', hu2, hnext'⟩ := hkid'.next
                  have hyl : szT (y1, l1) = 1 + l1.sz := rfl
                  have hsr : (Fr.cons y1 l1 s1).sz = 1 + l1.sz + s1.sz := rfl
                  have hlr : (Fr.cons y1 l1 s1).len = s1.len + 1 := rfl
                  have cI := fun m b hb => ih (y1, l1) (y2, l2) (by omega) (by omega) (w.drewN m) Sq Sq' u1 u2 (hu1.drew m) (hu2.drew m) b hb
                  have HN := Lib.hid hnext
                  have HN' := Lib.hid hnext'
                  have hkN : k < N := by omega
                  have hkz : (k : Int) < (N : Int) := by omega
                  have HK1 := Lib.hid hk
                  clear hkid hkid' hnext hnext' hu1 hu2 hks hls ih hk hl hl' hs hlr hsr hsz hyl
                  by_cases heq : ((y1, l1) : Tr) = (y2, l2)
                  · have cI := fun m => cI m true ⟨fun _ => heq, fun _ => rfl⟩
                    have HEQ := Lib.hid heq
                    clear heq
                    go_wp2_with fail
                    go_quiet ((go_at_call 11; exact quiet_off (cI _)))
                    go_wp2_with fail
                    go_roundw
                    case rel => exact ⟨k + 1, done.app (.cons y1 l1 .nil), s1, s2, by go_num, by rw [Fr.len_app, HK1.out]; rfl, by rw [HKS.out, Fr.app_cons], by
                      rw [HLS.out, Fr.app_cons]
                      have := HEQ.out
                      simp only [Prod.mk.injEq] at this
                      rw [this.1, this.2], HN.out, HN'.out, _, rfl⟩
                    case measure => simp [intOf]; omega
                  · have cI := fun m => cI m false ⟨fun h => (by cases h), fun h => absurd h heq⟩
                    have HE : Hid (ANS = false) := Lib.hid (bool_no HA.out fun e => heq (by
                      have e2 := (Prod.mk.inj e).2
                      rw [HKS.out, HLS.out] at e2
                      have e3 := Fr.app_inj done e2
                      simp only [Fr.cons.injEq] at e3
                      rw [e3.1, e3.2.1]))
                    clear heq
                    go_wp2_with fail
                    go_quiet ((go_at_call 11; exact quiet_off (cI _)))
                    go_wp2_with fail
                    go_ret
                    exact sm_ret HE.out ⟨_, World.drewN_drewN _ _ _⟩
                · have h1 : r1 = .nil := by
                    cases r1 with
                    | nil => rfl
                    | cons y l r => exact absurd (Nat.succ_pos _) hlt
                  subst h1
                  have hl1 : N = done.len := by simpa [Fr.len] using hl
                  have h2 : r2 = .nil := by
                    cases r2 with
                    | nil => rfl
                    | cons y l r => simp only [Fr.len] at hl'; omega
                  subst h2
                  have hkz : ¬ (k : Int) < (N : Int) := by omega
                  have HE : Hid (ANS = true) := Lib.hid (bool_yes HA.out (by rw [HXY.out, HKS.out, HLS.out]))
                  clear hkid hkid' hks hls ih hk hl hl' hl1 hs hsz
                  go_wp2_with fail
                  go_ret
                  exact sm_ret HE.out ⟨_, rfl⟩
            · have e4 : ((N : Int) == (M : Int)) = false := by rw [beq_eq_false_iff_ne]; omega
              have f4 : ((N : Int) != (M : Int)) = true := by rw [bne_iff_ne]; omega
              have HE : Hid (ANS = false) := Lib.hid (bool_no HA.out fun e => d4 (by rw [← HNN.out, ← HMM.out, (Prod.mk.inj e).2]))
              go_enter Tryd.func11, Tryd.ntmps11
              go_wp2_with fail
              go_quiet (fail)
              go_wp2_with fail
              go_ret
              exact sm_ret HE.out ⟨_, rfl⟩
          · obtain ⟨e0, f0⟩ := int_eq d0
            obtain ⟨e1, f1⟩ := int_eq d1
            obtain ⟨e2, f2⟩ := txt_eq d2
            obtain ⟨e3, f3⟩ := txt_ne d3
            have HE : Hid (ANS = false) := Lib.hid (bool_no HA.out fun e => d3 (by rw [(Prod.mk.inj e).1]))
            clear d0 d1 d2 d3
            go_enter Tryd.func11, Tryd.ntmps11
            go_wp2_with fail
            go_quiet (fail)
            go_wp2_with fail
            go_ret
            exact sm_ret HE.out ⟨_, rfl⟩
        · obtain ⟨e0, f0⟩ := int_eq d0
          obtain ⟨e1, f1⟩ := int_eq d1
          obtain ⟨e2, f2⟩ := txt_ne d2
          have HE : Hid (ANS = false) := Lib.hid (bool_no HA.out fun e => d2 (by rw [(Prod.mk.inj e).1]))
          clear d0 d1 d2
          go_enter Tryd.func11, Tryd.ntmps11
          go_wp2_with fail
          go_quiet (fail)
          go_wp2_with fail
          go_ret
          exact sm_ret HE.out ⟨_, rfl⟩
      · obtain ⟨e0, f0⟩ := int_eq d0
        obtain ⟨e1, f1⟩ := int_ne d1
        have HE : Hid (ANS = false) := Lib.hid (bool_no HA.out fun e => d1 (by rw [(Prod.mk.inj e).1]))
        clear d0 d1
        go_enter Tryd.func11, Tryd.ntmps11
        go_wp2_with fail
        go_quiet (fail)
        go_wp2_with fail
        go_ret
        exact sm_ret HE.out ⟨_, rfl⟩
    · obtain ⟨e0, f0⟩ := int_ne d0
      have HE : Hid (ANS = false) := Lib.hid (bool_no HA.out fun e => d0 (by rw [(Prod.mk.inj e).1]))
      clear d0
      go_enter Tryd.func11, Tryd.ntmps11
      go_wp2_with fail
      go_quiet (fail)
      go_wp2_with fail
      go_ret
      exact sm_ret HE.out ⟨_, rfl⟩
end Go.Proofs.YtofgniceilbpaaaDoor
namespace Go.Proofs.YtofgniceilbpaaaDoor
open Go.RowKit

set_option maxHeartbeats 1600000 in
set_option maxRecDepth 100000 in
theorem refSameO (t u : Option Tr) (w : World) (Sq Sq' : Nat → Prop) (v v' : Value) (h : InO w Sq v t) (h' : InO w Sq' v' u) (ht : szO t ≤ 1000000000) (b : Bool) (hb : b = true ↔ t = u) :
    Calls Tryd.prog 11 #[v, v'] w (SmPost b w) := by
  cases t with
  | none =>
    have hv : v = .pointer none := h
    subst hv
    cases u with
    | none =>
      have hv : v' = .pointer none := h'
      subst hv
      have HE : Hid (b = true) := Lib.hid (hb.2 rfl)
      clear hb h h'
      go_enter Tryd.func11, Tryd.ntmps11
      go_wp2_with fail
      go_ret
      exact sm_ret HE.out ⟨0, rfl⟩
    | some u =>
      obtain ⟨q, p, rfl⟩ := InT.ptr h'
      have HE : Hid (b = false) := Lib.hid (bool_no hb (by simp))
      clear hb h h'
      go_enter Tryd.func11, Tryd.ntmps11
      go_wp2_with fail
      go_ret
      exact sm_ret HE.out ⟨0, rfl⟩
  | some t =>
    cases u with
    | none =>
      have hv : v' = .pointer none := h'
      subst hv
      obtain ⟨q, p, rfl⟩ := InT.ptr h
      have HE : Hid (b = false) := Lib.hid (bool_no hb (by simp))
      clear hb h h'
      go_enter Tryd.func11, Tryd.ntmps11
      go_wp2_with fail
      go_ret
      exact sm_ret HE.out ⟨0, rfl⟩
    | some u => exact refSame (szT t) t u (Nat.le_refl _) ht w Sq Sq' v v' h h' b (by rw [hb]; simp)

/-! ### hole -/
/-! ### At -/
def Sp (w : World) (B : Nat) (v : Value) (l : List Int) : Prop :=
  ∃ A c, v = .slice A l.length c ∧ l.length ≤ c ∧ ∀ (j : Nat) (u : Int), l[j]? = some u → ∃ b o, A = some ⟨b, o, none⟩ ∧ b < B ∧ w.cell? ⟨b, o + j, none⟩ = some (.int .i64 u)
theorem Sp.keep {w w' : World} {B B' : Nat} {v : Value} {l : List Int} (h : Sp w B v l) (hB : B ≤ B') (hk : ∀ p : Addr, p.block < B → w'.cell? p = w.cell? p) : Sp w' B' v l := by
  obtain ⟨A, c, hv, hlc, hc⟩ := h
  refine ⟨A, c, hv, hlc, fun j u hu => ?_⟩
  obtain ⟨b, o, hA, hlt, hcell⟩ := hc j u hu
  exact ⟨b, o, hA, by omega, (hk _ hlt).trans hcell⟩
theorem InF.at {w : World} {Sq : Nat → Prop} : ∀ {f : Fr} {b o i : Nat} {t : Tr}, InF w Sq f b o → f.get i = some t → ∃ v, w.cell? ⟨b, o + i, none⟩ = some v ∧ InT w Sq v t
  | .nil, _, _, _, _, _, h => by cases h
  | .cons x k r, b, o, 0, t, ⟨⟨v, hv, hn⟩, _⟩, h => by injection h with h; subst h; exact ⟨v, hv, hn⟩
  | .cons x k r, b, o, i + 1, t, ⟨_, hr⟩, h => by
    obtain ⟨v, hv, hn⟩ := InF.at (f := r) hr h
    refine ⟨v, ?_, hn⟩
    rw [show o + (i + 1) = o + 1 + i by omega]
    exact hv
theorem Kid.at {w : World} {Sq : Nat → Prop} {A : Option Addr} {f : Fr} {i : Nat} {t : Tr} (h : Kid w Sq A f 0) (hi : f.get i = some t) : ∃ kb ko v, A = some ⟨kb, ko, none⟩ ∧ Sq kb ∧ w.cell? ⟨kb, ko + i, none⟩ = some v ∧ InT w Sq v t := by
  have hlt := Fr.get_lt hi
  obtain ⟨kb, ko, hA, h2, h3⟩ := h (by omega)
  obtain ⟨v, hv, hn⟩ := h3.at hi
  exact ⟨kb, ko, v, hA, h2, hv, hn⟩
def atO : Option Tr → List Int → Option Tr
  | none, _ => none
  | some t, p => atT t p
def atE : Option Tr → List Int → Int
  | none, _ => 1
  | some t, p => match atT t p with
    | none => 21
    | some _ => 0
def AtPost (Sq : Nat → Prop) (o : Option Tr) (z : Int) (w : World) (e : Ending) (w' : World) : Prop := ∃ v, e = .returned (.tuple #[v, .int .i64 z]) ∧ InO w' Sq v o ∧ ∃ q, w' = w.drewN q
theorem at_ret {Sq : Nat → Prop} {o : Option Tr} {z y : Int} {w w' : World} {v : Value} (hz : z = y) (h : InO w' Sq v o) (hw : ∃ q, w' = w.drewN q) : AtPost Sq o z w (.returned (.tuple #[v, .int .i64 y])) w' := ⟨v, by rw [hz], h, hw⟩
theorem getZ_neg {f : Fr} {x : Int} (h : x < 0) : getZ f x = none := by unfold getZ; rw [if_pos h]
theorem getZ_nat (f : Fr) (m : Nat) : getZ f (m : Int) = f.get m := by unfold getZ; rw [if_neg (by omega), Int.toNat_natCast]
theorem drop_at {l : List Int} {k : Nat} {x : Int} (h : l[k]? = some x) : l.drop k = x :: l.drop (k + 1) := by
  obtain ⟨h1, h2⟩ := List.getElem?_eq_some_iff.1 h
  rw [List.drop_eq_getElem_cons h1, h2]
theorem atT_none {t : Tr} {i : Int} (p : List Int) (h : getZ t.2 i = none) : atT t (i :: p) = none := by
  show (match getZ t.2 i with | none => none | some u => atT u p) = _
  rw [h]
theorem at_no {t : Tr} {l : List Int} (h : atT t l = none) : atO (some t) l = none ∧ atE (some t) l = 21 := by
  refine ⟨h, ?_⟩
  show (match atT t l with | none => (21 : Int) | some _ => 0) = _
  rw [h]
theorem at_yes {t u : Tr} {l : List Int} (h : atT t l = some u) : atO (some t) l = some u ∧ atE (some t) l = 0 := by
  refine ⟨h, ?_⟩
  show (match atT t l with | none => (21 : Int) | some _ => 0) = _
  rw [h]
def AtRel (t : Tr) (l : List Int) (w : World) (Sq : Nat → Prop) (v i : Value) (wr : World) : Prop :=
  ∃ (k : Nat) (T : Tr), i = .int .i64 k ∧ k ≤ l.length ∧ InT w Sq v T ∧ atT t l = atT T (l.drop k) ∧ ∃ q, wr = w.drewN q
set_option maxHeartbeats 3200000 in
set_option maxRecDepth 100000 in
theorem refAt (t : Option Tr) (l : List Int) (w : World) (Sq : Nat → Prop) (C : Nat) (v pv : Value) (h : InO w Sq v t) (hp : Sp w C pv l) (hl : l.length ≤ 1000000000) (hsz : szO t ≤ 1000000000) :
    Calls Tryd.prog 24 #[v, pv] w (AtPost Sq (atO t l) (atE t l) w) := by
  obtain ⟨PA, pc, rfl, hplc, hpcl⟩ := hp
  have HP := Lib.hid hpcl
  clear hpcl
  cases t with
  | none =>
    have hv : v = .pointer none := h
    subst hv
    go_enter Tryd.func24, Tryd.ntmps24
    go_wp2_with fail
    go_ret2
    exact at_ret rfl rfl ⟨0, rfl⟩
  | some t =>
    have hin : InT w Sq v t := h
    obtain ⟨q, p, hv⟩ := hin.ptr
    subst hv
    have HIN := Lib.hid hin
    obtain ⟨M, hM⟩ : ∃ M, l.length = M := ⟨_, rfl⟩
    rw [hM] at hplc hl ⊢
    have HM := Lib.hid hM
    clear h hin hM
    go_enter Tryd.func24, Tryd.ntmps24
    go_wp2_with fail
    go_loopw [0, 6] (fun v i wr => AtRel t l w Sq v i wr) (fun _ i _ => M - (intOf i).toNat)
    case atStart => exact ⟨0, t, rfl, Nat.zero_le _, HIN.out, rfl, 0, rfl⟩
    case round =>
      obtain ⟨k, T, rfl, hk, hin, hat, qq, rfl⟩ := hrel
      rw [HM.out] at hk
      have HAT := Lib.hid hat
      clear hat
      by_cases hlt : k < M
      · obtain ⟨x, hx⟩ : ∃ x, l[k]? = some x := ⟨_, List.getElem?_eq_getElem (by rw [HM.out]; exact hlt)⟩
        obtain ⟨pb, po, rfl, _, hpcell⟩ := HP.out k x hx
        have HD := Lib.hid (drop_at hx)
        have hkz : (k : Int) < (M : Int) := by omega
        obtain ⟨y, ks⟩ := T
        obtain ⟨q1, p1, A, c, rfl, hq1, c0, c1, c2, c3, c4, hc, hkid⟩ := hin.open
        obtain ⟨N, hN⟩ : ∃ N, ks.len = N := ⟨_, rfl⟩
        rw [hN] at c4
        have HK := Lib.hid hkid
        have HNN := Lib.hid hN
        clear hx hin hkid hc hN
        by_cases hneg : x < 0
        · have e1 : decide (x < 0) = true := by simpa using hneg
          have HE : Hid (atT t l = none) := Lib.hid (by rw [HAT.out, HD.out]; exact atT_none _ (getZ_neg hneg))
          go_wp2_with fail
          go_quiet (fail)
          go_wp2_with fail
          go_ret2
          exact at_ret (at_no HE.out).2 (by rw [(at_no HE.out).1]; rfl) ⟨_, World.drewN_drewN _ _ _⟩
        · obtain ⟨m, rfl⟩ : ∃ m : Nat, x = (m : Int) := ⟨x.toNat, by omega⟩
          have e1 : decide ((m : Int) < 0) = false := by simp
          by_cases hge : N ≤ m
          · have e2 : decide ((N : Int) ≤ (m : Int)) = true := by simpa using hge
            have hgez : (N : Int) ≤ (m : Int) := by omega
            have HE : Hid (atT t l = none) := Lib.hid (by rw [HAT.out, HD.out]; exact atT_none _ (by rw [getZ_nat]; exact Fr.get_none (by rw [HNN.out]; exact hge)))
            go_wp2_with fail
            go_quiet (fail)
            go_wp2_with fail
            go_ret2
            exact at_ret (at_no HE.out).2 (by rw [(at_no HE.out).1]; rfl) ⟨_, World.drewN_drewN _ _ _⟩
          · have e2 : decide ((N : Int) ≤ (m : Int)) = false := by simp; omega
            have hgez : (m : Int) < (N : Int) := by omega
            obtain ⟨u, hu⟩ := Fr.get_some (f := ks) (i := m) (by rw [HNN.out]; omega)
            obtain ⟨kb, ko, vu, rfl, hkb, hcell, hinu⟩ := HK.out.at hu
            obtain ⟨q2, p2, rfl⟩ := hinu.ptr
            have HIU := Lib.hid hinu
            have HE : Hid (atT t l = atT u (l.drop (k + 1))) := Lib.hid (by rw [HAT.out, HD.out]; exact atT_some _ (by rw [getZ_nat]; exact hu))
            clear hinu hu
            go_wp2_with fail
            go_quiet (fail)
            go_wp2_with fail
            go_quiet (fail)
            go_wp2_with fail
            go_roundw
            case rel => exact ⟨k + 1, u, by go_num, by rw [HM.out]; omega, HIU.out, HE.out, _, rfl⟩
            case measure => simp [intOf]; omega
      · have hkM : k = l.length := by rw [HM.out]; omega
        have HE : Hid (atT t l = some T) := Lib.hid (by rw [HAT.out, hkM, List.drop_length]; rfl)
        have hkz : ¬ (k : Int) < (M : Int) := by omega
        have HIN2 := Lib.hid hin
        clear hkM hin
        go_wp2_with fail
        go_ret2
        exact at_ret (at_yes HE.out).2 (by rw [(at_yes HE.out).1]; exact HIN2.out.drew _) ⟨_, rfl⟩
end Go.Proofs.YtofgniceilbpaaaDoor
namespace Go.Proofs.YtofgniceilbpaaaDoor
open Go.RowKit

theorem own_below {w w' : World} {base : Nat} {e : TypeId} {size : Nat} {v : Value} {n : Nat} {xs : List Value} (h : w.ownsRow base e size v n xs) (hb : Below w.heap.size w w') : w'.ownsRow base e size v n xs := by
  refine ⟨h.1, ?_⟩
  rcases h.2 with h2 | ⟨g, cap, cur, hv, hbg, hh, d⟩
  · exact .inl h2
  · exact .inr ⟨g, cap, cur, hv, hbg, heap_below hh hb, d⟩
def PtF (w : World) (S : Nat → Prop) : List Value → Fr → Prop
  | [], .nil => True
  | v :: vs, .cons x ks rs => InT w S v (x, ks) ∧ PtF w S vs rs
  | _, _ => False
theorem PtF.len {w : World} {S : Nat → Prop} : ∀ {vs : List Value} {f : Fr}, PtF w S vs f → vs.length = f.len
  | [], .nil, _ => rfl
  | [], .cons _ _ _, h => h.elim
  | _ :: _, .nil, h => h.elim
  | v :: vs, .cons x ks rs, h => by simp only [List.length_cons, Fr.len, PtF.len (vs := vs) (f := rs) h.2]
theorem PtF.keep {w w' : World} {S S' : Nat → Prop} (hS : ∀ q, S q → S' q) (hk : ∀ b, S b → w'.heap[b]? = w.heap[b]?) : ∀ {vs : List Value} {f : Fr}, PtF w S vs f → PtF w' S' vs f
  | [], .nil, _ => trivial
  | [], .cons _ _ _, h => h.elim
  | _ :: _, .nil, h => h.elim
  | _ :: vs, .cons _ _ rs, h => ⟨h.1.keep hS hk, PtF.keep hS hk (vs := vs) (f := rs) h.2⟩
theorem PtF.snoc {w : World} {S : Nat → Prop} {v : Value} {t : Tr} (hv : InT w S v t) : ∀ {vs : List Value} {f : Fr}, PtF w S vs f → PtF w S (vs ++ [v]) (f.app (.cons t.1 t.2 .nil))
  | [], .nil, _ => ⟨hv, trivial⟩
  | [], .cons _ _ _, h => h.elim
  | _ :: _, .nil, h => h.elim
  | _ :: vs, .cons _ _ rs, h => ⟨h.1, PtF.snoc hv (vs := vs) (f := rs) h.2⟩
theorem PtF.one {w : World} {S : Nat → Prop} : ∀ {vs : List Value} {f : Fr}, PtF w S vs f → ∀ u ∈ vs, u.oneCell' = true
  | [], .nil, _, u, hu => by cases hu
  | [], .cons _ _ _, h, _, _ => h.elim
  | _ :: _, .nil, h, _, _ => h.elim
  | v :: vs, .cons x ks rs, h, u, hu => by
    rcases List.mem_cons.1 hu with rfl | hu
    · obtain ⟨q, p, rfl⟩ := h.1.ptr
      rfl
    · exact PtF.one (vs := vs) (f := rs) h.2 u hu
theorem PtF.row {w : World} {S : Nat → Prop} {b : Nat} : ∀ {vs : List Value} {f : Fr} {o : Nat}, PtF w S vs f → (∀ (j : Nat) u, vs[j]? = some u → w.cell? ⟨b, o + j, none⟩ = some u) → InF w S f b o
  | [], .nil, _, _, _ => trivial
  | [], .cons _ _ _, _, h, _ => h.elim
  | _ :: _, .nil, _, h, _ => h.elim
  | v :: vs, .cons x ks rs, o, h, hc => by
    refine ⟨⟨v, by have := hc 0 v rfl; rwa [Nat.add_zero] at this, h.1⟩, PtF.row (vs := vs) (f := rs) h.2 fun j u hu => ?_⟩
    rw [show o + 1 + j = o + (j + 1) by omega]
    exact hc (j + 1) u hu
def OwnT (w : World) (base : Nat) (e : TypeId) (v : Value) (S : Nat → Prop) (f : Fr) : Prop := ∃ ps, w.ownsRow base e 1 v f.len ps ∧ PtF w S ps f
theorem OwnT.nil (w : World) (base : Nat) (e : TypeId) (S : Nat → Prop) : OwnT w base e (.slice none 0 0) S .nil := ⟨[], World.ownsRow_nil _ _ _ _, trivial⟩
theorem OwnT.tree {w : World} {base : Nat} {e e' : TypeId} {v : Value} {S : Nat → Prop} {f : Fr} {x : Nod} {b : Nat} (h : OwnT w base e v S f)
    (hb : w.heap[b]? = some (.cells #[.int .i64 x.k, .int .i64 x.n, .string x.a, .string x.m, v] e' (0, 0))) (hS : S b) (hg : ∀ g, v.ownBlock = some g → S g) : InT w S (.pointer (some ⟨b, 0, none⟩)) (x, f) := by
  have c : ∀ i u, (#[Value.int .i64 x.k, .int .i64 x.n, .string x.a, .string x.m, v] : Array Value)[i]? = some u → w.cell? ⟨b, i, none⟩ = some u := by
    intro i u hu
    rw [cell_of_row w b i _ _ _ hb]
    exact hu
  obtain ⟨ps, ho, hp⟩ := h
  have hl := ho.1
  rw [Nat.mul_one] at hl
  rcases ho.2 with ⟨hv, h0⟩ | ⟨g, cap, cur, hv, _, hh, hc, _⟩
  · subst hv
    refine ⟨b, 0, none, 0, rfl, hS, ⟨_, _, hb⟩, c 0 _ rfl, c 1 _ rfl, c 2 _ rfl, c 3 _ rfl, ?_, by simp only; omega, fun hn => ?_⟩
    · simp only
      rw [h0]
      exact c 4 _ rfl
    · simp only at hn; omega
  · subst hv
    refine ⟨b, 0, some ⟨g, 0, none⟩, cap, rfl, hS, ⟨_, _, hb⟩, c 0 _ rfl, c 1 _ rfl, c 2 _ rfl, c 3 _ rfl, c 4 _ rfl, hc, fun _ => ⟨g, 0, rfl, hg g rfl, hp.row fun j u hu => ?_⟩⟩
    have h1 := ho.cells (g := g) rfl j u hu
    have e1 : (⟨g, 0, none⟩ : Addr).add j = ⟨g, 0 + j, none⟩ := by unfold Addr.add; split <;> simp_all
    rwa [e1] at h1
def Nb (w : World) (b : Nat) (x : Nod) (v : Value) : Prop := w.heap[b]? = some (.cells #[.int .i64 x.k, .int .i64 x.n, .string x.a, .string x.m, v] 47 (0, 0))
theorem Nb.cell {w : World} {b : Nat} {x : Nod} {v : Value} (h : Nb w b x v) : w.cell? ⟨b, 4, none⟩ = some v ∧ w.frozen? ⟨b, 4, none⟩ = false := ⟨cell_of_row w b 4 _ _ _ h, frozen_of_row w b 4 _ _ h⟩
theorem Nb.far {w w4 : World} {b : Nat} {x : Nod} {v : Value} {ob : Obj} (h : Nb w b x v) (hg : (w.alloc ob).grownBy w4 v.ownBlock) (hv : v.ownBlock ≠ some b) : Nb w4 b x v := by
  have hb := heap_lt h
  have hasz : (w.alloc ob).heap.size = w.heap.size + 1 := by simp
  exact ((hg.block b (by omega) fun e => hv e.symm).trans (((Below.refl w.heap.size w).alloc (Nat.le_refl _) ob).block b hb)).trans h
theorem Nb.store {w : World} {b : Nat} {x : Nod} {v : Value} (h : Nb w b x v) (u : Value) : Nb (w.setCell ⟨b, 4, none⟩ u) b x u := by
  unfold Nb at h ⊢
  simp [World.setCell, Array.getElem?_modify, h]

/-! ### one more kid -/
def Sk (S : Nat → Prop) (H : Nat) (w : World) (v : Value) (q : Nat) : Prop := S q ∨ (H < q ∧ q < w.heap.size ∧ v.ownBlock ≠ some q)
theorem own_setCell {w : World} {base : Nat} {e : TypeId} {size : Nat} {v : Value} {n : Nat} {xs : List Value} (h : w.ownsRow base e size v n xs) (a : Addr) (u : Value) (ha : ∀ g, v.ownBlock = some g → g ≠ a.block) : (w.setCell a u).ownsRow base e size v n xs := by
  refine ⟨h.1, ?_⟩
  rcases h.2 with h2 | ⟨g, cap, cur, hv, hbg, hh, d⟩
  · exact .inl h2
  · refine .inr ⟨g, cap, cur, hv, hbg, ?_, d⟩
    rw [Below.heap_setCell _ _ _ _ (ha g (by rw [hv]; rfl))]
    exact hh
theorem cell_setCell {w : World} (a p : Addr) (u : Value) (h : p.block ≠ a.block) : (w.setCell a u).cell? p = w.cell? p := World.cell?_of_block (Below.heap_setCell _ _ _ _ h)
theorem kid_more {w wa w4 : World} {H : Nat} {S : Nat → Prop} {e : TypeId} {vk v' u : Value} {new : Fr} {x : Nod} {t : Tr} {ps : List Value} {ob : Obj} (hS : Bel S H)
    (hb : Below H w wa) (hn : Nb wa H x vk) (hp : PtF wa (Sk S H wa vk) ps new) (hv : vk.ownBlock ≠ some H) (hu : InT wa (Sk S H wa vk) u t)
    (ho : w4.ownsRow (H + 1) e 1 v' (new.len + 1) (ps ++ [u])) (hg : (wa.alloc ob).grownBy w4 vk.ownBlock) (hat : v'.ownBlock = vk.ownBlock ∨ v'.ownBlock = some (wa.heap.size + 1)) (hvl : ∀ g, vk.ownBlock = some g → H + 1 ≤ g) :
    OwnT (w4.setCell ⟨H, 4, none⟩ v') (H + 1) e v' (Sk S H (w4.setCell ⟨H, 4, none⟩ v') v') (new.app (.cons t.1 t.2 .nil)) ∧ Nb (w4.setCell ⟨H, 4, none⟩ v') H x v' ∧ Below H w (w4.setCell ⟨H, 4, none⟩ v') ∧ v'.ownBlock ≠ some H ∧ (∀ g, v'.ownBlock = some g → H + 1 ≤ g) := by
  have hasz : (wa.alloc ob).heap.size = wa.heap.size + 1 := by simp
  have hsa : wa.heap.size + 1 ≤ w4.heap.size := by have := hg.size; omega
  have hHa : H < wa.heap.size := heap_lt hn
  have hv'H : ∀ g, v'.ownBlock = some g → H + 1 ≤ g := by
    intro g hgv
    rcases hat with h | h
    · exact hvl g (by rw [← h]; exact hgv)
    · rw [h] at hgv; injection hgv with hgv; omega
  have hv'n : v'.ownBlock ≠ some H := fun h => by have := hv'H H h; omega
  have hal : ∀ k, k < wa.heap.size → (wa.alloc ob).heap[k]? = wa.heap[k]? := fun k hk => ((Below.refl wa.heap.size wa).alloc (Nat.le_refl _) ob).block k hk
  have hblk : ∀ k, k < wa.heap.size → vk.ownBlock ≠ some k → w4.heap[k]? = wa.heap[k]? := fun k hk hne => (hg.block k (by omega) (fun h => hne h.symm)).trans (hal k hk)
  have hsz5 : (w4.setCell ⟨H, 4, none⟩ v').heap.size = w4.heap.size := by simp [World.setCell]
  have hkeep : ∀ b, Sk S H wa vk b → (w4.setCell ⟨H, 4, none⟩ v').heap[b]? = wa.heap[b]? := by
    intro b hpS
    have hne : b ≠ H := by
      rcases hpS with h | h
      · have := hS _ h; omega
      · omega
    rw [Below.heap_setCell _ _ _ _ hne]
    refine hblk _ ?_ ?_
    · rcases hpS with h | h
      · have := hS _ h; omega
      · exact h.2.1
    · rcases hpS with h | h
      · intro he; have := hvl _ he; have := hS _ h; omega
      · exact h.2.2
  have hSk : ∀ q, Sk S H wa vk q → Sk S H (w4.setCell ⟨H, 4, none⟩ v') v' q := by
    rintro q (h | ⟨h1, h2, h3⟩)
    · exact .inl h
    · refine .inr ⟨h1, by rw [hsz5]; omega, ?_⟩
      rcases hat with h | h
      · rw [h]; exact h3
      · rw [h]; intro he; injection he with he; omega
  refine ⟨⟨ps ++ [u], ?_, PtF.snoc (hu.keep hSk hkeep) (hp.keep hSk hkeep)⟩, ?_, ?_, hv'n, hv'H⟩
  · rw [Fr.len_app]
    exact own_setCell ho _ _ fun g hg' => by have := hv'H g hg'; simp only; omega
  · have h4 : Nb w4 H x vk := (hblk H hHa hv).trans hn
    exact h4.store v'
  · exact ((hb.alloc (by omega) ob).grown hg (by omega) (fun k hk => by have := hvl k hk; omega)).setCell (Nat.le_refl _) _
end Go.Proofs.YtofgniceilbpaaaDoor
