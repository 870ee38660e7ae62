/-
  The document's Same where there may be no tree, hole and At: what they tell.
-/
import Derived.Test.YtmjdeadkekhpdaaRtB
namespace Go.Proofs.Ytmjdeadkekhpdaa
open Go.RowKit

set_option maxHeartbeats 1600000 in
set_option maxRecDepth 100000 in
theorem refSameO (t u : Option Tr) (w : World) (Sq Sq' : Nat → Prop) (v v' : Value) (h : InO w Sq v t) (h' : InO w Sq' v' u) (ht : szO t ≤ 1000000000) (b : Bool) (hb : b = true ↔ t = u) :
    Calls Try.prog 12 #[v, v'] w (SmPost b w) := by
  cases t with
  | none =>
    have hv : v = .pointer none := h
    subst hv
    cases u with
    | none =>
      have hv : v' = .pointer none := h'
      subst hv
      have HE : Hid (b = true) := Lib.hid (hb.2 rfl)
      clear hb h h'
      go_enter Try.func12, Try.ntmps12
      go_wp2_with fail
      go_ret
      exact sm_ret HE.out ⟨0, rfl⟩
    | some u =>
      obtain ⟨q, p, rfl⟩ := InT.ptr h'
      have HE : Hid (b = false) := Lib.hid (bool_no hb (by simp))
      clear hb h h'
      go_enter Try.func12, Try.ntmps12
      go_wp2_with fail
      go_ret
      exact sm_ret HE.out ⟨0, rfl⟩
  | some t =>
    cases u with
    | none =>
      have hv : v' = .pointer none := h'
      subst hv
      obtain ⟨q, p, rfl⟩ := InT.ptr h
      have HE : Hid (b = false) := Lib.hid (bool_no hb (by simp))
      clear hb h h'
      go_enter Try.func12, Try.ntmps12
      go_wp2_with fail
      go_ret
      exact sm_ret HE.out ⟨0, rfl⟩
    | some u => exact refSame (szT t) t u (Nat.le_refl _) ht w Sq Sq' v v' h h' b (by rw [hb]; simp)

/-! ### hole -/
theorem hol_ret {b : Bool} {w : World} (h : b = false) : (fun e w' => e = Ending.returned (.bool false) ∧ w = w') (.returned (.bool b)) w := ⟨by rw [h], rfl⟩
set_option maxHeartbeats 1600000 in
set_option maxRecDepth 100000 in
theorem refHole : ∀ (n : Nat) (t : Tr), szT t ≤ n → n ≤ 1000000000 → ∀ (w : World) (Sq : Nat → Prop) (v : Value), InT w Sq v t →
    Calls Try.prog 35 #[v] w fun e w' => e = .returned (.bool false) ∧ w = w'
  | 0, t, h, _, _, _, _, _ => absurd h (by unfold szT; omega)
  | n + 1, (x, ks), hn, hbig, w, Sq, v, hin => by
    have ih := refHole n
    obtain ⟨q, p, A, c, rfl, hq1, c0, c1, c2, c3, c4, hc, hkid⟩ := hin.open
    have HK := Lib.hid hkid
    have hsz : szT (x, ks) = 1 + ks.sz := rfl
    have hll := Fr.len_le ks
    rw [hsz] at hn
    obtain ⟨N, hN⟩ : ∃ N, ks.len = N := ⟨_, rfl⟩
    rw [hN] at c4 hll
    have hN1 : N ≤ 1000000000 := by omega
    have HNN := Lib.hid hN
    have HSZ := Lib.hid hn
    clear hin hkid hc hN hsz hn
    go_enter Try.func35, Try.ntmps35
    go_wp2_with fail
    go_loop [3] (fun i => ∃ (k : Nat) (done rest : Fr), i = .int .i64 k ∧ k = done.len ∧ ks = done.app rest ∧ Kid w Sq A rest k) (fun i => N - (intOf i).toNat)
    case atStart => exact ⟨0, .nil, ks, rfl, rfl, rfl, HK.out⟩
    case round =>
      obtain ⟨k, done, rest, rfl, hk, hks, hkid⟩ := hrel
      have hl : N = done.len + rest.len := by rw [← HNN.out, hks, Fr.len_app]
      have hs : ks.sz = done.sz + rest.sz := by rw [hks, Fr.sz_app]
      have hsz := HSZ.out
      have HKS := Lib.hid hks
      by_cases hlt : 0 < rest.len
      · obtain ⟨y, l, r, rfl⟩ := Fr.cut hlt
        obtain ⟨kb, ko, u, rfl, hkb, hcell, hu, hnext⟩ := hkid.next
        have hyl : szT (y, l) = 1 + l.sz := rfl
        have hsr : (Fr.cons y l r).sz = 1 + l.sz + r.sz := rfl
        have hlr : (Fr.cons y l r).len = r.len + 1 := rfl
        have cI := ih (y, l) (by omega) (by omega) w Sq u hu
        have HN := Lib.hid hnext
        have hkN : k < N := by omega
        have hkz : (k : Int) < (N : Int) := by omega
        have HK1 := Lib.hid hk
        clear hkid hnext hu hks ih hk hl hs hlr hsr hsz hyl
        go_wp2_with (go_at_call 35; refine cI.mono ?_; rintro e w' ⟨rfl, rfl⟩)
        go_round
        case rel => exact ⟨k + 1, done.app (.cons y l .nil), r, by go_num, by rw [Fr.len_app, HK1.out]; rfl, by rw [HKS.out, Fr.app_cons], HN.out⟩
        case measure => simp [intOf]; omega
      · have h0 : rest = .nil := by
          cases rest with
          | nil => rfl
          | cons y l r => exact absurd (Nat.succ_pos _) hlt
        subst h0
        have hl' : N = done.len := by simpa [Fr.len] using hl
        have hkz : ¬ (k : Int) < (N : Int) := by omega
        clear hkid hks ih hk hl hl' hs hsz
        go_wp2_with fail
        go_ret
        exact hol_ret rfl

/-! ### At -/
/-- The value is a slice of these numbers. -/
def Sp (w : World) (B : Nat) (v : Value) (l : List Int) : Prop :=
  ∃ A c, v = .slice A l.length c ∧ l.length ≤ c ∧ ∀ (j : Nat) (u : Int), l[j]? = some u → ∃ b o, A = some ⟨b, o, none⟩ ∧ b < B ∧ w.cell? ⟨b, o + j, none⟩ = some (.int .i64 u)
theorem Sp.keep {w w' : World} {B B' : Nat} {v : Value} {l : List Int} (h : Sp w B v l) (hB : B ≤ B') (hk : ∀ p : Addr, p.block < B → w'.cell? p = w.cell? p) : Sp w' B' v l := by
  obtain ⟨A, c, hv, hlc, hc⟩ := h
  refine ⟨A, c, hv, hlc, fun j u hu => ?_⟩
  obtain ⟨b, o, hA, hlt, hcell⟩ := hc j u hu
  exact ⟨b, o, hA, by omega, (hk _ hlt).trans hcell⟩
theorem InF.at {w : World} {Sq : Nat → Prop} : ∀ {f : Fr} {b o i : Nat} {t : Tr}, InF w Sq f b o → f.get i = some t → ∃ v, w.cell? ⟨b, o + i, none⟩ = some v ∧ InT w Sq v t
  | .nil, _, _, _, _, _, h => by cases h
  | .cons x k r, b, o, 0, t, ⟨⟨v, hv, hn⟩, _⟩, h => by injection h with h; subst h; exact ⟨v, hv, hn⟩
  | .cons x k r, b, o, i + 1, t, ⟨_, hr⟩, h => by
    obtain ⟨v, hv, hn⟩ := InF.at (f := r) hr h
    refine ⟨v, ?_, hn⟩
    rw [show o + (i + 1) = o + 1 + i by omega]
    exact hv
theorem Kid.at {w : World} {Sq : Nat → Prop} {A : Option Addr} {f : Fr} {i : Nat} {t : Tr} (h : Kid w Sq A f 0) (hi : f.get i = some t) : ∃ kb ko v, A = some ⟨kb, ko, none⟩ ∧ Sq kb ∧ w.cell? ⟨kb, ko + i, none⟩ = some v ∧ InT w Sq v t := by
  have hlt := Fr.get_lt hi
  obtain ⟨kb, ko, hA, h2, h3⟩ := h (by omega)
  obtain ⟨v, hv, hn⟩ := h3.at hi
  exact ⟨kb, ko, v, hA, h2, hv, hn⟩
def atO : Option Tr → List Int → Option Tr
  | none, _ => none
  | some t, p => atT t p
def atE : Option Tr → List Int → Int
  | none, _ => 1
  | some t, p => match atT t p with
    | none => 21
    | some _ => 0
def AtPost (Sq : Nat → Prop) (o : Option Tr) (z : Int) (w : World) (e : Ending) (w' : World) : Prop := ∃ v, e = .returned (.tuple #[v, .int .i64 z]) ∧ InO w' Sq v o ∧ ∃ q, w' = w.drewN q
theorem at_ret {Sq : Nat → Prop} {o : Option Tr} {z y : Int} {w w' : World} {v : Value} (hz : z = y) (h : InO w' Sq v o) (hw : ∃ q, w' = w.drewN q) : AtPost Sq o z w (.returned (.tuple #[v, .int .i64 y])) w' := ⟨v, by rw [hz], h, hw⟩
theorem getZ_neg {f : Fr} {x : Int} (h : x < 0) : getZ f x = none := by unfold getZ; rw [if_pos h]
theorem getZ_nat (f : Fr) (m : Nat) : getZ f (m : Int) = f.get m := by unfold getZ; rw [if_neg (by omega), Int.toNat_natCast]
theorem drop_at {l : List Int} {k : Nat} {x : Int} (h : l[k]? = some x) : l.drop k = x :: l.drop (k + 1) := by
  obtain ⟨h1, h2⟩ := List.getElem?_eq_some_iff.1 h
  rw [List.drop_eq_getElem_cons h1, h2]
theorem atT_none {t : Tr} {i : Int} (p : List Int) (h : getZ t.2 i = none) : atT t (i :: p) = none := by
  show (match getZ t.2 i with | none => none | some u => atT u p) = _
  rw [h]
theorem at_no {t : Tr} {l : List Int} (h : atT t l = none) : atO (some t) l = none ∧ atE (some t) l = 21 := by
  refine ⟨h, ?_⟩
  show (match atT t l with | none => (21 : Int) | some _ => 0) = _
  rw [h]
theorem at_yes {t u : Tr} {l : List Int} (h : atT t l = some u) : atO (some t) l = some u ∧ atE (some t) l = 0 := by
  refine ⟨h, ?_⟩
  show (match atT t l with | none => (21 : Int) | some _ => 0) = _
  rw [h]
def AtRel (t : Tr) (l : List Int) (w : World) (Sq : Nat → Prop) (v i : Value) (wr : World) : Prop :=
  ∃ (k : Nat) (T : Tr), i = .int .i64 k ∧ k ≤ l.length ∧ InT w Sq v T ∧ atT t l = atT T (l.drop k) ∧ ∃ q, wr = w.drewN q
set_option maxHeartbeats 3200000 in
set_option maxRecDepth 100000 in
theorem refAt (t : Option Tr) (l : List Int) (w : World) (Sq : Nat → Prop) (C : Nat) (v pv : Value) (h : InO w Sq v t) (hp : Sp w C pv l) (hl : l.length ≤ 1000000000) (hsz : szO t ≤ 1000000000) :
    Calls Try.prog 24 #[v, pv] w (AtPost Sq (atO t l) (atE t l) w) := by
  obtain ⟨PA, pc, rfl, hplc, hpcl⟩ := hp
  have HP := Lib.hid hpcl
  clear hpcl
  cases t with
  | none =>
    have hv : v = .pointer none := h
    subst hv
    go_enter Try.func24, Try.ntmps24
    go_wp2_with fail
    go_ret2
    exact at_ret rfl rfl ⟨0, rfl⟩
  | some t =>
    have hin : InT w Sq v t := h
    obtain ⟨q, p, hv⟩ := hin.ptr
    subst hv
    have HIN := Lib.hid hin
    obtain ⟨M, hM⟩ : ∃ M, l.length = M := ⟨_, rfl⟩
    rw [hM] at hplc hl ⊢
    have HM := Lib.hid hM
    clear h hin hM
    go_enter Try.func24, Try.ntmps24
    go_wp2_with fail
    go_loopw [0, 6] (fun v i wr => AtRel t l w Sq v i wr) (fun _ i _ => M - (intOf i).toNat)
    case atStart => exact ⟨0, t, rfl, Nat.zero_le _, HIN.out, rfl, 0, rfl⟩
    case round =>
      obtain ⟨k, T, rfl, hk, hin, hat, qq, rfl⟩ := hrel
      rw [HM.out] at hk
      have HAT := Lib.hid hat
      clear hat
      by_cases hlt : k < M
      · obtain ⟨x, hx⟩ : ∃ x, l[k]? = some x := ⟨_, List.getElem?_eq_getElem (by rw [HM.out]; exact hlt)⟩
        obtain ⟨pb, po, rfl, _, hpcell⟩ := HP.out k x hx
        have HD := Lib.hid (drop_at hx)
        have hkz : (k : Int) < (M : Int) := by omega
        obtain ⟨y, ks⟩ := T
        obtain ⟨q1, p1, A, c, rfl, hq1, c0, c1, c2, c3, c4, hc, hkid⟩ := hin.open
        obtain ⟨N, hN⟩ : ∃ N, ks.len = N := ⟨_, rfl⟩
        rw [hN] at c4
        have HK := Lib.hid hkid
        have HNN := Lib.hid hN
        clear hx hin hkid hc hN
        by_cases hneg : x < 0
        · have e1 : decide (x < 0) = true := by simpa using hneg
          have HE : Hid (atT t l = none) := Lib.hid (by rw [HAT.out, HD.out]; exact atT_none _ (getZ_neg hneg))
          go_wp2_with fail
          go_quiet (fail)
          go_wp2_with fail
          go_ret2
          exact at_ret (at_no HE.out).2 (by rw [(at_no HE.out).1]; rfl) ⟨_, World.drewN_drewN _ _ _⟩
        · obtain ⟨m, rfl⟩ : ∃ m : Nat, x = (m : Int) := ⟨x.toNat, by omega⟩
          have e1 : decide ((m : Int) < 0) = false := by simp
          by_cases hge : N ≤ m
          · have e2 : decide ((N : Int) ≤ (m : Int)) = true := by simpa using hge
            have hgez : (N : Int) ≤ (m : Int) := by omega
            have HE : Hid (atT t l = none) := Lib.hid (by rw [HAT.out, HD.out]; exact atT_none _ (by rw [getZ_nat]; exact Fr.get_none (by rw [HNN.out]; exact hge)))
            go_wp2_with fail
            go_quiet (fail)
            go_wp2_with fail
            go_ret2
            exact at_ret (at_no HE.out).2 (by rw [(at_no HE.out).1]; rfl) ⟨_, World.drewN_drewN _ _ _⟩
          · have e2 : decide ((N : Int) ≤ (m : Int)) = false := by simp; omega
            have hgez : (m : Int) < (N : Int) := by omega
            obtain ⟨u, hu⟩ := Fr.get_some (f := ks) (i := m) (by rw [HNN.out]; omega)
            obtain ⟨kb, ko, vu, rfl, hkb, hcell, hinu⟩ := HK.out.at hu
            obtain ⟨q2, p2, rfl⟩ := hinu.ptr
            have HIU := Lib.hid hinu
            have HE : Hid (atT t l = atT u (l.drop (k + 1))) := Lib.hid (by rw [HAT.out, HD.out]; exact atT_some _ (by rw [getZ_nat]; exact hu))
            clear hinu hu
            go_wp2_with fail
            go_quiet (fail)
            go_wp2_with fail
            go_quiet (fail)
            go_wp2_with fail
            go_roundw
            case rel => exact ⟨k + 1, u, by go_num, by rw [HM.out]; omega, HIU.out, HE.out, _, rfl⟩
            case measure => simp [intOf]; omega
      · have hkM : k = l.length := by rw [HM.out]; omega
        have HE : Hid (atT t l = some T) := Lib.hid (by rw [HAT.out, hkM, List.drop_length]; rfl)
        have hkz : ¬ (k : Int) < (M : Int) := by omega
        have HIN2 := Lib.hid hin
        clear hkM hin
        go_wp2_with fail
        go_ret2
        exact at_ret (at_yes HE.out).2 (by rw [(at_yes HE.out).1]; exact HIN2.out.drew _) ⟨_, rfl⟩
end Go.Proofs.Ytmjdeadkekhpdaa
