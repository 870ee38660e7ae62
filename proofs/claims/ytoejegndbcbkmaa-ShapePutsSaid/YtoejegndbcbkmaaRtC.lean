/-
  The document's Same where there may be no tree, hole and At: what they tell.
-/
import Derived.Test.YtoejegndbcbkmaaRtB
namespace Go.Proofs.Ytoejegndbcbkmaa
open Go.RowKit

/-! ### hole -/
theorem hol_ret {b : Bool} {w : World} (h : b = false) : (fun e w' => e = Ending.returned (.bool false) ∧ w = w') (.returned (.bool b)) w := ⟨by rw [h], rfl⟩
set_option maxHeartbeats 1600000 in
set_option maxRecDepth 100000 in
theorem refHole : ∀ (n : Nat) (t : Tr), szT t ≤ n → n ≤ 1000000000 → ∀ (w : World) (Sq : Nat → Prop) (v : Value), InT w Sq v t →
    Calls Try.prog 42 #[v] w fun e w' => e = .returned (.bool false) ∧ w = w'
  | 0, t, h, _, _, _, _, _ => absurd h (by unfold szT; omega)
  | n + 1, (x, ks), hn, hbig, w, Sq, v, hin => by
    have ih := refHole n
    obtain ⟨q, p, A, c, rfl, hq1, c0, c1, c2, c3, c4, hc, hkid⟩ := hin.open
    have HK := Lib.hid hkid
    have hsz : szT (x, ks) = 1 + ks.sz := rfl
    have hll := Fr.len_le ks
    rw [hsz] at hn
    obtain ⟨N, hN⟩ : ∃ N, ks.len = N := ⟨_, rfl⟩
    rw [hN] at c4 hll
    have hN1 : N ≤ 1000000000 := by omega
    have HNN := Lib.hid hN
    have HSZ := Lib.hid hn
    clear hin hkid hc hN hsz hn
    go_enter Try.func42, Try.ntmps42
    go_wp2_with fail
    go_loop [3] (fun i => ∃ (k : Nat) (done rest : Fr), i = .int .i64 k ∧ k = done.len ∧ ks = done.app rest ∧ Kid w Sq A rest k) (fun i => N - (intOf i).toNat)
    case atStart => exact ⟨0, .nil, ks, rfl, rfl, rfl, HK.out⟩
    case round =>
      obtain ⟨k, done, rest, rfl, hk, hks, hkid⟩ := hrel
      have hl : N = done.len + rest.len := by rw [← HNN.out, hks, Fr.len_app]
      have hs : ks.sz = done.sz + rest.sz := by rw [hks, Fr.sz_app]
      have hsz := HSZ.out
      have HKS := Lib.hid hks
      by_cases hlt : 0 < rest.len
      · obtain ⟨y, l, r, rfl⟩ := Fr.cut hlt
        obtain ⟨kb, ko, u, rfl, hkb, hcell, hu, hnext⟩ := hkid.next
        have hyl : szT (y, l) = 1 + l.sz := rfl
        have hsr : (Fr.cons y l r).sz = 1 + l.sz + r.sz := rfl
        have hlr : (Fr.cons y l r).len = r.len + 1 := rfl
        have cI := ih (y, l) (by omega) (by omega) w Sq u hu
        have HN := Lib.hid hnext
        have hkN : k < N := by omega
        have hkz : (k : Int) < (N : Int) := by omega
        have HK1 := Lib.hid hk
        clear hkid hnext hu hks ih hk hl hs hlr hsr hsz hyl
        go_wp2_with (go_at_call 42; refine cI.mono ?_; rintro e w' ⟨rfl, rfl⟩)
        go_round
        case rel => exact ⟨k + 1, done.app (.cons y l .nil), r, by go_num, by rw [Fr.len_app, HK1.out]; rfl, by rw [HKS.out, Fr.app_cons], HN.out⟩
        case measure => simp [intOf]; omega
      · have h0 : rest = .nil := by
          cases rest with
          | nil => rfl
          | cons y l r => exact absurd (Nat.succ_pos _) hlt
        subst h0
        have hl' : N = done.len := by simpa [Fr.len] using hl
        have hkz : ¬ (k : Int) < (N : Int) := by omega
        clear hkid hks ih hk hl hl' hs hsz
        go_wp2_with fail
        go_ret
        exact hol_ret rfl

/-! ### At -/
/-- The value is a slice of these numbers. -/
def Sp (w : World) (B : Nat) (v : Value) (l : List Int) : Prop :=
  ∃ A c, v = .slice A l.length c ∧ l.length ≤ c ∧ ∀ (j : Nat) (u : Int), l[j]? = some u → ∃ b o, A = some ⟨b, o, none⟩ ∧ b < B ∧ w.cell? ⟨b, o + j, none⟩ = some (.int .i64 u)
theorem Sp.keep {w w' : World} {B B' : Nat} {v : Value} {l : List Int} (h : Sp w B v l) (hB : B ≤ B') (hk : ∀ p : Addr, p.block < B → w'.cell? p = w.cell? p) : Sp w' B' v l := by
  obtain ⟨A, c, hv, hlc, hc⟩ := h
  refine ⟨A, c, hv, hlc, fun j u hu => ?_⟩
  obtain ⟨b, o, hA, hlt, hcell⟩ := hc j u hu
  exact ⟨b, o, hA, by omega, (hk _ hlt).trans hcell⟩
theorem InF.at {w : World} {Sq : Nat → Prop} : ∀ {f : Fr} {b o i : Nat} {t : Tr}, InF w Sq f b o → f.get i = some t → ∃ v, w.cell? ⟨b, o + i, none⟩ = some v ∧ InT w Sq v t
  | .nil, _, _, _, _, _, h => by cases h
  | .cons x k r, b, o, 0, t, ⟨⟨v, hv, hn⟩, _⟩, h => by injection h with h; subst h; exact ⟨v, hv, hn⟩
  | .cons x k r, b, o, i + 1, t, ⟨_, hr⟩, h => by
    obtain ⟨v, hv, hn⟩ := InF.at (f := r) hr h
    refine ⟨v, ?_, hn⟩
    rw [show o + (i + 1) = o + 1 + i by omega]
    exact hv
theorem Kid.at {w : World} {Sq : Nat → Prop} {A : Option Addr} {f : Fr} {i : Nat} {t : Tr} (h : Kid w Sq A f 0) (hi : f.get i = some t) : ∃ kb ko v, A = some ⟨kb, ko, none⟩ ∧ Sq kb ∧ w.cell? ⟨kb, ko + i, none⟩ = some v ∧ InT w Sq v t := by
  have hlt := Fr.get_lt hi
  obtain ⟨kb, ko, hA, h2, h3⟩ := h (by omega)
  obtain ⟨v, hv, hn⟩ := h3.at hi
  exact ⟨kb, ko, v, hA, h2, hv, hn⟩
def atO : Option Tr → List Int → Option Tr
  | none, _ => none
  | some t, p => atT t p
def atE : Option Tr → List Int → Int
  | none, _ => 1
  | some t, p => match atT t p with
    | none => 21
    | some _ => 0
def AtPost (Sq : Nat → Prop) (o : Option Tr) (z : Int) (w : World) (e : Ending) (w' : World) : Prop := ∃ v, e = .returned (.tuple #[v, .int .i64 z]) ∧ InO w' Sq v o ∧ ∃ q, w' = w.drewN q
theorem at_ret {Sq : Nat → Prop} {o : Option Tr} {z y : Int} {w w' : World} {v : Value} (hz : z = y) (h : InO w' Sq v o) (hw : ∃ q, w' = w.drewN q) : AtPost Sq o z w (.returned (.tuple #[v, .int .i64 y])) w' := ⟨v, by rw [hz], h, hw⟩
theorem getZ_neg {f : Fr} {x : Int} (h : x < 0) : getZ f x = none := by unfold getZ; rw [if_pos h]
theorem getZ_nat (f : Fr) (m : Nat) : getZ f (m : Int) = f.get m := by unfold getZ; rw [if_neg (by omega), Int.toNat_natCast]
theorem drop_at {l : List Int} {k : Nat} {x : Int} (h : l[k]? = some x) : l.drop k = x :: l.drop (k + 1) := by
  obtain ⟨h1, h2⟩ := List.getElem?_eq_some_iff.1 h
  rw [List.drop_eq_getElem_cons h1, h2]
theorem atT_none {t : Tr} {i : Int} (p : List Int) (h : getZ t.2 i = none) : atT t (i :: p) = none := by
  show (match getZ t.2 i with | none => none | some u => atT u p) = _
  rw [h]
theorem at_no {t : Tr} {l : List Int} (h : atT t l = none) : atO (some t) l = none ∧ atE (some t) l = 21 := by
  refine ⟨h, ?_⟩
  show (match atT t l with | none => (21 : Int) | some _ => 0) = _
  rw [h]
theorem at_yes {t u : Tr} {l : List Int} (h : atT t l = some u) : atO (some t) l = some u ∧ atE (some t) l = 0 := by
  refine ⟨h, ?_⟩
  show (match atT t l with | none => (21 : Int) | some _ => 0) = _
  rw [h]
def AtRel (t : Tr) (l : List Int) (w : World) (Sq : Nat → Prop) (v i : Value) (wr : World) : Prop :=
  ∃ (k : Nat) (T : Tr), i = .int .i64 k ∧ k ≤ l.length ∧ InT w Sq v T ∧ atT t l = atT T (l.drop k) ∧ ∃ q, wr = w.drewN q
end Go.Proofs.Ytoejegndbcbkmaa
