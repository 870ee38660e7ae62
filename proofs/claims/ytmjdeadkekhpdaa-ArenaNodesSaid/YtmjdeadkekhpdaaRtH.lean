/-
  The document's SamePath and SamePaths: what they tell.
-/
import Derived.Test.YtmjdeadkekhpdaaRtC
namespace Go.Proofs.Ytmjdeadkekhpdaa
open Go.RowKit

theorem list_next {l m : List Int} {k : Nat} {x : Int} (h : ∀ j, j < k → l[j]? = m[j]?) (hx : l[k]? = some x) (hy : m[k]? = some x) : ∀ j, j < k + 1 → l[j]? = m[j]? := by
  intro j hj
  by_cases e' : j = k
  · subst e'; rw [hx, hy]
  · exact h j (by omega)
theorem list_eq {l m : List Int} (hl : l.length = m.length) (h : ∀ j, j < l.length → l[j]? = m[j]?) : l = m := by
  apply List.ext_getElem?
  intro j
  rcases Nat.lt_or_ge j l.length with h1 | h1
  · exact h j h1
  · rw [List.getElem?_eq_none h1, List.getElem?_eq_none (by omega)]
set_option maxHeartbeats 3200000 in
set_option maxRecDepth 100000 in
theorem samePath_any (l m : List Int) (w : World) (C C' : Nat) (v v' : Value) (h : Sp w C v l) (h' : Sp w C' v' m) (hl : l.length ≤ 1000000000) (ANS : Bool) (hans : ANS = true ↔ l = m) :
    Calls Try.prog 30 #[v, v'] w (SmPost ANS w) := by
  obtain ⟨A, c, rfl, _, hA⟩ := h
  obtain ⟨A', c', rfl, _, hA'⟩ := h'
  have HA := Lib.hid hans
  have H1 := Lib.hid hA
  have H2 := Lib.hid hA'
  clear hA hA' hans
  by_cases hne : l.length = m.length
  · have hnb : ((l.length : Int) != (m.length : Int)) = false := by simp [hne]
    have hnb2 : ((l.length : Int) == (m.length : Int)) = true := by simp [hne]
    obtain ⟨N, hN⟩ : ∃ N, l.length = N := ⟨_, rfl⟩
    obtain ⟨M, hM⟩ : ∃ M, m.length = M := ⟨_, rfl⟩
    rw [hN] at hne hl hnb hnb2 ⊢
    rw [hM] at hne hnb hnb2 ⊢
    have HN := Lib.hid hN
    have HM := Lib.hid hM
    subst hne
    clear hN hM
    go_enter Try.func30, Try.ntmps30
    go_wp2_with fail
    go_loopw [5] (fun i wr => ∃ k : Nat, i = .int .i64 k ∧ k ≤ N ∧ (∀ j, j < k → l[j]? = m[j]?) ∧ ∃ q, wr = w.drewN q) (fun i _ => N - (intOf i).toNat)
    case atStart => exact ⟨0, rfl, Nat.zero_le _, fun j h => by omega, 0, rfl⟩
    case round =>
      obtain ⟨k, rfl, hk, hall, q, rfl⟩ := hrel
      have HALL := Lib.hid hall
      clear hall
      by_cases hlt : k < N
      · obtain ⟨x, hx⟩ : ∃ x, l[k]? = some x := ⟨_, List.getElem?_eq_getElem (by rw [HN.out]; exact hlt)⟩
        obtain ⟨y, hy⟩ : ∃ y, m[k]? = some y := ⟨_, List.getElem?_eq_getElem (by rw [HM.out]; exact hlt)⟩
        obtain ⟨b1, o1, rfl, _, hc1⟩ := H1.out k x hx
        obtain ⟨b2, o2, rfl, _, hc2⟩ := H2.out k y hy
        have HX := Lib.hid hx
        have HY := Lib.hid hy
        clear hx hy
        have hlz : (k : Int) < (N : Int) := by omega
        by_cases e : x = y
        · obtain ⟨e1, e2⟩ := int_eq e
          have HEQ := Lib.hid e
          clear e
          go_wp2_with fail
          go_quiet (fail)
          go_wp2_with fail
          go_roundw
          case rel => exact ⟨k + 1, by go_num, by omega, list_next HALL.out HX.out (by rw [HEQ.out]; exact HY.out), _, rfl⟩
          case measure => simp [intOf]; omega
        · obtain ⟨e1, e2⟩ := int_ne e
          have HE : Hid (ANS = false) := Lib.hid (bool_no HA.out fun he => by
            have h1 := HX.out
            rw [he, HY.out] at h1
            exact e (Option.some.inj h1).symm)
          clear e
          go_wp2_with fail
          go_quiet (fail)
          go_wp2_with fail
          go_ret
          exact sm_ret HE.out ⟨_, World.drewN_drewN _ _ _⟩
      · have hlz : ¬ (k : Int) < (N : Int) := by omega
        have HE : Hid (ANS = true) := Lib.hid (bool_yes HA.out (list_eq (by rw [HN.out, HM.out]) fun j hj => HALL.out j (by rw [HN.out] at hj; omega)))
        go_wp2_with fail
        go_ret
        exact sm_ret HE.out ⟨_, rfl⟩
  · have hnb : ((l.length : Int) != (m.length : Int)) = true := by rw [bne_iff_ne]; omega
    have hnb2 : ((l.length : Int) == (m.length : Int)) = false := by rw [beq_eq_false_iff_ne]; omega
    have HE : Hid (ANS = false) := Lib.hid (bool_no HA.out fun e => hne (by rw [e]))
    clear hne
    go_enter Try.func30, Try.ntmps30
    go_wp2_with fail
    go_ret
    exact sm_ret HE.out ⟨0, rfl⟩

/-! ### lists of paths -/
/-- The value is a slice of these paths. -/
def Spp (w : World) (B : Nat) (v : Value) (l : List (List Int)) : Prop :=
  ∃ A c, v = .slice A l.length c ∧ l.length ≤ c ∧ ∀ (j : Nat) (u : List Int), l[j]? = some u → ∃ b o pv, A = some ⟨b, o, none⟩ ∧ b < B ∧ w.cell? ⟨b, o + j, none⟩ = some pv ∧ Sp w B pv u
theorem Spp.keep {w w' : World} {B B' : Nat} {v : Value} {l : List (List Int)} (h : Spp w B v l) (hB : B ≤ B') (hk : ∀ p : Addr, p.block < B → w'.cell? p = w.cell? p) : Spp w' B' v l := by
  obtain ⟨A, c, hv, hlc, hc⟩ := h
  refine ⟨A, c, hv, hlc, fun j u hu => ?_⟩
  obtain ⟨b, o, pv, hA, hlt, hcell, hs⟩ := hc j u hu
  exact ⟨b, o, pv, hA, by omega, (hk _ hlt).trans hcell, hs.keep hB hk⟩
theorem Sp.slice {w : World} {B : Nat} {v : Value} {l : List Int} (h : Sp w B v l) : ∃ A c, v = .slice A l.length c := by
  obtain ⟨A, c, hv, _⟩ := h
  exact ⟨A, c, hv⟩
theorem Sp.drew {w : World} {B : Nat} {v : Value} {l : List Int} (h : Sp w B v l) (q : Nat) : Sp (w.drewN q) B v l := h.keep (Nat.le_refl _) fun _ _ => rfl
set_option maxHeartbeats 3200000 in
set_option maxRecDepth 100000 in
theorem samePaths_self (l : List (List Int)) (w : World) (C C' : Nat) (v v' : Value) (h : Spp w C v l) (h' : Spp w C' v' l) (hl : l.length ≤ 1000000000) (hz : ∀ p ∈ l, p.length ≤ 1000000000) :
    Calls Try.prog 27 #[v, v'] w (SmPost true w) := by
  obtain ⟨A, c, rfl, _, hA⟩ := h
  obtain ⟨A', c', rfl, _, hA'⟩ := h'
  have H1 := Lib.hid hA
  have H2 := Lib.hid hA'
  have HZ := Lib.hid hz
  obtain ⟨N, hN⟩ : ∃ N, l.length = N := ⟨_, rfl⟩
  rw [hN] at hl ⊢
  have HN := Lib.hid hN
  clear hA hA' hz hN
  go_enter Try.func27, Try.ntmps27
  go_wp2_with fail
  go_loopw [5] (fun i wr => ∃ k : Nat, i = .int .i64 k ∧ k ≤ N ∧ ∃ q, wr = w.drewN q) (fun i _ => N - (intOf i).toNat)
  case atStart => exact ⟨0, rfl, Nat.zero_le _, 0, rfl⟩
  case round =>
    obtain ⟨k, rfl, hk, q, rfl⟩ := hrel
    by_cases hlt : k < N
    · obtain ⟨x, hx⟩ : ∃ x, l[k]? = some x := ⟨_, List.getElem?_eq_getElem (by rw [HN.out]; exact hlt)⟩
      obtain ⟨b1, o1, pv1, rfl, _, hc1, hp1⟩ := H1.out k x hx
      obtain ⟨b2, o2, pv2, rfl, _, hc2, hp2⟩ := H2.out k x hx
      have cI := fun m => samePath_any x x (w.drewN m) C C' pv1 pv2 (hp1.drew m) (hp2.drew m) (HZ.out x (List.mem_of_getElem? hx)) true ⟨fun _ => rfl, fun _ => rfl⟩
      obtain ⟨A1, d1, rfl⟩ := hp1.slice
      obtain ⟨A2, d2, rfl⟩ := hp2.slice
      have hlz : (k : Int) < (N : Int) := by omega
      clear hx hp1 hp2
      go_wp2_with fail
      go_quiet ((go_at_call 30; exact quiet_off (cI _)))
      go_wp2_with fail
      go_roundw
      case rel => exact ⟨k + 1, by go_num, by omega, _, rfl⟩
      case measure => simp [intOf]; omega
    · have hlz : ¬ (k : Int) < (N : Int) := by omega
      go_wp2_with fail
      go_ret
      exact sm_ret rfl ⟨_, rfl⟩
end Go.Proofs.Ytmjdeadkekhpdaa
