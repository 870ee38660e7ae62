/-
  Layer 5, the program's kids: each kid passes its own check.
-/
import Derived.Test.YtoejegndbcbkmaaArC
import Derived.Test.YtoejegndbcbkmaaSpaM
namespace Go.Proofs.Ytoejegndbcbkmaa
open Go.RowKit

theorem PtF.kid {w : World} {S : Nat → Prop} : ∀ {vs : List Value} {f : Fr} {m : Nat} {t : Tr}, PtF w S vs f → f.get m = some t → ∃ v, vs[m]? = some v ∧ InT w S v t
  | [], .nil, m, t, _, hg => by cases m <;> cases hg
  | v :: vs, .cons x k r, 0, t, h, hg => by injection hg with hg; subst hg; exact ⟨v, rfl, h.1⟩
  | v :: vs, .cons x k r, m + 1, t, h, hg => PtF.kid (vs := vs) (f := r) (m := m) h.2 hg
/-- Where function values lie. -/
def Fns (w : World) (X : Option Nat) (A : Option Addr) (fs : List (FuncId × Array Value)) : Prop :=
  ∀ (j : Nat) k cap, fs[j]? = some (k, cap) → ∃ g o, A = some ⟨g, o, none⟩ ∧ X ≠ some g ∧ w.cell? ⟨g, o + j, none⟩ = some (.func (.func k) #[] cap)
def allB (n : Nat) (bs : Nat → Bool) : Bool := (List.range n).all bs
theorem allB_yes {n : Nat} {bs : Nat → Bool} (h : ∀ j, j < n → bs j = true) : allB n bs = true := by
  unfold allB
  rw [List.all_eq_true]
  intro j hj
  exact h j (List.mem_range.1 hj)
theorem allB_no {n j : Nat} {bs : Nat → Bool} (hj : j < n) (h : bs j = false) : allB n bs = false := by
  unfold allB
  rw [List.all_eq_false]
  exact ⟨j, List.mem_range.2 hj, by rw [h]; exact Bool.false_ne_true⟩
/-- It tells b; all that was there is as it was, but one block. -/
def TelX (b : Bool) (X : Option Nat) (w : World) (e : Ending) (w' : World) : Prop := e = .returned (.bool b) ∧ w.grownBy w' X
theorem telx_ret {a b : Bool} {X : Option Nat} {w w' : World} (h : a = b) (u : w.grownBy w' X) : TelX a X w (.returned (.bool b)) w' := ⟨by rw [h], u⟩
theorem gb_cellX {w w' : World} {X : Option Nat} (h : w.grownBy w' X) {p : Addr} {v : Value} (hc : w.cell? p = some v) (hne : X ≠ some p.block) : w'.cell? p = some v := h.cell hc (Ne.symm hne)
theorem up_gb {W w w' : World} {X : Option Nat} (hu : Up W w) (h : w.grownBy w' X) (hX : ∀ m, X = some m → W.heap.size ≤ m) : Up W w' := hu.grown h hu.size fun g hg => hX g hg
set_option maxHeartbeats 3200000 in
set_option maxRecDepth 100000 in
theorem pkids_any (W w0 : World) (v : Value) (x : Nod) (f : Fr) (hv : HasT W v (some (x, f))) (hu : Up W w0) (hf : f.len ≤ 1000000)
    (A : Option Addr) (c : Nat) (fs : List (FuncId × Array Value)) (hfl : fs.length ≤ 1000000) (X : Option Nat) (hA : Fns w0 X A fs) (hX : ∀ m, X = some m → W.heap.size ≤ m)
    (bs : Nat → Bool) (J : Nat → World → Prop) (hJ : J 0 w0)
    (hc : ∀ (i : Nat) (t : Tr) (kv : Value) (w : World) k cap, f.get i = some t → fs[i]? = some (k, cap) → HasT W kv (some t) → Up W w → J i w →
      Ent k ∧ Calls Try.prog k (#[kv] ++ cap) w fun e w' => TelX (bs i) X w e w' ∧ (bs i = true → J (i + 1) w')) :
    Calls Try.prog 50 #[v, .slice A fs.length c] w0 (TelX (decide (f.len = fs.length) && allB fs.length bs) X w0) := by
  obtain ⟨q, p, A', c', rfl, hq, c0, c1, c2, c3, c4, hcc, hkid⟩ := InT.open hv
  obtain ⟨us, hus, hcells⟩ := Kid.vals hkid HasT.bel
  have hlen := hus.len
  have HU := Lib.hid hu
  have HA := Lib.hid hA
  have HX := Lib.hid hX
  have HC := Lib.hid hc
  have HUS := Lib.hid hus
  have HCE := Lib.hid hcells
  have c4' := hu.cell c4
  have C4 := Lib.hid c4
  obtain ⟨M, hM⟩ : ∃ M, f.len = M := ⟨_, rfl⟩
  obtain ⟨n, hn⟩ : ∃ n, fs.length = n := ⟨_, rfl⟩
  rw [hM] at hf hlen hcc c4' ⊢
  rw [hn] at hfl ⊢
  have HM := Lib.hid hM
  have HN := Lib.hid hn
  clear hM hn hc hA hX hu hkid hus hcells c0 c1 c2 c3 c4 hv
  by_cases hmn : M = n
  · subst hmn
    have HB : Hid ((decide (M = M) && allB M bs) = allB M bs) := Lib.hid (by rw [decide_eq_true rfl]; rfl)
    rw [HB.out]
    go_enter Try.func50, Try.ntmps50
    go_wp2_with fail
    clear c4'
    go_loopw [5, 6, 17] (fun _ _ i wr => ∃ k : Nat, k ≤ M ∧ i = .int .i64 k ∧ w0.grownBy wr X ∧ J k wr ∧ (∀ j : Nat, j < k → bs j = true)) (fun _ _ i _ => M - (intOf i).toNat)
    case atStart => exact ⟨0, Nat.zero_le _, rfl, gb_refl _ _, hJ, fun j hj => absurd hj (Nat.not_lt_zero _)⟩
    case round =>
      obtain ⟨k, hk, rfl, hg, hj, hall⟩ := hrel
      have HG := Lib.hid hg
      have HJ := Lib.hid hj
      have HALL := Lib.hid hall
      clear hg hj hall hJ
      by_cases hlt : k < M
      · obtain ⟨⟨kf, cap⟩, hfs⟩ : ∃ y, fs[k]? = some y := ⟨_, List.getElem?_eq_getElem (by rw [HN.out]; exact hlt)⟩
        obtain ⟨g, o, rfl, hXg, hcf0⟩ := HA.out k kf cap hfs
        have hcf := gb_cellX HG.out hcf0 hXg
        obtain ⟨t, ht⟩ := Fr.get_some (f := f) (i := k) (by rw [HM.out]; exact hlt)
        obtain ⟨b, o', rfl, hb, hcs⟩ := HCE.out (by rw [HM.out]; omega)
        obtain ⟨kv, hkv, hint⟩ := PtF.kid HUS.out ht
        have uw := up_gb HU.out HG.out HX.out
        have hck := uw.cell (hcs k kv hkv)
        have hc4 := uw.cell C4.out
        rw [HM.out] at hc4
        obtain ⟨ek, cK⟩ := HC.out k t kv wr kf cap ht hfs hint uw HJ.out
        have UW := Lib.hid uw
        clear hcf0 hkv hint hcs hfs ht uw
        obtain ⟨d, hd⟩ : ∃ d, bs k = d := ⟨_, rfl⟩
        rw [hd] at cK
        have HD := Lib.hid hd
        clear hd
        cases d
        · go_wp2_with fail
          rw [ek, Oper.upon_enter]
          refine cK.mono ?_
          rintro e w2 ⟨⟨rfl, g2⟩, -⟩
          go_wp2_with fail
          go_ret
          exact telx_ret (allB_no hlt HD.out) (gb_trans HG.out g2)
        · go_wp2_with fail
          rw [ek, Oper.upon_enter]
          refine cK.mono ?_
          rintro e w2 ⟨⟨rfl, g2⟩, hj2⟩
          go_wp2_with fail
          go_roundw
          case rel => exact ⟨k + 1, by omega, by go_num, gb_trans HG.out g2, hj2 (by simp), fun j hj => by
            rcases Nat.lt_succ_iff_lt_or_eq.1 hj with h | h
            · exact HALL.out j h
            · rw [h]; exact HD.out⟩
          case measure => simp [intOf]; omega
      · have hkm : k = M := by omega
        subst hkm
        go_wp2_with fail
        go_ret
        exact telx_ret (allB_yes HALL.out) HG.out
  · have HB : Hid ((decide (M = n) && allB n bs) = false) := Lib.hid (by rw [decide_eq_false hmn]; rfl)
    have hmn' : ¬ (M : Int) = (n : Int) := by omega
    rw [HB.out]
    go_enter Try.func50, Try.ntmps50
    go_wp2_with fail
    go_ret
    exact telx_ret rfl (gb_refl _ _)
end Go.Proofs.Ytoejegndbcbkmaa
