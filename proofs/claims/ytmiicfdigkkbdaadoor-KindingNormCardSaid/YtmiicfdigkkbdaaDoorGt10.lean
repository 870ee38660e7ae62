/-
  Layer 10, the document's side: within, Check, Kind, Inner.
-/
import Derived.Test.YtmiicfdigkkbdaaDoorGt05
import Derived.Test.YtmiicfdigkkbdaaDoorGt09
namespace Go.Proofs.YtmiicfdigkkbdaaDoor
open Go.RowKit

def wiL (s L : Nat) : Nat := if s ≤ L then L - s else 0
def wiE (s L : Nat) : Int := if s ≤ L then 0 else 3
def WiT (s L : Nat) (w : World) (e : Ending) (w' : World) : Prop := e = .returned (.tuple #[.int .i64 ((wiL s L : Nat) : Int), .int .i64 (wiE s L)]) ∧ w' = w
theorem wit {s L : Nat} {a b : Int} {w : World} (h1 : a = ((wiL s L : Nat) : Int)) (h2 : b = wiE s L) : WiT s L w (.returned (.tuple #[.int .i64 a, .int .i64 b])) w := ⟨by rw [h1, h2], rfl⟩
set_option maxHeartbeats 3200000 in
set_option maxRecDepth 100000 in
theorem refWithin : ∀ (n : Nat) (t : Tr), szT t ≤ n → n ≤ 1000000000 → ∀ (L : Nat), L ≤ 1000000000 → ∀ (w : World) (Sq : Nat → Prop) (v : Value), InT w Sq v t → Calls Tryd.prog 40 #[v, .int .i64 (L : Int)] w (WiT (szT t) L w)
  | 0, t, h, _, _, _, _, _, _, _ => absurd h (by unfold szT; omega)
  | n + 1, (x, ks), hn, hbig, L, hL, w, Sq, v, hin => by
    have ih := refWithin n
    obtain ⟨q, p, A, c, rfl, hq1, c0, c1, c2, c3, c4, hc, hkid⟩ := hin.open
    have hnil : ∀ W, (binOp .eql 25 (.pointer (some ⟨q, p, none⟩)) (.pointer none)).run Tryd.prog W = .ok (.bool false) W := fun W => ptr_nil2 W _
    have hsz : szT (x, ks) = 1 + ks.sz := rfl
    obtain ⟨S, hS⟩ : ∃ S, szT (x, ks) = S := ⟨_, rfl⟩
    rw [hS] at hn hsz ⊢
    have hll := Fr.len_le ks
    obtain ⟨N, hN⟩ : ∃ N, ks.len = N := ⟨_, rfl⟩
    rw [hN] at c4 hll
    have hN1 : N ≤ 1000000000 := by omega
    by_cases h0 : L = 0
    · subst h0
      have e1 : wiL S 0 = 0 := by unfold wiL; rw [if_neg (by omega)]
      have e2 : wiE S 0 = 3 := by unfold wiE; rw [if_neg (by omega)]
      have H1 := Lib.hid e1
      have H2 := Lib.hid e2
      clear hin hkid ih hS hc hN hsz hn e1 e2 hL hll
      go_enter Tryd.func40, Tryd.ntmps40
      go_wp2_with fail
      go_ret2
      exact wit (by rw [H1.out]; rfl) H2.out.symm
    · obtain ⟨M, rfl⟩ : ∃ M, L = M + 1 := ⟨L - 1, by omega⟩
      have hsub : wrap64 (((M + 1 : Nat) : Int) - 1) = (M : Int) := by unfold wrap64; omega
      have hnz : (((M + 1 : Nat) : Int) == 0) = false := by rw [beq_eq_false_iff_ne]; omega
      have hG : ks.sz ≤ M → wiL S (M + 1) = M - ks.sz ∧ wiE S (M + 1) = 0 := fun h => by
        unfold wiL wiE
        rw [if_pos (by omega), if_pos (by omega)]
        exact ⟨by omega, rfl⟩
      have hB : M < ks.sz → wiL S (M + 1) = 0 ∧ wiE S (M + 1) = 3 := fun h => by
        unfold wiL wiE
        rw [if_neg (by omega), if_neg (by omega)]
        exact ⟨rfl, rfl⟩
      have HK := Lib.hid hkid
      have HNN := Lib.hid hN
      have HSZ := Lib.hid (by omega : ks.sz ≤ n)
      have HG := Lib.hid hG
      have HB := Lib.hid hB
      have HM := Lib.hid (by omega : M ≤ 1000000000)
      clear hin hkid hS hc hN hsz hn hG hB hL h0
      obtain ⟨LL, hLL⟩ : ∃ z, ((M + 1 : Nat) : Int) = z := ⟨_, rfl⟩
      rw [hLL] at hsub hnz ⊢
      clear hLL
      have HSB := Lib.hid hsub
      go_enter Tryd.func40, Tryd.ntmps40
      go_wp2_with fail
      clear hsub hnz
      go_loopw [1, 6, 7, 8] (fun s i _ _ wr => w = wr ∧ ∃ (k : Nat) (done rest : Fr), i = .int .i64 k ∧ k = done.len ∧ ks = done.app rest ∧ done.sz ≤ M ∧ s = .int .i64 ((M - done.sz : Nat) : Int) ∧ Kid w Sq A rest k) (fun _ i _ _ _ => N - (intOf i).toNat)
      case atStart => exact ⟨rfl, 0, .nil, ks, rfl, rfl, rfl, Nat.zero_le _, i64_eq (by rw [HSB.out]; rfl), HK.out⟩
      case round =>
        obtain ⟨rfl, k, done, rest, rfl, hk, hks, hdm, rfl, hkid⟩ := hrel
        have hl : N = done.len + rest.len := by rw [← HNN.out, hks, Fr.len_app]
        have hs : ks.sz = done.sz + rest.sz := by rw [hks, Fr.sz_app]
        have hsz := HSZ.out
        have hM := HM.out
        have HKS := Lib.hid hks
        by_cases hlt : 0 < rest.len
        · obtain ⟨y, l, r, rfl⟩ := Fr.cut hlt
          obtain ⟨kb, ko, u, rfl, hkb, hcell, hu, hnext⟩ := hkid.next
          have hyl : szT (y, l) = 1 + l.sz := rfl
          have hsr : (Fr.cons y l r).sz = 1 + l.sz + r.sz := rfl
          have hlr : (Fr.cons y l r).len = r.len + 1 := rfl
          have cI := ih (y, l) (by omega) (by omega) (M - done.sz) (by omega) w Sq u hu
          have HN := Lib.hid hnext
          have hkN : k < N := by omega
          have hkz : (k : Int) < (N : Int) := by omega
          have HK1 := Lib.hid hk
          by_cases hfit : szT (y, l) ≤ M - done.sz
          · have e1 : wiL (szT (y, l)) (M - done.sz) = M - (done.app (.cons y l .nil)).sz := by
              unfold wiL
              rw [if_pos hfit, Fr.sz_app]
              show _ = M - (done.sz + (1 + l.sz + 0))
              omega
            have e2 : wiE (szT (y, l)) (M - done.sz) = 0 := by unfold wiE; rw [if_pos hfit]
            have hd : (done.app (.cons y l .nil)).sz ≤ M := by
              rw [Fr.sz_app]
              show done.sz + (1 + l.sz + 0) ≤ M
              omega
            have HD := Lib.hid hd
            unfold WiT at cI
            rw [e1, e2] at cI
            obtain ⟨Z, hZ⟩ : ∃ z, ((M - done.sz : Nat) : Int) = z := ⟨_, rfl⟩
            obtain ⟨Y, hY⟩ : ∃ z, ((M - (done.app (.cons y l .nil)).sz : Nat) : Int) = z := ⟨_, rfl⟩
            rw [hZ, hY] at cI
            rw [hZ]
            have HY := Lib.hid hY
            clear hkid hnext hu hks ih hk hl hs hlr hsr hsz hyl hfit e1 e2 hd hdm hZ hY hM
            go_wp2_with (go_at_call 40; refine cI.mono ?_; rintro e w' ⟨rfl, rfl⟩)
            go_roundw
            case rel => exact ⟨trivial, k + 1, done.app (.cons y l .nil), r, by go_num, by rw [Fr.len_app, HK1.out]; rfl, by rw [HKS.out, Fr.app_cons], HD.out, i64_eq HY.out.symm, HN.out⟩
            case measure => simp [intOf]; omega
          · have e1 : wiL (szT (y, l)) (M - done.sz) = 0 := by unfold wiL; rw [if_neg hfit]
            have e2 : wiE (szT (y, l)) (M - done.sz) = 3 := by unfold wiE; rw [if_neg hfit]
            have HF := Lib.hid (HB.out (by omega))
            unfold WiT at cI
            rw [e1, e2] at cI
            obtain ⟨Z, hZ⟩ : ∃ z, ((M - done.sz : Nat) : Int) = z := ⟨_, rfl⟩
            rw [hZ] at cI ⊢
            clear hkid hnext hu hks ih hk hl hs hlr hsr hsz hyl hfit e1 e2 hdm hZ hM
            go_wp2_with (go_at_call 40; refine cI.mono ?_; rintro e w' ⟨rfl, rfl⟩)
            go_ret2
            exact wit (by rw [HF.out.1]; rfl) HF.out.2.symm
        · have h0 : rest = .nil := by
            cases rest with
            | nil => rfl
            | cons y l r => exact absurd (Nat.succ_pos _) hlt
          subst h0
          have hl' : N = done.len := by simpa [Fr.len] using hl
          have hs' : ks.sz = done.sz := by simpa [Fr.sz] using hs
          have hkz : ¬ (k : Int) < (N : Int) := by omega
          have HF := Lib.hid (HG.out (by omega))
          have HS := Lib.hid hs'
          clear hkid hks ih hk hl hl' hs hs' hsz hM
          go_wp2_with fail
          go_ret2
          exact wit (by rw [HF.out.1, HS.out]) HF.out.2.symm
def ckE (o : Option Tr) : Int := match o with
  | none => 1
  | some t => if szT t ≤ 65536 then (if coT t = true then 0 else 16) else 3
def kkE (o : Option Tr) : Int := match o with
  | none => 1
  | some t => if szT t ≤ 65536 then (if kdT t = true then 0 else 16) else 3
def DrI (z : Int) (w : World) (e : Ending) (w' : World) : Prop := e = .returned (.int .i64 z) ∧ ∃ q, w' = w.drewN q
theorem dri {z y : Int} {w : World} (q : Nat) (h : y = z) : DrI z w (.returned (.int .i64 y)) (w.drewN q) := ⟨by rw [h], q, rfl⟩
theorem dri0 {z y : Int} {w : World} (h : y = z) : DrI z w (.returned (.int .i64 y)) w := ⟨by rw [h], 0, rfl⟩
theorem ckE_ok {o : Option Tr} (h : ckE o = 0) : ∃ t, o = some t ∧ szT t ≤ 65536 ∧ coT t = true := by
  cases o with
  | none => exact absurd h (by decide)
  | some t =>
    unfold ckE at h
    simp only at h
    split at h
    · rename_i h1
      split at h
      · rename_i h2; exact ⟨t, rfl, h1, h2⟩
      · exact absurd h (by decide)
    · exact absurd h (by decide)
theorem ckE_of {t : Tr} (h : szT t ≤ 65536) (hc : coT t = true) : ckE (some t) = 0 := by unfold ckE; simp only; rw [if_pos h, if_pos hc]
set_option maxHeartbeats 3200000 in
set_option maxRecDepth 100000 in
theorem refWithinNil (w : World) (L : Int) : Calls Tryd.prog 40 #[.pointer none, .int .i64 L] w fun e w' => e = .returned (.tuple #[.int .i64 L, .int .i64 1]) ∧ w' = w := by
  have hnil : ∀ W, (binOp .eql 25 (.pointer none) (.pointer none)).run Tryd.prog W = .ok (.bool true) W := fun W => by simp [go_sem]
  go_enter Tryd.func40, Tryd.ntmps40
  go_wp2_with fail
  go_ret2
  exact ⟨rfl, rfl⟩
set_option maxHeartbeats 3200000 in
set_option maxRecDepth 100000 in
theorem refCheck {w : World} {Sq : Nat → Prop} {v : Value} (o : Option Tr) (hin : InO w Sq v o) (hz : szO o ≤ 1000000000) : Calls Tryd.prog 21 #[v] w (DrI (ckE o) w) := by
  cases o with
  | none =>
    have hv : v = .pointer none := hin
    subst hv
    have cW := refWithinNil w 65536
    go_enter Tryd.func21, Tryd.ntmps21
    go_wp2_with fail
    refine cW.mono ?_
    rintro e w' ⟨rfl, rfl⟩
    go_wp2_with fail
    go_ret
    exact dri0 rfl
  | some t =>
    have hin : InT w Sq v t := hin
    have hz : szT t ≤ 1000000000 := hz
    have cW := refWithin _ t (Nat.le_refl _) hz 65536 (by omega) w Sq v hin
    have cC := refCo _ hz t (Nat.le_refl _) w Sq v hin
    by_cases h : szT t ≤ 65536
    · unfold WiT wiE at cW
      rw [if_pos h] at cW
      obtain ⟨b, hb⟩ : ∃ b, coT t = b := ⟨_, rfl⟩
      have HE : Hid (ckE (some t) = if b = true then 0 else 16) := Lib.hid (by unfold ckE; simp only; rw [if_pos h, hb])
      rw [hb] at cC
      rw [HE.out]
      obtain ⟨Z, hZ⟩ : ∃ z, ((wiL (szT t) 65536 : Nat) : Int) = z := ⟨_, rfl⟩
      rw [hZ] at cW
      clear hin hz h hb HE hZ
      cases b
      all_goals
        go_enter Tryd.func21, Tryd.ntmps21
        go_wp2_with fail
        refine cW.mono ?_
        rintro e w' ⟨rfl, rfl⟩
        go_wp2_with fail
        refine cC.mono ?_
        rintro e w' ⟨rfl, q1, rfl⟩
        go_wp2_with fail
        go_ret
        exact dri _ rfl
    · unfold WiT wiE at cW
      rw [if_neg h] at cW
      have HE : Hid (ckE (some t) = 3) := Lib.hid (by unfold ckE; simp only; rw [if_neg h])
      rw [HE.out]
      obtain ⟨Z, hZ⟩ : ∃ z, ((wiL (szT t) 65536 : Nat) : Int) = z := ⟨_, rfl⟩
      rw [hZ] at cW
      clear hin hz h HE hZ cC
      go_enter Tryd.func21, Tryd.ntmps21
      go_wp2_with fail
      refine cW.mono ?_
      rintro e w' ⟨rfl, rfl⟩
      go_wp2_with fail
      go_ret
      exact dri0 rfl
set_option maxHeartbeats 3200000 in
set_option maxRecDepth 100000 in
theorem refInner {w : World} {q p : Nat} {K : Int} (c0 : w.cell? ⟨q, p, none⟩ = some (.int .i64 K)) : Calls Tryd.prog 89 #[.pointer (some ⟨q, p, none⟩)] w fun e w' => e = .returned (.int .i64 (innK K : Int)) ∧ w' = w := by
  have hV : innK K = if (117 ≤ K ∧ K ≤ 119) ∨ K = 121 then 1 else 0 := rfl
  obtain ⟨R, hR⟩ : ∃ R, innK K = R := ⟨_, rfl⟩
  rw [hR] at hV ⊢
  clear hR
  by_cases h1 : 117 ≤ K
  · by_cases h2 : K ≤ 119
    · rw [if_pos (.inl ⟨h1, h2⟩)] at hV
      subst hV
      go_enter Tryd.func89, Tryd.ntmps89
      go_wp2_with fail
      go_ret
      exact ⟨rfl, rfl⟩
    · have d2 : decide (K ≤ 119) = false := decide_eq_false h2
      by_cases h3 : K = 121
      · rw [if_pos (.inr h3)] at hV
        subst hV h3
        go_enter Tryd.func89, Tryd.ntmps89
        go_wp2_with fail
        go_ret
        exact ⟨rfl, rfl⟩
      · rw [if_neg (by omega)] at hV
        subst hV
        clear h2
        go_enter Tryd.func89, Tryd.ntmps89
        go_wp2_with fail
        go_ret
        exact ⟨rfl, rfl⟩
  · have d1 : decide (117 ≤ K) = false := decide_eq_false h1
    have h3 : ¬ K = 121 := by omega
    rw [if_neg (by omega)] at hV
    subst hV
    clear h1
    go_enter Tryd.func89, Tryd.ntmps89
    go_wp2_with fail
    go_ret
    exact ⟨rfl, rfl⟩
end Go.Proofs.YtmiicfdigkkbdaaDoor
namespace Go.Proofs.YtmiicfdigkkbdaaDoor
open Go.RowKit

def Nw (W w : World) (q : Nat) : Prop := W.heap.size ≤ q ∧ q < w.heap.size
def NwT (W w : World) (v : Value) (t : Tr) : Prop := InT w (Nw W w) v t
theorem NwT.up {W a w : World} {v : Value} {t : Tr} (h : NwT W a v t) (u : Up a w) : NwT W w v t := InT.keep h (fun _ hq => ⟨hq.1, Nat.lt_of_lt_of_le hq.2 u.size⟩) fun b hb => Below.block u b hb.2
theorem NwT.base {W a w : World} {v : Value} {t : Tr} (h : NwT a w v t) (u : W.heap.size ≤ a.heap.size) : NwT W w v t := InT.keep h (fun _ hq => ⟨Nat.le_trans u hq.1, hq.2⟩) fun _ _ => rfl
theorem NwT.has {W w : World} {v : Value} {t : Tr} (h : NwT W w v t) : HasT w v (some t) := InT.keep h (fun _ hq => hq.2) fun _ _ => rfl
def NwO (W w : World) (v : Value) : Option Tr → Prop
  | none => v = .pointer none
  | some t => NwT W w v t
theorem Fr.vok_app {f g : Fr} : (f.app g).vok ↔ f.vok ∧ g.vok := by
  induction f with
  | nil => exact ⟨fun h => ⟨trivial, h⟩, fun h => h.2⟩
  | cons x k r _ ih =>
    show (NodOk x k ∧ k.vok ∧ (r.app g).vok) ↔ (NodOk x k ∧ k.vok ∧ r.vok) ∧ g.vok
    rw [ih]
    constructor
    · rintro ⟨a, b, c, d⟩; exact ⟨⟨a, b, c⟩, d⟩
    · rintro ⟨⟨a, b, c⟩, d⟩; exact ⟨a, b, c, d⟩
def tvok (t : Tr) : Prop := NodOk t.1 t.2 ∧ t.2.vok
theorem co_tvok {t : Tr} (h : coT t = true) : tvok t := by
  have := co_vok (f := .cons t.1 t.2 .nil) (m := 0) (by rw [coT_F]; exact h)
  exact ⟨this.1, this.2.1⟩
theorem innK_le (k : Int) : innK k ≤ 1 := by unfold innK; split <;> omega
theorem wrap_nn (a b : Nat) (ha : a ≤ 1000000000) (hb : b ≤ 1000000000) : wrap64 ((a : Int) + (b : Int)) = ((a + b : Nat) : Int) := by unfold wrap64; omega
theorem wrap_ni (a b : Nat) (ha : a ≤ 1000000000) (hb : b ≤ 1000000000) : IntKind.i64.wrap ((a : Int) + (b : Int)) = ((a + b : Nat) : Int) := by rw [IntKind.wrap_i64]; omega
theorem leaf_nw {W w : World} {b : Nat} {x : Nod} (h : Nb w b x (.slice none 0 0)) (hb : W.heap.size ≤ b) : NwT W w (.pointer (some ⟨b, 0, none⟩)) (x, .nil) :=
  OwnT.tree (base := 0) (e := 0) (x := x) (b := b) (f := .nil) (OwnT.nil _ _ _ _) h ⟨hb, heap_lt h⟩ (fun g he => by simp [Value.ownBlock] at he)
theorem wrap_in (a : Int) (h0 : -1000000000000 ≤ a) (h1 : a ≤ 1000000000000) : wrap64 a = a := by unfold wrap64; omega
end Go.Proofs.YtmiicfdigkkbdaaDoor
