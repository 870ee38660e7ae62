/-
  Layer 10, the document's side: Moved.
-/
import Derived.Test.YtofgniceilbpaaaDoorGt11
namespace Go.Proofs.YtofgniceilbpaaaDoor
open Go.RowKit

def Nw (W w : World) (q : Nat) : Prop := W.heap.size ≤ q ∧ q < w.heap.size
def NwT (W w : World) (v : Value) (t : Tr) : Prop := InT w (Nw W w) v t
theorem NwT.up {W a w : World} {v : Value} {t : Tr} (h : NwT W a v t) (u : Up a w) : NwT W w v t := InT.keep h (fun _ hq => ⟨hq.1, Nat.lt_of_lt_of_le hq.2 u.size⟩) fun b hb => Below.block u b hb.2
theorem NwT.base {W a w : World} {v : Value} {t : Tr} (h : NwT a w v t) (u : W.heap.size ≤ a.heap.size) : NwT W w v t := InT.keep h (fun _ hq => ⟨Nat.le_trans u hq.1, hq.2⟩) fun _ _ => rfl
theorem NwT.has {W w : World} {v : Value} {t : Tr} (h : NwT W w v t) : HasT w v (some t) := InT.keep h (fun _ hq => hq.2) fun _ _ => rfl
def NwO (W w : World) (v : Value) : Option Tr → Prop
  | none => v = .pointer none
  | some t => NwT W w v t
def MvP (R : Option Tr) (W : World) (e : Ending) (w' : World) : Prop := ∃ v, e = .returned (.tuple #[v, .bool R.isSome]) ∧ Up W w' ∧ NwO W w' v R
theorem mvp_none {R : Option Tr} {W w' : World} (h : R = none) (u : Up W w') : MvP R W (.returned (.tuple #[.pointer none, .bool false])) w' := ⟨_, by rw [h]; rfl, u, by rw [h]; rfl⟩
theorem mvp_some {R : Option Tr} {W w' : World} {v : Value} {t : Tr} (h : R = some t) (u : Up W w') (hv : NwT W w' v t) : MvP R W (.returned (.tuple #[v, .bool true])) w' := ⟨v, by rw [h]; rfl, u, by rw [h]; exact hv⟩
theorem Fr.mv_app {b c : Int} {d : Nat} {f g f' g' : Fr} (h1 : Fr.mv b c d f = some f') (h2 : Fr.mv b c d g = some g') : Fr.mv b c d (f.app g) = some (f'.app g') := by
  induction f generalizing f' with
  | nil => injection h1 with h1; rw [← h1]; exact h2
  | cons x k r _ ih =>
    obtain ⟨y, k', r', h3, h4, h5, rfl⟩ := Fr.mv_cons h1
    exact Fr.mv_some h3 h4 (ih h5)
theorem mvT_none {b c : Int} {d : Nat} {x : Nod} {k r : Fr} (h : mvT b c d (x, k) = none) : Fr.mv b c d (.cons x k r) = none := by
  unfold Fr.mv
  unfold mvT at h
  cases h1 : mvN b c d x with
  | none => rfl
  | some y =>
    cases h2 : Fr.mv b c (d + innK x.k) k with
    | none => rfl
    | some k' =>
      exfalso
      simp only [h1, h2] at h
      cases h
theorem Fr.mv_app_none {b c : Int} {d : Nat} {f : Fr} {x : Nod} {k r : Fr} (h : mvT b c d (x, k) = none) : Fr.mv b c d (f.app (.cons x k r)) = none := by
  induction f with
  | nil => exact mvT_none h
  | cons y l s _ ih =>
    show Fr.mv b c d (.cons y l (s.app (.cons x k r))) = none
    cases h1 : Fr.mv b c d (.cons y l (s.app (.cons x k r))) with
    | none => rfl
    | some g =>
      obtain ⟨_, _, _, _, _, h5, _⟩ := Fr.mv_cons h1
      rw [ih] at h5
      cases h5
theorem Fr.mv_end {b c : Int} {d : Nat} {f f' : Fr} {x y : Nod} {k k' : Fr} (h1 : Fr.mv b c d f = some f') (h2 : mvT b c d (x, k) = some (y, k')) : Fr.mv b c d (f.app (.cons x k .nil)) = some (f'.app (.cons y k' .nil)) := Fr.mv_app h1 (mvT_F.1 h2)
theorem Fr.vok_app {f g : Fr} : (f.app g).vok ↔ f.vok ∧ g.vok := by
  induction f with
  | nil => exact ⟨fun h => ⟨trivial, h⟩, fun h => h.2⟩
  | cons x k r _ ih =>
    show (NodOk x k ∧ k.vok ∧ (r.app g).vok) ↔ (NodOk x k ∧ k.vok ∧ r.vok) ∧ g.vok
    rw [ih]
    constructor
    · rintro ⟨a, b, c, d⟩; exact ⟨⟨a, b, c⟩, d⟩
    · rintro ⟨⟨a, b, c⟩, d⟩; exact ⟨a, b, c, d⟩
def tvok (t : Tr) : Prop := NodOk t.1 t.2 ∧ t.2.vok
theorem co_tvok {t : Tr} (h : coT t = true) : tvok t := by
  have := co_vok (f := .cons t.1 t.2 .nil) (m := 0) (by rw [coT_F]; exact h)
  exact ⟨this.1, this.2.1⟩
theorem innK_le (k : Int) : innK k ≤ 1 := by unfold innK; split <;> omega
theorem wrap_nn (a b : Nat) (ha : a ≤ 1000000000) (hb : b ≤ 1000000000) : wrap64 ((a : Int) + (b : Int)) = ((a + b : Nat) : Int) := by unfold wrap64; omega
theorem wrap_ni (a b : Nat) (ha : a ≤ 1000000000) (hb : b ≤ 1000000000) : IntKind.i64.wrap ((a : Int) + (b : Int)) = ((a + b : Nat) : Int) := by rw [IntKind.wrap_i64]; omega
def MvAt (n : Nat) (b c : Int) : Prop := ∀ (t : Tr), szT t ≤ n → tvok t → ∀ (d : Nat), d + n ≤ 1000000000 → ∀ (w : World) (Sq : Nat → Prop) (v : Value), Bel Sq w.heap.size → InT w Sq v t →
  Calls Tryd.prog 66 #[v, .int .i64 b, .int .i64 c, .int .i64 (d : Int)] w (MvP (mvT b c d t) w)
set_option maxHeartbeats 12800000 in
set_option maxRecDepth 100000 in
theorem refMovedO {n : Nat} {b c : Int} (ih : MvAt n b c) (x : Nod) (ks : Fr) (h110 : ¬ x.k = 110) (hn : szT (x, ks) ≤ n + 1) (hv : tvok (x, ks)) (d : Nat) (hd : d + (n + 1) ≤ 1000000000) (w : World) (Sq : Nat → Prop) (v : Value) (hS : Bel Sq w.heap.size) (hin : InT w Sq v (x, ks)) :
    Calls Tryd.prog 66 #[v, .int .i64 b, .int .i64 c, .int .i64 (d : Int)] w (MvP (mvT b c d (x, ks)) w) := by
  obtain ⟨q, p, A, cc, rfl, hq1, c0, c1, c2, c3, c4, hc, hkid⟩ := hin.open
  have hsz : szT (x, ks) = 1 + ks.sz := rfl
  have hll := Fr.len_le ks
  have hx' : mvN b c d x = some (setN x x.n) := by unfold mvN; rw [if_neg (fun h => h110 h.1)]
  have hR1 : ∀ g, Fr.mv b c (d + innK x.k) ks = some g → mvT b c d (x, ks) = some (setN x x.n, g) := fun g h => by unfold mvT; simp only [hx', h]
  have hR2 : Fr.mv b c (d + innK x.k) ks = none → mvT b c d (x, ks) = none := fun h => by unfold mvT; simp only [hx', h]
  have HR1 := Lib.hid hR1
  have HR2 := Lib.hid hR2
  obtain ⟨R, hR⟩ : ∃ R, mvT b c d (x, ks) = R := ⟨_, rfl⟩
  rw [hR] at HR1 HR2 ⊢
  have hi1 := innK_le x.k
  obtain ⟨K, hK⟩ : ∃ K, x.k = K := ⟨_, rfl⟩
  obtain ⟨Z, hZ⟩ : ∃ K, x.n = K := ⟨_, rfl⟩
  obtain ⟨Y, hY⟩ : ∃ K, x.a = K := ⟨_, rfl⟩
  rw [hK] at c0 h110 HR1 HR2 hi1
  rw [hZ] at c1 HR1
  rw [hY] at c2
  obtain ⟨N, hN⟩ : ∃ N, ks.len = N := ⟨_, rfl⟩
  rw [hN] at c4 hll
  have hN1 : N ≤ 1000000000 := by omega
  have HK := Lib.hid hkid
  have HNN := Lib.hid hN
  have HSZ := Lib.hid (by omega : ks.sz ≤ n)
  have HBEL := Lib.hid hS
  have HIH := Lib.hid ih
  have HVK := Lib.hid hv.2
  have hqw : q < w.heap.size := hS q hq1
  have hx0 : setN x Z = ⟨K, Z, Y, ⟨#[]⟩⟩ := by rw [← hK, ← hZ, ← hY]; rfl
  have HX0 := Lib.hid hx0
  obtain ⟨I, hI⟩ : ∃ I, innK K = I := ⟨_, rfl⟩
  have HI := Lib.hid hI
  rw [hI] at HR1 HR2 hi1
  have hdI : d + I + n ≤ 1000000000 := by omega
  have HDI := Lib.hid hdI
  have HWI := Lib.hid (wrap_ni d I (by omega) (by omega))
  have hwd : wrap64 ((d : Int) + (I : Int)) = ((d + I : Nat) : Int) := wrap_nn d I (by omega) (by omega)
  clear hin hkid hS ih hv hR hR1 hR2 hN hc hsz hn hx' hK hZ hY hx0 hI hd hdI
  go_enter Tryd.func66, Tryd.ntmps66
  go_wp2_with fail
  go_region_held3 (fun w' => w'.cell? ⟨q, p, none⟩ = some (.int .i64 K) ∧ w'.cell? ⟨q, p + 1, none⟩ = some (.int .i64 Z) ∧ w'.cell? ⟨q, p + 2, none⟩ = some (.string Y)) (go_keep) (fail)
  obtain ⟨i0, hi, hz0, hz1, hz2⟩ := info_parts infoPtr
  obtain ⟨H, hH⟩ : ∃ H, w.heap.size = H := ⟨_, rfl⟩
  have hb1 : Below H w ((w.alloc (.cells #[.int .i64 K, .int .i64 Z, .string Y, .string ⟨#[]⟩, .slice none 0 0] 47)).drew) := below_drewN' ((Below.refl H w).alloc (by omega) _) 1
  have hn1 : Nb ((w.alloc (.cells #[.int .i64 K, .int .i64 Z, .string Y, .string ⟨#[]⟩, .slice none 0 0] 47)).drew) H (setN x Z) (.slice none 0 0) := by rw [HX0.out, ← hH]; exact heap_alloc_new w _
  have HBH : Hid (Bel Sq H) := Lib.hid (by rw [← hH]; exact HBEL.out)
  have HH := Lib.hid hH
  rw [hH] at hqw ⊢
  generalize (w.alloc (.cells #[.int .i64 K, .int .i64 Z, .string Y, .string ⟨#[]⟩, .slice none 0 0] 47)).drew = W1 at hb1 hn1 ⊢
  clear HBEL hH
  rename_i hheld
  clear hheld
  have C4 := Lib.hid c4
  have C0 := Lib.hid c0
  have c0 := (hb1.cell (p := ⟨q, p, none⟩) hqw).trans c0
  have c4 := (hb1.cell (p := ⟨q, p + 4, none⟩) hqw).trans c4
  clear c1 c2 c3
  go_wp2_with fail
  have HWD := Lib.hid hwd
  clear hwd
  go_loopw [11, 12, 13] (fun j _ _ wr => ∃ (k : Nat) (done rest new : Fr) (vk : Value) (ps : List Value), j = .int .i64 k ∧ k = done.len ∧ ks = done.app rest ∧ Fr.mv b c (d + I) done = some new ∧ Kid wr Sq A rest k ∧
    wr.ownsRow (H + 1) 25 1 vk k ps ∧ PtF wr (Sk No H wr vk) ps new ∧ Nb wr H (setN x Z) vk ∧ Below H w wr ∧ vk.ownBlock ≠ some H ∧ (∀ g, vk.ownBlock = some g → H + 1 ≤ g)) (fun j _ _ _ => N - (intOf j).toNat)
  case atStart => exact ⟨0, .nil, ks, .nil, .slice none 0 0, [], rfl, rfl, rfl, rfl, (HK.out.keep (fun _ h => h) fun _ hp => hb1.block _ (HBH.out _ hp)), World.ownsRow_nil _ _ _ _, trivial, hn1, hb1, by simp [Value.ownBlock], by intro g hg; simp [Value.ownBlock] at hg⟩
  case round =>
    obtain ⟨k, done, rest, new, vk, ps, rfl, hk, hks, hmv, hkid, hown, hpt, hnb, hbw, hvH, hvl⟩ := hrel
    have hl : N = done.len + rest.len := by rw [← HNN.out, hks, Fr.len_app]
    have hs : ks.sz = done.sz + rest.sz := by rw [hks, Fr.sz_app]
    have hsz := HSZ.out
    have hbs := hbw.size
    rw [HH.out] at hbs
    have hHr : H < wr.heap.size := heap_lt hnb
    have c4r := (hbw.cell (p := ⟨q, p + 4, none⟩) hqw).trans C4.out
    have c0r := (hbw.cell (p := ⟨q, p, none⟩) hqw).trans C0.out
    have hnl : new.len = k := by rw [(Fr.mv_len hmv).1, hk]
    have HKS := Lib.hid hks
    have HMV := Lib.hid hmv
    have HOWN := Lib.hid hown
    have HPT := Lib.hid hpt
    have HNB := Lib.hid hnb
    have HBW := Lib.hid hbw
    have HVH := Lib.hid hvH
    have HVL := Lib.hid hvl
    have HNL := Lib.hid hnl
    clear hown hpt hnb hbw hvH hvl hmv hnl
    by_cases hlt : 0 < rest.len
    · obtain ⟨y, l, r, rfl⟩ := Fr.cut hlt
      obtain ⟨kb, ko, u1, rfl, hkb, hcell, hu1, hnext⟩ := hkid.next
      obtain ⟨q1, o1, rfl⟩ := hu1.ptr
      have hsr : (Fr.cons y l r).sz = 1 + l.sz + r.sz := rfl
      have hlr : (Fr.cons y l r).len = r.len + 1 := rfl
      have hkN : k < N := by omega
      have hkz : (k : Int) < (N : Int) := by omega
      have HK1 := Lib.hid hk
      have hvy : tvok (y, l) := by
        have h := HVK.out
        rw [HKS.out, Fr.vok_app] at h
        exact ⟨h.2.1, h.2.2.1⟩
      have cI := fun W hB ht => HIH.out (y, l) (by unfold szT; simp only; omega) hvy (d + I) (by have := HDI.out; omega) W Sq (.pointer (some ⟨q1, o1, none⟩)) hB ht
      have HU1 := Lib.hid hu1
      have HN := Lib.hid hnext
      obtain ⟨RY, hRY⟩ : ∃ RY, mvT b c (d + I) (y, l) = RY := ⟨_, rfl⟩
      rw [hRY] at cI
      have HRY := Lib.hid hRY
      have CI := Lib.hid (fun W (u : Up wr W) => cI W (fun q' h => Nat.lt_of_lt_of_le (HBH.out q' h) (Nat.le_trans hbs u.size)) (HU1.out.keep (fun _ h => h) fun b' hb' => u.block b' (Nat.lt_of_lt_of_le (HBH.out b' hb') hbs)))
      have hwd := HWD.out
      have hwi := HWI.out
      clear hkid hu1 hnext hlr hsr hs hsz hl hks hk hRY cI hvy
      go_wp2_with fail
      go_region_held3 (fun w' => w'.cell? ⟨q, p + 4, none⟩ = some (.slice (some ⟨kb, ko, none⟩) N cc) ∧ w'.cell? ⟨kb, ko + k, none⟩ = some (.pointer (some ⟨q1, o1, none⟩)) ∧ w'.cell? ⟨q, p, none⟩ = some (.int .i64 K)) (first | go_keep | (refine ⟨?_, ?_, ?_⟩ <;> assumption)) (first
        | (go_at_call 65; refine Calls.mono (refInner (K := K) (by assumption)) ?_; rintro e3 w3 ⟨rfl, rfl⟩; rw [HI.out])
        | (go_at_call 66; refine Calls.mono (CI.out _ (by first | exact Below.refl _ _ | exact below_drewN' (Below.refl _ _) 1)) ?_; rintro e3 w3 ⟨v3, rfl, u3, h3⟩; have n4 : w3.cell? ⟨q, p + 4, none⟩ = some (.slice (some ⟨kb, ko, none⟩) N cc) := u3.cell c4r; have n1 : w3.cell? ⟨kb, ko + k, none⟩ = some (.pointer (some ⟨q1, o1, none⟩)) := u3.cell hcell; have n0 : w3.cell? ⟨q, p, none⟩ = some (.int .i64 K) := u3.cell c0r))
      have uw3 : Up wr w3 := ((Up.refl wr).drewN 1).trans u3
      have uww : Up w wr := by have h := HBW.out; rw [← HH.out] at h; exact h
      cases RY with
      | none =>
        have hv3 : v3 = .pointer none := h3
        subst hv3
        have HE := Lib.hid (HR2.out (by rw [HKS.out]; exact Fr.mv_app_none HRY.out))
        have UE := Lib.hid (uww.trans uw3)
        clear h3 u3 uw3 uww hwd hwi n4 n1 n0 CI
        go_wp2_with fail
        go_ret2
        exact mvp_none HE.out UE.out
      | some t3 =>
        obtain ⟨y', l'⟩ := t3
        have h3 : InT w3 (Nw (wr.drewN 1) w3) v3 (y', l') := h3
        obtain ⟨q2, o2, rfl⟩ := h3.ptr
        have hs2 := uw3.size
        have HOWN2 := Lib.hid (own_below HOWN.out uw3)
        have hpt2 : PtF w3 (Sk No H w3 vk) ps new := HPT.out.keep (by
          rintro q' (h | ⟨h1, h2, h4⟩)
          · exact h.elim
          · exact .inr ⟨h1, by omega, h4⟩) fun pp hp => uw3.block _ (by
          rcases hp with h | h
          · exact h.elim
          · exact h.2.1)
        have hu2 : InT w3 (Sk No H w3 vk) (.pointer (some ⟨q2, o2, none⟩)) (y', l') := h3.keep (by
          rintro q' ⟨h1, h2⟩
          have h1 : wr.heap.size ≤ q' := h1
          refine .inr ⟨by omega, h2, fun he => ?_⟩
          have := (HOWN.out.lt q' he).2
          omega) fun _ _ => rfl
        have HPT2 := Lib.hid hpt2
        have HU2 := Lib.hid hu2
        have HNB2 := Lib.hid (show Nb w3 H (setN x Z) vk from heap_below HNB.out uw3)
        have HBW2 := Lib.hid (HBW.out.trans (Below.mono uw3 hbs))
        have HB2 := Lib.hid uw3
        have cn := HNB2.out.cell.1
        have cf := HNB2.out.cell.2
        have HMV2 := Lib.hid (Fr.mv_end HMV.out HRY.out)
        clear h3 hpt2 hu2 u3 uw3 uww hwd hwi n4 n1 n0 CI c4r c0r hcell
        go_wp2_with (at_builtin; (refine wpList_append_own_at _ rfl _ _ 45 rfl (H + 1) 25 i0 (.pointer none) 1 8 Tryd.underlying45 hi hz0 hz1 hz2 rfl (by decide) vk k ps rfl (HOWN2.out.alloc _) ⟨w3.heap.size, 0, none⟩ 1 1 [.pointer (some ⟨q2, o2, none⟩)] rfl rfl (cell_one_new _ _ _) (fun x hx => by simp at hx; subst hx; rfl) (by unfold maxLen; omega) (by omega) (by simp; omega) ?_); intro v' w4 hown4 hgrow4 _ hat4; have HOWN4 := Lib.hid hown4; have HG4 := Lib.hid hgrow4; have HAT4 := Lib.hid hat4; have hn4 := (HNB2.out.far HG4.out HVH.out); have hc4 := hn4.cell.1; have hf4 := hn4.cell.2; obtain ⟨g4, cap4, hv4, _, _⟩ := hown4.form (by omega); subst hv4; clear hown4 hgrow4 hat4 hn4)
        have hmore := kid_more (w := w) (t := (y', l')) (S := No) (no_bel H) HBW2.out HNB2.out HPT2.out HVH.out HU2.out (by rw [HNL.out]; exact HOWN4.out) HG4.out (by have := HAT4.out; simpa using this) HVL.out
        have HMORE := Lib.hid hmore
        clear hmore
        go_roundw
        case rel =>
          obtain ⟨⟨ps', ho', hp'⟩, hn', hb', hv1, hv2⟩ := HMORE.out
          have hlen : (new.app (.cons y' l' .nil)).len = k + 1 := by rw [Fr.len_app, HNL.out]; rfl
          rw [hlen] at ho'
          exact ⟨k + 1, done.app (.cons y l .nil), r, new.app (.cons y' l' .nil), _, ps', by go_num, by rw [Fr.len_app, HK1.out]; rfl, by rw [HKS.out, Fr.app_cons], HMV2.out, (HN.out.keep (fun _ h => h) fun p hp => by
            have h1 := HBH.out _ hp
            exact (hb'.block _ h1).trans (HBW.out.block _ h1).symm), ho', hp', hn', hb', hv1, hv2⟩
        case measure => simp [intOf]; omega
    · have h0 : rest = .nil := by
        cases rest with
        | nil => rfl
        | cons y l r => exact absurd (Nat.succ_pos _) hlt
      subst h0
      have hkN : N = k := by rw [hl, hk]; rfl
      have hkz : ¬ (k : Int) < (N : Int) := by omega
      have HFIN := Lib.hid (HR1.out new (by rw [HKS.out, Fr.app_nil]; exact HMV.out))
      have HLT := Lib.hid (fun g he => (HOWN.out.lt g he).2)
      clear hks hk hl hkid hkN hs hsz
      go_wp2_with fail
      go_ret2
      have uww : Up w wr := by have h := HBW.out; rw [← HH.out] at h; exact h
      have hown := HOWN.out
      rw [← HNL.out] at hown
      have hw : Nw w wr H := ⟨by rw [HH.out]; exact Nat.le_refl _, hHr⟩
      exact mvp_some HFIN.out uww (OwnT.tree (x := setN x Z) (b := H) ⟨ps, hown, HPT.out.keep (S' := Nw w wr) (by
        rintro q' (h | ⟨h1, h2, h3⟩)
        · exact h.elim
        · exact ⟨by rw [HH.out]; omega, h2⟩) fun _ _ => rfl⟩ HNB.out hw (fun g he => ⟨by have := HVL.out g he; rw [HH.out]; omega, HLT.out g he⟩))
theorem Nb.setn {w : World} {b : Nat} {x : Nod} {v : Value} (h : Nb w b x v) (z : Int) : Nb (w.setCell ⟨b, 1, none⟩ (.int .i64 z)) b ⟨x.k, z, x.a, x.m⟩ v := by
  unfold Nb at h ⊢
  simp [World.setCell, Array.getElem?_modify, h]
theorem Nb.cell1 {w : World} {b : Nat} {x : Nod} {v : Value} (h : Nb w b x v) : w.cell? ⟨b, 1, none⟩ = some (.int .i64 x.n) ∧ w.frozen? ⟨b, 1, none⟩ = false := ⟨cell_of_row w b 1 _ _ _ h, frozen_of_row w b 1 _ _ h⟩
theorem leaf_nw {W w : World} {b : Nat} {x : Nod} (h : Nb w b x (.slice none 0 0)) (hb : W.heap.size ≤ b) : NwT W w (.pointer (some ⟨b, 0, none⟩)) (x, .nil) :=
  OwnT.tree (base := 0) (e := 0) (x := x) (b := b) (f := .nil) (OwnT.nil _ _ _ _) h ⟨hb, heap_lt h⟩ (fun g he => by simp [Value.ownBlock] at he)
theorem wrap_in (a : Int) (h0 : -1000000000000 ≤ a) (h1 : a ≤ 1000000000000) : wrap64 a = a := by unfold wrap64; omega
set_option maxHeartbeats 12800000 in
set_option maxRecDepth 100000 in
theorem refMovedV (b c : Int) (x : Nod) (h110 : x.k = 110) (hv : 0 ≤ x.n ∧ x.n ≤ 65536) (d : Nat) (hd : d ≤ 1000000000) (w : World) (Sq : Nat → Prop) (v : Value) (hS : Bel Sq w.heap.size) (hin : InT w Sq v (x, .nil)) :
    Calls Tryd.prog 66 #[v, .int .i64 b, .int .i64 c, .int .i64 (d : Int)] w (MvP (mvT b c d (x, .nil)) w) := by
  obtain ⟨q, p, A, cc, rfl, hq1, c0, c1, c2, c3, c4, hc, hkid⟩ := hin.open
  obtain ⟨Z, hZ⟩ : ∃ K, x.n = K := ⟨_, rfl⟩
  obtain ⟨Y, hY⟩ : ∃ K, x.a = K := ⟨_, rfl⟩
  obtain ⟨b1, h1⟩ : ∃ r, decide ((d : Int) ≤ Z) = r := ⟨_, rfl⟩
  obtain ⟨b2, h2⟩ : ∃ r, decide (c ≤ Z - (d : Int)) = r := ⟨_, rfl⟩
  obtain ⟨b3, h3⟩ : ∃ r, decide (b < (d : Int) - Z) = r := ⟨_, rfl⟩
  obtain ⟨b4, h4⟩ : ∃ r, decide (65536 - Z < b) = r := ⟨_, rfl⟩
  obtain ⟨R, hR⟩ : ∃ R, mvT b c d (x, .nil) = R := ⟨_, rfl⟩
  have hV : R = (if (b1 && b2) = true then (if (b3 || b4) = true then none else some (setN x (Z + b), .nil)) else some (setN x Z, .nil)) := by
    rw [← hR]
    unfold mvT mvN
    show (match (if frV c d x then (if b < d - x.n ∨ 65536 - x.n < b then none else some (setN x (x.n + b))) else some (setN x x.n)), Fr.mv b c (d + innK x.k) .nil with
      | some y, some k' => some (y, k')
      | _, _ => none) = _
    rw [hZ]
    by_cases e1 : (b1 && b2) = true
    · have e2 : frV c d x := by
        rw [Bool.and_eq_true] at e1
        exact ⟨h110, by rw [hZ]; exact of_decide_eq_true (h1.trans e1.1), by rw [hZ]; exact of_decide_eq_true (h2.trans e1.2)⟩
      rw [if_pos e2, if_pos e1]
      by_cases e3 : (b3 || b4) = true
      · have e4 : b < (d : Int) - Z ∨ 65536 - Z < b := by
          rw [Bool.or_eq_true] at e3
          rcases e3 with e3 | e3
          · exact .inl (of_decide_eq_true (h3.trans e3))
          · exact .inr (of_decide_eq_true (h4.trans e3))
        rw [if_pos e4, if_pos e3]
      · have e4 : ¬ (b < (d : Int) - Z ∨ 65536 - Z < b) := fun h => e3 (by
          rw [Bool.or_eq_true]
          rcases h with h | h
          · exact .inl (h3.symm.trans (decide_eq_true h))
          · exact .inr (h4.symm.trans (decide_eq_true h)))
        rw [if_neg e4, if_neg e3]
        rfl
    · have e2 : ¬ frV c d x := fun ⟨_, e5, e6⟩ => e1 (by
        rw [hZ] at e5 e6
        rw [Bool.and_eq_true]
        exact ⟨h1.symm.trans (decide_eq_true e5), h2.symm.trans (decide_eq_true e6)⟩)
      rw [if_neg e2, if_neg e1]
      rfl
  rw [hR]
  rw [h110] at c0
  rw [hZ] at c1 hv
  rw [hY] at c2
  have c4 : w.cell? ⟨q, p + 4, none⟩ = some (.slice A 0 cc) := c4
  have hqw : q < w.heap.size := hS q hq1
  have HX : ∀ z, setN x z = ⟨110, z, Y, ⟨#[]⟩⟩ := fun z => by rw [← h110, ← hY]; rfl
  have HXX := Lib.hid HX
  have HV := Lib.hid hV
  have hsum : b3 = false → b4 = false → -1000000000000 ≤ Z + b ∧ Z + b ≤ 1000000000000 := fun e3 e4 => by
    rw [e3, decide_eq_false_iff_not] at h3
    rw [e4, decide_eq_false_iff_not] at h4
    omega
  have hws : b3 = false → b4 = false → wrap64 (Z + b) = Z + b := fun e3 e4 => wrap_in _ (hsum e3 e4).1 (hsum e3 e4).2
  have HWS := Lib.hid hws
  have w1 : wrap64 (Z - (d : Int)) = Z - (d : Int) := wrap_in _ (by omega) (by omega)
  have w2 : wrap64 ((d : Int) - Z) = (d : Int) - Z := wrap_in _ (by omega) (by omega)
  have w3 : wrap64 (65536 - Z) = 65536 - Z := wrap_in _ (by omega) (by omega)
  clear hin hkid hS hV hR hZ hY hc h110 c3 HX hsum hws hd hv
  have key : b1 = false ∨ (b1 = true ∧ b2 = false) ∨ (b1 = true ∧ b2 = true ∧ b3 = true) ∨ (b1 = true ∧ b2 = true ∧ b3 = false ∧ b4 = true) ∨ (b1 = true ∧ b2 = true ∧ b3 = false ∧ b4 = false) := by
    cases b1 <;> cases b2 <;> cases b3 <;> cases b4 <;> simp
  rcases key with rfl | ⟨rfl, rfl⟩ | ⟨rfl, rfl, rfl⟩ | ⟨rfl, rfl, rfl, rfl⟩ | ⟨rfl, rfl, rfl, rfl⟩
  all_goals
    go_enter Tryd.func66, Tryd.ntmps66
    go_wp2_with fail
    go_region_held3 (fun w' => w'.cell? ⟨q, p, none⟩ = some (.int .i64 110) ∧ w'.cell? ⟨q, p + 1, none⟩ = some (.int .i64 Z) ∧ w'.cell? ⟨q, p + 2, none⟩ = some (.string Y)) (go_keep) (fail)
    rename_i hheld
    clear hheld
    obtain ⟨H, hH⟩ : ∃ H, w.heap.size = H := ⟨_, rfl⟩
    have hb1 : Below H w ((w.alloc (.cells #[.int .i64 110, .int .i64 Z, .string Y, .string ⟨#[]⟩, .slice none 0 0] 47)).drew) := below_drewN' ((Below.refl H w).alloc (by omega) _) 1
    have hn1 : Nb ((w.alloc (.cells #[.int .i64 110, .int .i64 Z, .string Y, .string ⟨#[]⟩, .slice none 0 0] 47)).drew) H ⟨110, Z, Y, ⟨#[]⟩⟩ (.slice none 0 0) := by rw [← hH]; exact heap_alloc_new w _
    have HH := Lib.hid hH
    rw [hH] at hqw ⊢
    generalize (w.alloc (.cells #[.int .i64 110, .int .i64 Z, .string Y, .string ⟨#[]⟩, .slice none 0 0] 47)).drew = W1 at hb1 hn1 ⊢
    have c0 := (hb1.cell (p := ⟨q, p, none⟩) hqw).trans c0
    have c1 := (hb1.cell (p := ⟨q, p + 1, none⟩) hqw).trans c1
    have c4 := (hb1.cell (p := ⟨q, p + 4, none⟩) hqw).trans c4
    have cn := hn1.cell1.1
    have cf := hn1.cell1.2
    have HU : Hid (Up w W1) := Lib.hid (by have h := hb1; rw [← HH.out] at h; exact h)
    have HN1 := Lib.hid hn1
    clear hb1 hn1 c2 hH
    try (have hws := HWS.out rfl rfl)
    go_wp2_with fail
  · go_loopw [11, 12, 13] (fun j _ _ wr => j = .int .i64 0 ∧ W1 = wr) (fun _ _ _ _ => 0)
    case atStart => exact ⟨rfl, rfl⟩
    case round =>
      obtain ⟨rfl, rfl⟩ := hrel
      go_wp2_with fail
      go_ret2
      exact mvp_some (HV.out.trans (by simp [HXX.out])) HU.out (leaf_nw HN1.out (by rw [HH.out]; exact Nat.le_refl _))
  · go_loopw [11, 12, 13] (fun j _ _ wr => j = .int .i64 0 ∧ W1 = wr) (fun _ _ _ _ => 0)
    case atStart => exact ⟨rfl, rfl⟩
    case round =>
      obtain ⟨rfl, rfl⟩ := hrel
      go_wp2_with fail
      go_ret2
      exact mvp_some (HV.out.trans (by simp [HXX.out])) HU.out (leaf_nw HN1.out (by rw [HH.out]; exact Nat.le_refl _))
  · go_ret2
    exact mvp_none (HV.out.trans (by simp)) HU.out
  · go_ret2
    exact mvp_none (HV.out.trans (by simp)) HU.out
  · have hn2 : Nb (W1.setCell ⟨H, 1, none⟩ (.int .i64 (wrap64 (Z + b)))) H ⟨110, Z + b, Y, ⟨#[]⟩⟩ (.slice none 0 0) := by rw [show wrap64 (Z + b) = Z + b by have h := HWS.out; simpa using h]; exact HN1.out.setn _
    have HN2 := Lib.hid hn2
    have HU2 : Hid (Up w (W1.setCell ⟨H, 1, none⟩ (.int .i64 (wrap64 (Z + b))))) := Lib.hid (Below.setCell HU.out (by rw [HH.out]; exact Nat.le_refl _) _)
    have c4 : (W1.setCell ⟨H, 1, none⟩ (.int .i64 (wrap64 (Z + b)))).cell? ⟨q, p + 4, none⟩ = some (.slice A 0 cc) := by rw [cell_setCell _ _ _ (by simp only; omega)]; exact c4
    clear hn2
    generalize W1.setCell ⟨H, 1, none⟩ (.int .i64 (wrap64 (Z + b))) = W2 at HN2 HU2 c4 ⊢
    go_loopw [11, 12, 13] (fun j _ _ wr => j = .int .i64 0 ∧ W2 = wr) (fun _ _ _ _ => 0)
    case atStart => exact ⟨rfl, rfl⟩
    case round =>
      obtain ⟨rfl, rfl⟩ := hrel
      go_wp2_with fail
      go_ret2
      exact mvp_some (HV.out.trans (by simp [HXX.out])) HU2.out (leaf_nw HN2.out (by rw [HH.out]; exact Nat.le_refl _))
theorem refMoved (b c : Int) : ∀ (n : Nat), MvAt n b c
  | 0, t, h, _, _, _, _, _, _, _, _ => absurd h (by unfold szT; omega)
  | n + 1, (x, ks), hn, hv, d, hd, w, Sq, v, hS, hin => by
    by_cases h110 : x.k = 110
    · obtain ⟨h0, h1, _, rfl⟩ := hv.1.2 h110
      exact refMovedV b c x h110 ⟨h0, h1⟩ d (by omega) w Sq v hS hin
    · exact refMovedO (refMoved b c n) x ks h110 hn hv d hd w Sq v hS hin
end Go.Proofs.YtofgniceilbpaaaDoor
