/-
  Layer 10, the document's side: Put (written by gct.py out of XCth).
-/
import Derived.Test.YtofgniceilbpaaaDoorGt12
namespace Go.Proofs.YtofgniceilbpaaaDoor
open Go.RowKit

def ptT (i : Int) (u : Tr) (d : Nat) (t : Tr) : Option Tr := if atV i d t.1 then mvT d 0 0 u else match Fr.pt i u (d + innK t.1.k) t.2 with
  | some k' => some (ptN i d t.1, k')
  | none => none
theorem Fr.pt_cons {i : Int} {u : Tr} {d : Nat} {x : Nod} {k r : Fr} : Fr.pt i u d (.cons x k r) = match ptT i u d (x, k), Fr.pt i u d r with
    | some t, some r' => some (.cons t.1 t.2 r')
    | _, _ => none := by
  unfold ptT
  show (if atV i d x then _ else _) = _
  by_cases h : atV i d x
  · rw [if_pos h]
    simp only [h, if_true]
    cases mvT (d : Int) 0 0 u <;> cases Fr.pt i u d r <;> rfl
  · rw [if_neg h]
    simp only [h, if_false]
    cases Fr.pt i u (d + innK x.k) k <;> cases Fr.pt i u d r <;> rfl
theorem Fr.pt_inv {i : Int} {u : Tr} {d : Nat} {x : Nod} {k r g : Fr} (h : Fr.pt i u d (.cons x k r) = some g) : ∃ t r', ptT i u d (x, k) = some t ∧ Fr.pt i u d r = some r' ∧ g = .cons t.1 t.2 r' := by
  rw [Fr.pt_cons] at h
  split at h
  · rename_i t r' h1 h2
    injection h with h
    exact ⟨t, r', h1, h2, h.symm⟩
  · cases h
theorem Fr.pt_mk {i : Int} {u t : Tr} {d : Nat} {x : Nod} {k r r' : Fr} (h1 : ptT i u d (x, k) = some t) (h2 : Fr.pt i u d r = some r') : Fr.pt i u d (.cons x k r) = some (.cons t.1 t.2 r') := by rw [Fr.pt_cons, h1, h2]
theorem Fr.pt_len {i : Int} {u : Tr} {d : Nat} {f g : Fr} (h : Fr.pt i u d f = some g) : g.len = f.len := by
  induction f generalizing g with
  | nil => injection h with h; rw [← h]
  | cons x k r _ ih =>
    obtain ⟨t, r', _, h2, rfl⟩ := Fr.pt_inv h
    show r'.len + 1 = r.len + 1
    rw [ih h2]
theorem Fr.pt_app {i : Int} {u : Tr} {d : Nat} {f g f' g' : Fr} (h1 : Fr.pt i u d f = some f') (h2 : Fr.pt i u d g = some g') : Fr.pt i u d (f.app g) = some (f'.app g') := by
  induction f generalizing f' with
  | nil => injection h1 with h1; rw [← h1]; exact h2
  | cons x k r _ ih =>
    obtain ⟨t, r', h3, h5, rfl⟩ := Fr.pt_inv h1
    exact Fr.pt_mk h3 (ih h5)
theorem Fr.pt_end {i : Int} {u : Tr} {d : Nat} {f f' : Fr} {x y : Nod} {k k' : Fr} (h1 : Fr.pt i u d f = some f') (h2 : ptT i u d (x, k) = some (y, k')) : Fr.pt i u d (f.app (.cons x k .nil)) = some (f'.app (.cons y k' .nil)) := Fr.pt_app h1 (Fr.pt_mk (t := (y, k')) h2 rfl)
theorem Fr.pt_app_none {i : Int} {u : Tr} {d : Nat} {f : Fr} {x : Nod} {k r : Fr} (h : ptT i u d (x, k) = none) : Fr.pt i u d (f.app (.cons x k r)) = none := by
  induction f with
  | nil => show Fr.pt i u d (.cons x k r) = none; rw [Fr.pt_cons, h]
  | cons y l s _ ih =>
    show Fr.pt i u d (.cons y l (s.app (.cons x k r))) = none
    rw [Fr.pt_cons, ih]
    cases ptT i u d (y, l) <;> rfl
def PtAt (n : Nat) (i : Int) (u : Tr) : Prop := ∀ (t : Tr), szT t ≤ n → tvok t → ∀ (d : Nat), d + n ≤ 1000000000 → ∀ (w : World) (Sq : Nat → Prop) (v : Value), Bel Sq w.heap.size → InT w Sq v t → ∀ (uv : Value), InT w Sq uv u →
  Calls Tryd.prog 41 #[v, .int .i64 i, uv, .int .i64 (d : Int)] w (MvP (ptT i u d t) w)
set_option maxHeartbeats 12800000 in
set_option maxRecDepth 100000 in
theorem refPutO {n : Nat} {i : Int} {u : Tr} (ih : PtAt n i u) (x : Nod) (ks : Fr) (h110 : ¬ x.k = 110) (hn : szT (x, ks) ≤ n + 1) (hv : tvok (x, ks)) (d : Nat) (hd : d + (n + 1) ≤ 1000000000) (w : World) (Sq : Nat → Prop) (v : Value) (hS : Bel Sq w.heap.size) (hin : InT w Sq v (x, ks)) (uv : Value) (hu : InT w Sq uv u) :
    Calls Tryd.prog 41 #[v, .int .i64 i, uv, .int .i64 (d : Int)] w (MvP (ptT i u d (x, ks)) w) := by
  obtain ⟨q, p, A, cc, rfl, hq1, c0, c1, c2, c3, c4, hc, hkid⟩ := hin.open
  have hsz : szT (x, ks) = 1 + ks.sz := rfl
  have hll := Fr.len_le ks
  have hx1 : ¬ atV i d x := fun h => h110 h.1
  have hx' : ptN i d x = setN x x.n := by unfold ptN; rw [if_neg (fun h => h110 h.1)]
  have hR1 : ∀ g, Fr.pt i u (d + innK x.k) ks = some g → ptT i u d (x, ks) = some (setN x x.n, g) := fun g h => by unfold ptT; simp only [hx1, h, if_false]; rw [hx']
  have hR2 : Fr.pt i u (d + innK x.k) ks = none → ptT i u d (x, ks) = none := fun h => by unfold ptT; simp only [hx1, h, if_false]
  have HR1 := Lib.hid hR1
  have HR2 := Lib.hid hR2
  obtain ⟨R, hR⟩ : ∃ R, ptT i u d (x, ks) = R := ⟨_, rfl⟩
  rw [hR] at HR1 HR2 ⊢
  have hi1 := innK_le x.k
  obtain ⟨K, hK⟩ : ∃ K, x.k = K := ⟨_, rfl⟩
  obtain ⟨Z, hZ⟩ : ∃ K, x.n = K := ⟨_, rfl⟩
  obtain ⟨Y, hY⟩ : ∃ K, x.a = K := ⟨_, rfl⟩
  rw [hK] at c0 h110 HR1 HR2 hi1
  rw [hZ] at c1 HR1
  rw [hY] at c2
  obtain ⟨N, hN⟩ : ∃ N, ks.len = N := ⟨_, rfl⟩
  rw [hN] at c4 hll
  have hN1 : N ≤ 1000000000 := by omega
  have HK := Lib.hid hkid
  have HNN := Lib.hid hN
  have HSZ := Lib.hid (by omega : ks.sz ≤ n)
  have HBEL := Lib.hid hS
  have HIH := Lib.hid ih
  have HUV := Lib.hid hu
  have HVK := Lib.hid hv.2
  have hqw : q < w.heap.size := hS q hq1
  have hx0 : setN x Z = ⟨K, Z, Y, ⟨#[]⟩⟩ := by rw [← hK, ← hZ, ← hY]; rfl
  have HX0 := Lib.hid hx0
  obtain ⟨I, hI⟩ : ∃ I, innK K = I := ⟨_, rfl⟩
  have HI := Lib.hid hI
  rw [hI] at HR1 HR2 hi1
  have hdI : d + I + n ≤ 1000000000 := by omega
  have HDI := Lib.hid hdI
  have HWI := Lib.hid (wrap_ni d I (by omega) (by omega))
  have hwd : wrap64 ((d : Int) + (I : Int)) = ((d + I : Nat) : Int) := wrap_nn d I (by omega) (by omega)
  clear hin hkid hS ih hv hR hR1 hR2 hN hc hsz hn hx' hx1 hu hK hZ hY hx0 hI hd hdI
  go_enter Tryd.func41, Tryd.ntmps41
  go_wp2_with fail
  go_region_held3 (fun w' => w'.cell? ⟨q, p, none⟩ = some (.int .i64 K) ∧ w'.cell? ⟨q, p + 1, none⟩ = some (.int .i64 Z) ∧ w'.cell? ⟨q, p + 2, none⟩ = some (.string Y)) (go_keep) (fail)
  obtain ⟨i0, hi, hz0, hz1, hz2⟩ := info_parts infoPtr
  obtain ⟨H, hH⟩ : ∃ H, w.heap.size = H := ⟨_, rfl⟩
  have hb1 : Below H w ((w.alloc (.cells #[.int .i64 K, .int .i64 Z, .string Y, .string ⟨#[]⟩, .slice none 0 0] 47)).drew) := below_drewN' ((Below.refl H w).alloc (by omega) _) 1
  have hn1 : Nb ((w.alloc (.cells #[.int .i64 K, .int .i64 Z, .string Y, .string ⟨#[]⟩, .slice none 0 0] 47)).drew) H (setN x Z) (.slice none 0 0) := by rw [HX0.out, ← hH]; exact heap_alloc_new w _
  have HBH : Hid (Bel Sq H) := Lib.hid (by rw [← hH]; exact HBEL.out)
  have HH := Lib.hid hH
  rw [hH] at hqw ⊢
  generalize (w.alloc (.cells #[.int .i64 K, .int .i64 Z, .string Y, .string ⟨#[]⟩, .slice none 0 0] 47)).drew = W1 at hb1 hn1 ⊢
  clear HBEL hH
  rename_i hheld
  clear hheld
  have C4 := Lib.hid c4
  have C0 := Lib.hid c0
  have c0 := (hb1.cell (p := ⟨q, p, none⟩) hqw).trans c0
  have c4 := (hb1.cell (p := ⟨q, p + 4, none⟩) hqw).trans c4
  clear c1 c2 c3
  go_wp2_with fail
  have HWD := Lib.hid hwd
  clear hwd
  go_loopw [11, 12, 13] (fun j _ _ wr => ∃ (k : Nat) (done rest new : Fr) (vk : Value) (ps : List Value), j = .int .i64 k ∧ k = done.len ∧ ks = done.app rest ∧ Fr.pt i u (d + I) done = some new ∧ Kid wr Sq A rest k ∧
    wr.ownsRow (H + 1) 25 1 vk k ps ∧ PtF wr (Sk No H wr vk) ps new ∧ Nb wr H (setN x Z) vk ∧ Below H w wr ∧ vk.ownBlock ≠ some H ∧ (∀ g, vk.ownBlock = some g → H + 1 ≤ g)) (fun j _ _ _ => N - (intOf j).toNat)
  case atStart => exact ⟨0, .nil, ks, .nil, .slice none 0 0, [], rfl, rfl, rfl, rfl, (HK.out.keep (fun _ h => h) fun _ hp => hb1.block _ (HBH.out _ hp)), World.ownsRow_nil _ _ _ _, trivial, hn1, hb1, by simp [Value.ownBlock], by intro g hg; simp [Value.ownBlock] at hg⟩
  case round =>
    obtain ⟨k, done, rest, new, vk, ps, rfl, hk, hks, hmv, hkid, hown, hpt, hnb, hbw, hvH, hvl⟩ := hrel
    have hl : N = done.len + rest.len := by rw [← HNN.out, hks, Fr.len_app]
    have hs : ks.sz = done.sz + rest.sz := by rw [hks, Fr.sz_app]
    have hsz := HSZ.out
    have hbs := hbw.size
    rw [HH.out] at hbs
    have hHr : H < wr.heap.size := heap_lt hnb
    have c4r := (hbw.cell (p := ⟨q, p + 4, none⟩) hqw).trans C4.out
    have c0r := (hbw.cell (p := ⟨q, p, none⟩) hqw).trans C0.out
    have hnl : new.len = k := by rw [Fr.pt_len hmv, hk]
    have HKS := Lib.hid hks
    have HMV := Lib.hid hmv
    have HOWN := Lib.hid hown
    have HPT := Lib.hid hpt
    have HNB := Lib.hid hnb
    have HBW := Lib.hid hbw
    have HVH := Lib.hid hvH
    have HVL := Lib.hid hvl
    have HNL := Lib.hid hnl
    clear hown hpt hnb hbw hvH hvl hmv hnl
    by_cases hlt : 0 < rest.len
    · obtain ⟨y, l, r, rfl⟩ := Fr.cut hlt
      obtain ⟨kb, ko, u1, rfl, hkb, hcell, hu1, hnext⟩ := hkid.next
      obtain ⟨q1, o1, rfl⟩ := hu1.ptr
      have hsr : (Fr.cons y l r).sz = 1 + l.sz + r.sz := rfl
      have hlr : (Fr.cons y l r).len = r.len + 1 := rfl
      have hkN : k < N := by omega
      have hkz : (k : Int) < (N : Int) := by omega
      have HK1 := Lib.hid hk
      have hvy : tvok (y, l) := by
        have h := HVK.out
        rw [HKS.out, Fr.vok_app] at h
        exact ⟨h.2.1, h.2.2.1⟩
      have cI := fun W hB ht hu => HIH.out (y, l) (by unfold szT; simp only; omega) hvy (d + I) (by have := HDI.out; omega) W Sq (.pointer (some ⟨q1, o1, none⟩)) hB ht uv hu
      have HU1 := Lib.hid hu1
      have HN := Lib.hid hnext
      obtain ⟨RY, hRY⟩ : ∃ RY, ptT i u (d + I) (y, l) = RY := ⟨_, rfl⟩
      rw [hRY] at cI
      have HRY := Lib.hid hRY
      have CI := Lib.hid (fun W (uu : Up wr W) => cI W (fun q' h => Nat.lt_of_lt_of_le (HBH.out q' h) (Nat.le_trans hbs uu.size)) (HU1.out.keep (fun _ h => h) fun b' hb' => uu.block b' (Nat.lt_of_lt_of_le (HBH.out b' hb') hbs)) (HUV.out.keep (fun _ h => h) fun b' hb' => (uu.block b' (Nat.lt_of_lt_of_le (HBH.out b' hb') hbs)).trans (HBW.out.block b' (HBH.out b' hb'))))
      have hwd := HWD.out
      have hwi := HWI.out
      clear hkid hu1 hnext hlr hsr hs hsz hl hks hk hRY cI hvy
      go_wp2_with fail
      go_region_held3 (fun w' => w'.cell? ⟨q, p + 4, none⟩ = some (.slice (some ⟨kb, ko, none⟩) N cc) ∧ w'.cell? ⟨kb, ko + k, none⟩ = some (.pointer (some ⟨q1, o1, none⟩)) ∧ w'.cell? ⟨q, p, none⟩ = some (.int .i64 K)) (first | go_keep | (refine ⟨?_, ?_, ?_⟩ <;> assumption)) (first
        | (go_at_call 65; refine Calls.mono (refInner (K := K) (by assumption)) ?_; rintro e3 w3 ⟨rfl, rfl⟩; rw [HI.out])
        | (go_at_call 41; refine Calls.mono (CI.out _ (by first | exact Below.refl _ _ | exact below_drewN' (Below.refl _ _) 1)) ?_; rintro e3 w3 ⟨v3, rfl, u3, h3⟩; have n4 : w3.cell? ⟨q, p + 4, none⟩ = some (.slice (some ⟨kb, ko, none⟩) N cc) := u3.cell c4r; have n1 : w3.cell? ⟨kb, ko + k, none⟩ = some (.pointer (some ⟨q1, o1, none⟩)) := u3.cell hcell; have n0 : w3.cell? ⟨q, p, none⟩ = some (.int .i64 K) := u3.cell c0r))
      have uw3 : Up wr w3 := ((Up.refl wr).drewN 1).trans u3
      have uww : Up w wr := by have h := HBW.out; rw [← HH.out] at h; exact h
      cases RY with
      | none =>
        have hv3 : v3 = .pointer none := h3
        subst hv3
        have HE := Lib.hid (HR2.out (by rw [HKS.out]; exact Fr.pt_app_none HRY.out))
        have UE := Lib.hid (uww.trans uw3)
        clear h3 u3 uw3 uww hwd hwi n4 n1 n0 CI
        go_wp2_with fail
        go_ret2
        exact mvp_none HE.out UE.out
      | some t3 =>
        obtain ⟨y', l'⟩ := t3
        have h3 : InT w3 (Nw (wr.drewN 1) w3) v3 (y', l') := h3
        obtain ⟨q2, o2, rfl⟩ := h3.ptr
        have hs2 := uw3.size
        have HOWN2 := Lib.hid (own_below HOWN.out uw3)
        have hpt2 : PtF w3 (Sk No H w3 vk) ps new := HPT.out.keep (by
          rintro q' (h | ⟨h1, h2, h4⟩)
          · exact h.elim
          · exact .inr ⟨h1, by omega, h4⟩) fun pp hp => uw3.block _ (by
          rcases hp with h | h
          · exact h.elim
          · exact h.2.1)
        have hu2 : InT w3 (Sk No H w3 vk) (.pointer (some ⟨q2, o2, none⟩)) (y', l') := h3.keep (by
          rintro q' ⟨h1, h2⟩
          have h1 : wr.heap.size ≤ q' := h1
          refine .inr ⟨by omega, h2, fun he => ?_⟩
          have := (HOWN.out.lt q' he).2
          omega) fun _ _ => rfl
        have HPT2 := Lib.hid hpt2
        have HU2 := Lib.hid hu2
        have HNB2 := Lib.hid (show Nb w3 H (setN x Z) vk from heap_below HNB.out uw3)
        have HBW2 := Lib.hid (HBW.out.trans (Below.mono uw3 hbs))
        have HB2 := Lib.hid uw3
        have cn := HNB2.out.cell.1
        have cf := HNB2.out.cell.2
        have HMV2 := Lib.hid (Fr.pt_end HMV.out HRY.out)
        clear h3 hpt2 hu2 u3 uw3 uww hwd hwi n4 n1 n0 CI c4r c0r hcell
        go_wp2_with (at_builtin; (refine wpList_append_own_at _ rfl _ _ 45 rfl (H + 1) 25 i0 (.pointer none) 1 8 Tryd.underlying45 hi hz0 hz1 hz2 rfl (by decide) vk k ps rfl (HOWN2.out.alloc _) ⟨w3.heap.size, 0, none⟩ 1 1 [.pointer (some ⟨q2, o2, none⟩)] rfl rfl (cell_one_new _ _ _) (fun x hx => by simp at hx; subst hx; rfl) (by unfold maxLen; omega) (by omega) (by simp; omega) ?_); intro v' w4 hown4 hgrow4 _ hat4; have HOWN4 := Lib.hid hown4; have HG4 := Lib.hid hgrow4; have HAT4 := Lib.hid hat4; have hn4 := (HNB2.out.far HG4.out HVH.out); have hc4 := hn4.cell.1; have hf4 := hn4.cell.2; obtain ⟨g4, cap4, hv4, _, _⟩ := hown4.form (by omega); subst hv4; clear hown4 hgrow4 hat4 hn4)
        have hmore := kid_more (w := w) (t := (y', l')) (S := No) (no_bel H) HBW2.out HNB2.out HPT2.out HVH.out HU2.out (by rw [HNL.out]; exact HOWN4.out) HG4.out (by have := HAT4.out; simpa using this) HVL.out
        have HMORE := Lib.hid hmore
        clear hmore
        go_roundw
        case rel =>
          obtain ⟨⟨ps', ho', hp'⟩, hn', hb', hv1, hv2⟩ := HMORE.out
          have hlen : (new.app (.cons y' l' .nil)).len = k + 1 := by rw [Fr.len_app, HNL.out]; rfl
          rw [hlen] at ho'
          exact ⟨k + 1, done.app (.cons y l .nil), r, new.app (.cons y' l' .nil), _, ps', by go_num, by rw [Fr.len_app, HK1.out]; rfl, by rw [HKS.out, Fr.app_cons], HMV2.out, (HN.out.keep (fun _ h => h) fun p hp => by
            have h1 := HBH.out _ hp
            exact (hb'.block _ h1).trans (HBW.out.block _ h1).symm), ho', hp', hn', hb', hv1, hv2⟩
        case measure => simp [intOf]; omega
    · have h0 : rest = .nil := by
        cases rest with
        | nil => rfl
        | cons y l r => exact absurd (Nat.succ_pos _) hlt
      subst h0
      have hkN : N = k := by rw [hl, hk]; rfl
      have hkz : ¬ (k : Int) < (N : Int) := by omega
      have HFIN := Lib.hid (HR1.out new (by rw [HKS.out, Fr.app_nil]; exact HMV.out))
      have HLT := Lib.hid (fun g he => (HOWN.out.lt g he).2)
      clear hks hk hl hkid hkN hs hsz
      go_wp2_with fail
      go_ret2
      have uww : Up w wr := by have h := HBW.out; rw [← HH.out] at h; exact h
      have hown := HOWN.out
      rw [← HNL.out] at hown
      have hw : Nw w wr H := ⟨by rw [HH.out]; exact Nat.le_refl _, hHr⟩
      exact mvp_some HFIN.out uww (OwnT.tree (x := setN x Z) (b := H) ⟨ps, hown, HPT.out.keep (S' := Nw w wr) (by
        rintro q' (h | ⟨h1, h2, h3⟩)
        · exact h.elim
        · exact ⟨by rw [HH.out]; omega, h2⟩) fun _ _ => rfl⟩ HNB.out hw (fun g he => ⟨by have := HVL.out g he; rw [HH.out]; omega, HLT.out g he⟩))
set_option maxHeartbeats 12800000 in
set_option maxRecDepth 100000 in
theorem refPutV (i : Int) (u : Tr) (hz : szT u ≤ 1000000000) (hvu : tvok u) (x : Nod) (h110 : x.k = 110) (hv : 0 ≤ x.n ∧ x.n ≤ 65536) (d : Nat) (hd : d ≤ 1000000000) (w : World) (Sq : Nat → Prop) (v : Value) (hS : Bel Sq w.heap.size) (hin : InT w Sq v (x, .nil)) (uv : Value) (hu : InT w Sq uv u) :
    Calls Tryd.prog 41 #[v, .int .i64 i, uv, .int .i64 (d : Int)] w (MvP (ptT i u d (x, .nil)) w) := by
  have cM := refMoved (d : Int) 0 (szT u) u (Nat.le_refl _) hvu 0 (by omega) w Sq uv hS hu
  obtain ⟨q, p, A, cc, rfl, hq1, c0, c1, c2, c3, c4, hc, hkid⟩ := hin.open
  obtain ⟨Z, hZ⟩ : ∃ K, x.n = K := ⟨_, rfl⟩
  obtain ⟨Y, hY⟩ : ∃ K, x.a = K := ⟨_, rfl⟩
  obtain ⟨b1, h1⟩ : ∃ r, decide ((d : Int) ≤ Z) = r := ⟨_, rfl⟩
  obtain ⟨b2, h2⟩ : ∃ r, (Z - (d : Int) == i) = r := ⟨_, rfl⟩
  obtain ⟨b3, h3⟩ : ∃ r, decide (i < Z - (d : Int)) = r := ⟨_, rfl⟩
  obtain ⟨R, hR⟩ : ∃ R, ptT i u d (x, .nil) = R := ⟨_, rfl⟩
  obtain ⟨RM, hRM⟩ : ∃ R, mvT (d : Int) 0 0 u = R := ⟨_, rfl⟩
  have hV : R = (if (b1 && b2) = true then RM else if (b1 && b3) = true then some (setN x (Z - 1), .nil) else some (setN x Z, .nil)) := by
    rw [← hR, ← hRM]
    unfold ptT ptN
    rw [hZ]
    by_cases e1 : (b1 && b2) = true
    · have e2 : atV i d x := by
        rw [Bool.and_eq_true] at e1
        exact ⟨h110, by rw [hZ]; exact of_decide_eq_true (h1.trans e1.1), by rw [hZ]; exact beq_iff_eq.1 (h2.trans e1.2)⟩
      rw [if_pos e2, if_pos e1]
    · have e2 : ¬ atV i d x := fun ⟨_, e5, e6⟩ => e1 (by
        rw [hZ] at e5 e6
        rw [Bool.and_eq_true]
        exact ⟨h1.symm.trans (decide_eq_true e5), h2.symm.trans (beq_iff_eq.2 e6)⟩)
      rw [if_neg e2, if_neg e1]
      show some (if frV (i + 1) d x then setN x (Z - 1) else setN x Z, Fr.nil) = _
      by_cases e3 : (b1 && b3) = true
      · have e4 : frV (i + 1) d x := by
          rw [Bool.and_eq_true] at e3
          exact ⟨h110, by rw [hZ]; exact of_decide_eq_true (h1.trans e3.1), by rw [hZ]; exact of_decide_eq_true (h3.trans e3.2)⟩
        rw [if_pos e4, if_pos e3]
      · have e4 : ¬ frV (i + 1) d x := fun ⟨_, e5, e6⟩ => e3 (by
          rw [hZ] at e5 e6
          rw [Bool.and_eq_true]
          exact ⟨h1.symm.trans (decide_eq_true e5), h3.symm.trans (decide_eq_true (by omega))⟩)
        rw [if_neg e4, if_neg e3]
  rw [hRM] at cM
  rw [hR]
  rw [h110] at c0
  rw [hZ] at c1 hv
  rw [hY] at c2
  have c4 : w.cell? ⟨q, p + 4, none⟩ = some (.slice A 0 cc) := c4
  have hqw : q < w.heap.size := hS q hq1
  have HX : ∀ z, setN x z = ⟨110, z, Y, ⟨#[]⟩⟩ := fun z => by rw [← h110, ← hY]; rfl
  have HXX := Lib.hid HX
  have HV := Lib.hid hV
  have w1 : wrap64 (Z - (d : Int)) = Z - (d : Int) := wrap_in _ (by omega) (by omega)
  have w2 : wrap64 (Z - 1) = Z - 1 := wrap_in _ (by omega) (by omega)
  clear hin hkid hS hV hR hZ hY hc h110 c3 HX hd hv hRM hu hvu hz
  have key : (b1 = true ∧ b2 = true) ∨ (b1 = true ∧ b2 = false ∧ b3 = true) ∨ (b1 = true ∧ b2 = false ∧ b3 = false) ∨ b1 = false := by
    cases b1 <;> cases b2 <;> cases b3 <;> simp
  rcases key with ⟨rfl, rfl⟩ | ⟨rfl, rfl, rfl⟩ | ⟨rfl, rfl, rfl⟩ | rfl
  · go_enter Tryd.func41, Tryd.ntmps41
    go_wp2_with fail
    refine cM.mono ?_
    rintro e w' ⟨v', rfl, u', h'⟩
    have HM' := Lib.hid h'
    have U' := Lib.hid u'
    clear h' u' cM
    go_wp2_with fail
    go_ret2
    exact ⟨v', by rw [HV.out]; rfl, U'.out, by rw [HV.out]; exact HM'.out⟩
  all_goals
    clear cM
    go_enter Tryd.func41, Tryd.ntmps41
    go_wp2_with fail
    go_region_held3 (fun w' => w'.cell? ⟨q, p, none⟩ = some (.int .i64 110) ∧ w'.cell? ⟨q, p + 1, none⟩ = some (.int .i64 Z) ∧ w'.cell? ⟨q, p + 2, none⟩ = some (.string Y)) (go_keep) (fail)
    rename_i hheld
    clear hheld
    obtain ⟨H, hH⟩ : ∃ H, w.heap.size = H := ⟨_, rfl⟩
    have hb1 : Below H w ((w.alloc (.cells #[.int .i64 110, .int .i64 Z, .string Y, .string ⟨#[]⟩, .slice none 0 0] 47)).drew) := below_drewN' ((Below.refl H w).alloc (by omega) _) 1
    have hn1 : Nb ((w.alloc (.cells #[.int .i64 110, .int .i64 Z, .string Y, .string ⟨#[]⟩, .slice none 0 0] 47)).drew) H ⟨110, Z, Y, ⟨#[]⟩⟩ (.slice none 0 0) := by rw [← hH]; exact heap_alloc_new w _
    have HH := Lib.hid hH
    rw [hH] at hqw ⊢
    generalize (w.alloc (.cells #[.int .i64 110, .int .i64 Z, .string Y, .string ⟨#[]⟩, .slice none 0 0] 47)).drew = W1 at hb1 hn1 ⊢
    have c0 := (hb1.cell (p := ⟨q, p, none⟩) hqw).trans c0
    have c1 := (hb1.cell (p := ⟨q, p + 1, none⟩) hqw).trans c1
    have c4 := (hb1.cell (p := ⟨q, p + 4, none⟩) hqw).trans c4
    have cn := hn1.cell1.1
    have cf := hn1.cell1.2
    have HU : Hid (Up w W1) := Lib.hid (by have h := hb1; rw [← HH.out] at h; exact h)
    have HN1 := Lib.hid hn1
    have HW2 := Lib.hid w2
    clear hb1 hn1 c2 hH
    go_wp2_with fail
  · have hn2 : Nb (W1.setCell ⟨H, 1, none⟩ (.int .i64 (Z - 1))) H ⟨110, Z - 1, Y, ⟨#[]⟩⟩ (.slice none 0 0) := HN1.out.setn _
    have HN2 := Lib.hid hn2
    have HU2 : Hid (Up w (W1.setCell ⟨H, 1, none⟩ (.int .i64 (Z - 1)))) := Lib.hid (Below.setCell HU.out (by rw [HH.out]; exact Nat.le_refl _) _)
    have c4 : (W1.setCell ⟨H, 1, none⟩ (.int .i64 (Z - 1))).cell? ⟨q, p + 4, none⟩ = some (.slice A 0 cc) := by rw [cell_setCell _ _ _ (by simp only; omega)]; exact c4
    clear hn2
    try rw [HW2.out]
    generalize W1.setCell ⟨H, 1, none⟩ (.int .i64 (Z - 1)) = W2 at HN2 HU2 c4 ⊢
    go_loopw [11, 12, 13] (fun j _ _ wr => j = .int .i64 0 ∧ W2 = wr) (fun _ _ _ _ => 0)
    case atStart => exact ⟨rfl, rfl⟩
    case round =>
      obtain ⟨rfl, rfl⟩ := hrel
      go_wp2_with fail
      go_ret2
      exact mvp_some (HV.out.trans (by simp [HXX.out])) HU2.out (leaf_nw HN2.out (by rw [HH.out]; exact Nat.le_refl _))
  all_goals
    go_loopw [11, 12, 13] (fun j _ _ wr => j = .int .i64 0 ∧ W1 = wr) (fun _ _ _ _ => 0)
    case atStart => exact ⟨rfl, rfl⟩
    case round =>
      obtain ⟨rfl, rfl⟩ := hrel
      go_wp2_with fail
      go_ret2
      exact mvp_some (HV.out.trans (by simp [HXX.out])) HU.out (leaf_nw HN1.out (by rw [HH.out]; exact Nat.le_refl _))
theorem refPutC (i : Int) (u : Tr) (hz : szT u ≤ 1000000000) (hvu : tvok u) : ∀ (n : Nat), PtAt n i u
  | 0, t, h, _, _, _, _, _, _, _, _, _, _ => absurd h (by unfold szT; omega)
  | n + 1, (x, ks), hn, hv, d, hd, w, Sq, v, hS, hin, uv, hu => by
    by_cases h110 : x.k = 110
    · obtain ⟨h0, h1, _, rfl⟩ := hv.1.2 h110
      exact refPutV i u hz hvu x h110 ⟨h0, h1⟩ d (by omega) w Sq v hS hin uv hu
    · exact refPutO (refPutC i u hz hvu n) x ks h110 hn hv d hd w Sq v hS hin uv hu
end Go.Proofs.YtofgniceilbpaaaDoor
namespace Go.Proofs.YtofgniceilbpaaaDoor
open Go.RowKit

def ctT (i : Int) (d : Nat) (t : Tr) : Nat := (if atV i d t.1 then 1 else 0) + Fr.ct i (d + innK t.1.k) t.2
theorem Fr.ct_c (i : Int) (d : Nat) (x : Nod) (k r : Fr) : Fr.ct i d (.cons x k r) = ctT i d (x, k) + Fr.ct i d r := rfl
theorem Fr.ct_app (i : Int) (d : Nat) (a b : Fr) : Fr.ct i d (a.app b) = Fr.ct i d a + Fr.ct i d b := by
  induction a with
  | nil => show _ = 0 + _; rw [Nat.zero_add]; rfl
  | cons x k r _ ih =>
    show Fr.ct i d (.cons x k (r.app b)) = _
    rw [Fr.ct_c, Fr.ct_c, ih, Nat.add_assoc]
theorem Fr.ct_le (i : Int) (f : Fr) : ∀ d, Fr.ct i d f ≤ f.sz := by
  induction f with
  | nil => intro d; exact Nat.le_refl _
  | cons x k r ihk ihr =>
    intro d
    have h1 := ihk (d + innK x.k)
    have h2 := ihr d
    unfold Fr.ct Fr.sz
    split <;> omega
theorem ctT_le (i : Int) (d : Nat) (t : Tr) : ctT i d t ≤ szT t := by
  have := Fr.ct_le i t.2 (d + innK t.1.k)
  unfold ctT szT
  split <;> omega
def CtAt (n : Nat) (i : Int) : Prop := ∀ (t : Tr), szT t ≤ n → tvok t → ∀ (d : Nat), d + n ≤ 1000000000 → ∀ (w : World) (Sq : Nat → Prop) (v : Value), InT w Sq v t →
  Calls Tryd.prog 39 #[v, .int .i64 i, .int .i64 (d : Int)] w (DrI ((ctT i d t : Nat) : Int) w)
set_option maxHeartbeats 12800000 in
set_option maxRecDepth 100000 in
theorem refCount (i : Int) : ∀ (n : Nat), CtAt n i
  | 0, t, h, _, _, _, _, _, _, _ => absurd h (by unfold szT; omega)
  | n + 1, (x, ks), hn, hv, d, hd, w, Sq, v, hin => by
    have ih := refCount i n
    obtain ⟨q, p, A, cc, rfl, hq1, c0, c1, c2, c3, c4, hc, hkid⟩ := hin.open
    have hsz : szT (x, ks) = 1 + ks.sz := rfl
    have hll := Fr.len_le ks
    have hi1 := innK_le x.k
    obtain ⟨B, hB⟩ : ∃ B : Nat, (if atV i d x then 1 else 0) = B := ⟨_, rfl⟩
    have hB1 : B ≤ 1 := by rw [← hB]; split <;> omega
    have hR : ctT i d (x, ks) = B + Fr.ct i (d + innK x.k) ks := by rw [← hB]; rfl
    obtain ⟨R, hRR⟩ : ∃ R, ctT i d (x, ks) = R := ⟨_, rfl⟩
    rw [hRR] at hR ⊢
    have hvx : x.k = 110 → 0 ≤ x.n ∧ x.n ≤ 65536 := fun h => ⟨(hv.1.2 h).1, (hv.1.2 h).2.1⟩
    obtain ⟨K, hK⟩ : ∃ K, x.k = K := ⟨_, rfl⟩
    obtain ⟨Z, hZ⟩ : ∃ K, x.n = K := ⟨_, rfl⟩
    have hBB : (if K = 110 ∧ (d : Int) ≤ Z ∧ Z - d = i then 1 else 0) = B := by
      rw [← hB, ← hK, ← hZ]
      by_cases h : atV i d x
      · rw [if_pos h]; exact if_pos h
      · rw [if_neg h]; exact if_neg h
    rw [hK] at c0 hR hvx hi1
    rw [hZ] at c1 hvx
    obtain ⟨N, hN⟩ : ∃ N, ks.len = N := ⟨_, rfl⟩
    rw [hN] at c4 hll
    have hN1 : N ≤ 1000000000 := by omega
    obtain ⟨I, hI⟩ : ∃ I, innK K = I := ⟨_, rfl⟩
    have HI := Lib.hid hI
    rw [hI] at hR hi1
    have HK := Lib.hid hkid
    have HNN := Lib.hid hN
    have HSZ := Lib.hid (by omega : ks.sz ≤ n)
    have HIH := Lib.hid ih
    have HVK := Lib.hid hv.2
    have HR := Lib.hid hR
    have HB1 := Lib.hid hB1
    have HC0 := Lib.hid c0
    have HDI := Lib.hid (by omega : d + I + n ≤ 1000000000)
    have HWI := Lib.hid (wrap_ni d I (by omega) (by omega))
    have key : (B = 0 ∧ ¬ K = 110) ∨ (B = 0 ∧ K = 110 ∧ decide ((d : Int) ≤ Z) = false) ∨ (B = 0 ∧ K = 110 ∧ decide ((d : Int) ≤ Z) = true ∧ (Z - (d : Int) == i) = false) ∨ (B = 1 ∧ K = 110 ∧ decide ((d : Int) ≤ Z) = true ∧ (Z - (d : Int) == i) = true) := by
      by_cases e1 : K = 110
      · by_cases e2 : (d : Int) ≤ Z
        · by_cases e3 : Z - (d : Int) = i
          · rw [if_pos ⟨e1, e2, e3⟩] at hBB
            exact .inr (.inr (.inr ⟨hBB.symm, e1, decide_eq_true e2, beq_iff_eq.2 e3⟩))
          · rw [if_neg (fun h => e3 h.2.2)] at hBB
            exact .inr (.inr (.inl ⟨hBB.symm, e1, decide_eq_true e2, beq_eq_false_iff_ne.2 e3⟩))
        · rw [if_neg (fun h => e2 h.2.1)] at hBB
          exact .inr (.inl ⟨hBB.symm, e1, decide_eq_false e2⟩)
      · rw [if_neg (fun h => e1 h.1)] at hBB
        exact .inl ⟨hBB.symm, e1⟩
    have w1 : K = 110 → wrap64 (Z - (d : Int)) = Z - (d : Int) := fun h => by have := hvx h; exact wrap_in _ (by omega) (by omega)
    have W1 := Lib.hid w1
    clear hin hkid ih hv hR hN hc hsz hn hd hK hZ hI hRR hB hB1 hBB hvx w1 hi1
    rcases key with ⟨rfl, e1⟩ | ⟨rfl, e1, e2⟩ | ⟨rfl, e1, e2, e3⟩ | ⟨rfl, e1, e2, e3⟩
    all_goals
      try (have w2 := W1.out e1; subst e1)
      go_enter Tryd.func39, Tryd.ntmps39
      go_wp2_with fail
      try clear w2
      go_loopw [7, 8] (fun s j wr => ∃ (k : Nat) (done rest : Fr) (B : Nat), B + Fr.ct i (d + I) ks = R ∧ B ≤ 1 ∧ j = .int .i64 k ∧ k = done.len ∧ ks = done.app rest ∧ s = .int .i64 ((B + Fr.ct i (d + I) done : Nat) : Int) ∧ Kid w Sq A rest k ∧ ∃ q, wr = w.drewN q) (fun _ j _ => N - (intOf j).toNat)
      case atStart => exact ⟨0, .nil, ks, _, HR.out.symm, HB1.out, rfl, rfl, rfl, rfl, HK.out, 0, rfl⟩
      case round =>
        obtain ⟨k, done, rest, B, hBR, hB1, rfl, hk, hks, rfl, hkid, qq, rfl⟩ := hrel
        have hl : N = done.len + rest.len := by rw [← HNN.out, hks, Fr.len_app]
        have hs : ks.sz = done.sz + rest.sz := by rw [hks, Fr.sz_app]
        have hsz := HSZ.out
        have HKS := Lib.hid hks
        have HBR := Lib.hid hBR
        have HB2 := Lib.hid hB1
        have hcl := Fr.ct_le i done (d + I)
        clear hBR
        by_cases hlt : 0 < rest.len
        · obtain ⟨y, l, r, rfl⟩ := Fr.cut hlt
          obtain ⟨kb, ko, u, rfl, hkb, hcell, hu, hnext⟩ := hkid.next
          have hyl : szT (y, l) = 1 + l.sz := rfl
          have hsr : (Fr.cons y l r).sz = 1 + l.sz + r.sz := rfl
          have hlr : (Fr.cons y l r).len = r.len + 1 := rfl
          have hvy : tvok (y, l) := by
            have h := HVK.out
            rw [HKS.out, Fr.vok_app] at h
            exact ⟨h.2.1, h.2.2.1⟩
          have cI := fun m => HIH.out (y, l) (by omega) hvy (d + I) (by have := HDI.out; omega) (w.drewN m) Sq u (hu.drew m)
          have hcy := ctT_le i (d + I) (y, l)
          have HN := Lib.hid hnext
          have hkN : k < N := by omega
          have hkz : (k : Int) < (N : Int) := by omega
          have HK1 := Lib.hid hk
          obtain ⟨C, hC⟩ : ∃ C, B + Fr.ct i (d + I) done = C := ⟨_, rfl⟩
          obtain ⟨D, hD⟩ : ∃ C, ctT i (d + I) (y, l) = C := ⟨_, rfl⟩
          rw [hC]
          rw [hD] at cI hcy
          have hE : B + Fr.ct i (d + I) (done.app (.cons y l .nil)) = C + D := by rw [Fr.ct_app, Fr.ct_c, hD, ← hC]; show B + (Fr.ct i (d + I) done + (D + 0)) = _; omega
          have HE := Lib.hid hE
          have HCI := Lib.hid cI
          have hdi := HDI.out
          have HW2 := Lib.hid (wrap_ni C D (by omega) (by omega))
          have HW3 := Lib.hid (wrap_nn C D (by omega) (by omega))
          have cN := fun m => refInner (w := w.drewN m) HC0.out
          rw [HI.out] at cN
          have CN := Lib.hid cN
          clear hkid hnext hu hks hk hl hs hlr hsr hsz hyl hcl hcy hC hD hE cI cN hvy hB1 hdi
          have hwi := HWI.out
          have hw2 := HW2.out
          have hw3 := HW3.out
          go_wp2_with fail
          go_big_quiet ((first
            | (go_at_call 65; exact Calls.mono (CN.out _) fun _ _ ⟨he, hm⟩ => ⟨he, _, hm⟩)
            | (go_at_call 39; exact quiet_off (HCI.out _))))
          go_wp2_with fail
          clear hwi hw2 hw3
          go_roundw
          case rel => exact ⟨k + 1, done.app (.cons y l .nil), r, B, HBR.out, HB2.out, by go_num, by rw [Fr.len_app, HK1.out]; rfl, by rw [HKS.out, Fr.app_cons], i64_eq (by rw [HE.out]; omega), HN.out, _, rfl⟩
          case measure => simp [intOf]; omega
        · have h0 : rest = .nil := by
            cases rest with
            | nil => rfl
            | cons y l r => exact absurd (Nat.succ_pos _) hlt
          subst h0
          have hl' : N = done.len := by simpa [Fr.len] using hl
          have hkz : ¬ (k : Int) < (N : Int) := by omega
          have HE : Hid (B + Fr.ct i (d + I) done = R) := Lib.hid (by rw [← HBR.out, HKS.out, Fr.app_nil])
          clear hkid hks hk hl hl' hs hsz hcl hB1
          go_wp2_with fail
          go_ret
          exact dri _ (by have := HE.out; omega)
end Go.Proofs.YtofgniceilbpaaaDoor
