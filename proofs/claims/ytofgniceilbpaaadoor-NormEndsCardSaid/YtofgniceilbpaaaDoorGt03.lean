/-
  The document's With: what it tells.
-/
import Derived.Test.YtofgniceilbpaaaDoorGt02
import Derived.Deep.RegionHeld3
import Derived.Maps.AppendAt
namespace Go.Proofs.YtofgniceilbpaaaDoor
open Go.RowKit

theorem infoPtr : (Tryd.prog.info? 25).map (fun i => (i.zero, i.size, i.bytes)) = some (some (.pointer none), 1, 8) := by kernel_rfl
theorem Sp.tail {w : World} {C : Nat} {b o c n : Nat} {i : Int} {p : List Int} (h : ∀ (j : Nat) (u : Int), (i :: p)[j]? = some u → ∃ b' o', some (⟨b, o, none⟩ : Addr) = some ⟨b', o', none⟩ ∧ b' < C ∧ w.cell? ⟨b', o' + j, none⟩ = some (.int .i64 u)) (hc : p.length ≤ c) (ho : 0 < p.length → n = o + 1) : Sp w C (.slice (some ⟨b, n, none⟩) p.length c) p := by
  refine ⟨_, c, rfl, hc, fun j u hu => ?_⟩
  obtain ⟨b', o', he, hlt, hcell⟩ := h (j + 1) u hu
  injection he with he
  injection he with h1 h2
  subst h1 h2
  have hn := ho (by have := (List.getElem?_eq_some_iff.1 hu).1; omega)
  refine ⟨b, n, rfl, hlt, ?_⟩
  rw [hn, show o + 1 + j = o + (j + 1) by omega]
  exact hcell
theorem Fr.get_app (a b : Fr) : (a.app b).get a.len = b.get 0 := by
  induction a with
  | nil => rfl
  | cons x k r _ ih => exact ih
def wtNew (m : Nat) (T : Tr) (k : Nat) (done : Fr) : Fr := if k ≤ m then done else done.set m T
theorem Fr.set_app {a b : Fr} {m : Nat} {T : Tr} (h : m < a.len) : (a.app b).set m T = (a.set m T).app b := by
  induction a generalizing m with
  | nil => exact absurd h (Nat.not_lt_zero _)
  | cons x k r _ ih =>
    cases m with
    | zero => rfl
    | succ m => simp only [Fr.app, Fr.set]; rw [ih (Nat.lt_of_succ_lt_succ h)]
theorem Fr.set_last {a : Fr} {x : Nod} {k : Fr} {T : Tr} : (a.app (.cons x k .nil)).set a.len T = a.app (.cons T.1 T.2 .nil) := by
  induction a with
  | nil => rfl
  | cons y l r _ ih => simp only [Fr.app, Fr.len, Fr.set]; rw [ih]
theorem wtNew_other {m k : Nat} {T : Tr} {done : Fr} {x : Nod} {l : Fr} (hk : k = done.len) (h : k ≠ m) : wtNew m T (k + 1) (done.app (.cons x l .nil)) = (wtNew m T k done).app (.cons x l .nil) := by
  unfold wtNew
  by_cases hm : k ≤ m
  · rw [if_pos hm, if_pos (by omega)]
  · rw [if_neg hm, if_neg (by omega), Fr.set_app (by omega)]
theorem wtNew_here {m : Nat} {T : Tr} {done : Fr} {x : Nod} {l : Fr} (hk : m = done.len) : wtNew m T (m + 1) (done.app (.cons x l .nil)) = (wtNew m T m done).app (.cons T.1 T.2 .nil) := by
  unfold wtNew
  rw [if_neg (by omega), if_pos (Nat.le_refl _), hk, Fr.set_last]
theorem wtNew_len {m k : Nat} {T : Tr} {done : Fr} (hk : k = done.len) : (wtNew m T k done).len = k := by
  unfold wtNew
  split
  · exact hk.symm
  · rw [Fr.len_set]; exact hk.symm
def Sin (S : Nat → Prop) (W w' : World) (q : Nat) : Prop := S q ∨ (W.heap.size ≤ q ∧ q < w'.heap.size)
def WiPost (t : Tr) (S : Nat → Prop) (W : World) (e : Ending) (w' : World) : Prop := ∃ v, e = .returned v ∧ InT w' (Sin S W w') v t ∧ Below W.heap.size W w'
theorem wi_ret {t : Tr} {S : Nat → Prop} {W w' : World} {v : Value} (h : InT w' (Sin S W w') v t) (hb : Below W.heap.size W w') : WiPost t S W (.returned v) w' := ⟨v, rfl, h, hb⟩
set_option maxHeartbeats 3200000 in
set_option maxRecDepth 100000 in
theorem refWith : ∀ (p : List Int) (t s u : Tr), atT t p = some u → szT t ≤ 1000000000 → p.length ≤ 1000000 → ∀ (w : World) (Sq : Nat → Prop) (C : Nat) (v pv sv : Value), Bel Sq w.heap.size → InT w Sq v t → InT w Sq sv s → Sp w C pv p → C ≤ w.heap.size →
    Calls Tryd.prog 26 #[v, pv, sv] w (WiPost (withT t p s) Sq w)
  | [], t, s, u, hat, hsz, hpl, w, Sq, C, v, pv, sv, hS, ht, hs, hp, hC => by
    obtain ⟨A, c, rfl, -, -⟩ := hp
    obtain ⟨q1, p1, rfl⟩ := ht.ptr
    have HS := Lib.hid hs
    clear ht hs
    go_enter Tryd.func26, Tryd.ntmps26
    go_wp2_with fail
    go_ret
    exact ⟨sv, rfl, HS.out.keep (fun q h => .inl h) (fun _ _ => rfl), Below.refl _ _⟩
  | i :: p, (x, ks), s, u, hat, hsz, hpl, w, Sq, C, v, pv, sv, hS, ht, hs, hp, hC => by
    have ih := refWith p
    obtain ⟨q, o, A, c, rfl, hq1, c0, c1, c2, c3, c4, hc, hkid⟩ := ht.open
    obtain ⟨PA, pc, rfl, hplc, hpcl⟩ := hp
    obtain ⟨pb, po, rfl, hpb, hpcell⟩ := hpcl 0 i rfl
    have HS := Lib.hid hs
    have HP := Lib.hid hpcl
    have hqw : q < w.heap.size := hS q hq1
    clear ht hs hpcl
    go_enter Tryd.func26, Tryd.ntmps26
    go_wp2_with fail
    go_region_held3 (fun w' => w'.cell? ⟨q, o, none⟩ = some (.int .i64 x.k) ∧ w'.cell? ⟨q, o + 1, none⟩ = some (.int .i64 x.n) ∧ w'.cell? ⟨q, o + 2, none⟩ = some (.string x.a) ∧ w'.cell? ⟨q, o + 3, none⟩ = some (.string x.m)) (go_keep) (fail)
    obtain ⟨i0, hi, hz0, hz1, hz2⟩ := info_parts infoPtr
    obtain ⟨T1, hT1⟩ : ∃ T1, getZ ks i = some T1 := by
      cases hg : getZ ks i with
      | none => rw [atT_none p hg] at hat; cases hat
      | some T1 => exact ⟨T1, rfl⟩
    rw [atT_some p hT1] at hat
    have hres : withT (x, ks) (i :: p) s = (x, ks.set i.toNat (withT T1 p s)) := withT_some p s hT1
    obtain ⟨hi0, hget⟩ := getZ_some hT1
    obtain ⟨m, rfl⟩ : ∃ m : Nat, i = (m : Int) := ⟨i.toNat, by omega⟩
    rw [Int.toNat_natCast] at hget hres
    have hmN := Fr.get_lt hget
    have hsz1 : szT (x, ks) = 1 + ks.sz := rfl
    have hll := Fr.len_le ks
    have hsT1 := Fr.get_sz hget
    obtain ⟨T2, hT2⟩ : ∃ T2, withT T1 p s = T2 := ⟨_, rfl⟩
    have hcI := ih T1 s u hat (by omega) (by simp at hpl; omega)
    rw [hT2] at hcI hres
    have HRES := Lib.hid hres
    obtain ⟨H, hH⟩ : ∃ H, w.heap.size = H := ⟨_, rfl⟩
    have hb1 : Below H w ((w.alloc (.cells #[.int .i64 x.k, .int .i64 x.n, .string x.a, .string x.m, .slice none 0 0] 47)).drew) := below_drewN' ((Below.refl H w).alloc (by omega) _) 1
    have hn1 : Nb ((w.alloc (.cells #[.int .i64 x.k, .int .i64 x.n, .string x.a, .string x.m, .slice none 0 0] 47)).drew) H x (.slice none 0 0) := by rw [← hH]; exact heap_alloc_new w _
    rw [hH] at hS hqw hC ⊢
    generalize (w.alloc (.cells #[.int .i64 x.k, .int .i64 x.n, .string x.a, .string x.m, .slice none 0 0] 47)).drew = W1 at hb1 hn1 ⊢
    obtain ⟨N, hN⟩ : ∃ N, ks.len = N := ⟨_, rfl⟩
    rw [hN] at c4 hmN hll
    have hN1 : N ≤ 1000000000 := by omega
    have hbel : Bel Sq H := hS
    have HK := Lib.hid hkid
    have HNN := Lib.hid hN
    have HGET := Lib.hid hget
    have HCI := Lib.hid hcI
    have HBEL := Lib.hid hbel
    have HH := Lib.hid hH
    clear hkid hN hat hget hcI hbel hS hT1 hT2 hres hsz1 hsT1 hi0 ih hc
    go_wp2_with fail
    go_loopw [8, 9] (fun j _ wr => ∃ (k : Nat) (done rest : Fr) (vk : Value) (ps : List Value), j = .int .i64 k ∧ k = done.len ∧ ks = done.app rest ∧ Kid wr Sq A rest k ∧
      wr.ownsRow (H + 1) 25 1 vk (wtNew m T2 k done).len ps ∧ PtF wr (Sk Sq H wr vk) ps (wtNew m T2 k done) ∧ Nb wr H x vk ∧ Below H w wr ∧ vk.ownBlock ≠ some H ∧ (∀ g, vk.ownBlock = some g → H + 1 ≤ g)) (fun j _ _ => N - (intOf j).toNat)
    case atStart => exact ⟨0, .nil, ks, .slice none 0 0, [], rfl, rfl, rfl, (HK.out.keep (fun _ h => h) fun _ hp => hb1.block _ (HBEL.out _ hp)), World.ownsRow_nil _ _ _ _, by unfold wtNew; rw [if_pos (Nat.zero_le _)]; trivial, hn1, hb1, by simp [Value.ownBlock], by intro g hg; simp [Value.ownBlock] at hg⟩
    case round =>
      obtain ⟨k, done, rest, vk, ps, rfl, hk, hks, hkid, hown, hpt, hnb, hbw, hvH, hvl⟩ := hrel
      have hl : N = done.len + rest.len := by rw [← HNN.out, hks, Fr.len_app]
      have hbs := hbw.size
      rw [HH.out] at hbs
      have hlen := wtNew_len (m := m) (T := T2) hk
      rw [hlen] at hown
      have hHr : H < wr.heap.size := heap_lt hnb
      have c4r := (hbw.cell (p := ⟨q, o + 4, none⟩) hqw).trans c4
      have hpr := (hbw.cell (p := ⟨pb, po + 0, none⟩) (Nat.lt_of_lt_of_le hpb hC)).trans hpcell
      rw [Nat.add_zero] at hpr
      have HKS := Lib.hid hks
      have HOWN := Lib.hid hown
      have HPT := Lib.hid hpt
      have HNB := Lib.hid hnb
      have HBW := Lib.hid hbw
      have HVH := Lib.hid hvH
      have HVL := Lib.hid hvl
      have HLEN := Lib.hid hlen
      clear hown hpt hnb hbw hvH hvl hlen
      by_cases hlt : 0 < rest.len
      · obtain ⟨y, l, r, rfl⟩ := Fr.cut hlt
        obtain ⟨kb, ko, u1, rfl, hkb, hcell, hu1, hnext⟩ := hkid.next
        obtain ⟨q1, o1, rfl⟩ := hu1.ptr
        have hlr : (Fr.cons y l r).len = r.len + 1 := rfl
        have hkN : k < N := by omega
        have hkz : (k : Int) < (N : Int) := by omega
        have HK1 := Lib.hid hk
        have HU1 := Lib.hid hu1
        have HN := Lib.hid hnext
        clear hkid hu1 hnext hlr
        by_cases hkm : k = m
        · have hT : T1 = (y, l) := by
            have h1 := HGET.out
            rw [HKS.out, ← hkm, hk, Fr.get_app] at h1
            injection h1 with h1
            exact h1.symm
          have hkmz : ((k : Int) == (m : Int)) = true := by rw [beq_iff_eq]; omega
          have hcI := HCI.out wr Sq C (.pointer (some ⟨q1, o1, none⟩))
          have HNEW := Lib.hid (wtNew_here (m := m) (T := T2) (x := y) (l := l) (by omega : m = done.len))
          have HKM := Lib.hid hkm
          have HT := Lib.hid hT
          clear hks hk hl hT hkm
          simp only [List.length_cons] at hplc hpl
          by_cases hpc : pc = 1
          · subst hpc
            have hsp : Sp wr C (.slice (some ⟨pb, po, none⟩) 0 0) p := by
              have hp0 : p.length = 0 := by omega
              exact ⟨_, 0, by rw [hp0], by omega, fun j u hu => by have := (List.getElem?_eq_some_iff.1 hu).1; omega⟩
            have hcI := hcI _ sv (fun q' h => by have := HBEL.out q' h; omega) (by rw [HT.out]; exact HU1.out) (HS.out.keep (fun _ h => h) fun p hp => HBW.out.block _ (HBEL.out _ hp)) hsp (by omega)
            clear hsp
            go_wp2_with fail
            refine hcI.mono ?_
            rintro e w2 ⟨v2, rfl, hv2, hb2⟩
            obtain ⟨q2, o2, rfl⟩ := hv2.ptr
            have hs2 := hb2.size
            have HOWN2 := Lib.hid (own_below HOWN.out hb2)
            have hpt2 : PtF w2 (Sk Sq H w2 vk) ps (wtNew m T2 k done) := HPT.out.keep (by
              rintro q' (h | ⟨h1, h2, h3⟩)
              · exact .inl h
              · exact .inr ⟨h1, by omega, h3⟩) fun pp hp => hb2.block _ (by
              rcases hp with h | h
              · have := HBEL.out _ h; omega
              · exact h.2.1)
            have hu2 : InT w2 (Sk Sq H w2 vk) (.pointer (some ⟨q2, o2, none⟩)) T2 := hv2.keep (by
              rintro q' (h | ⟨h1, h2⟩)
              · exact .inl h
              · refine .inr ⟨by omega, h2, fun he => ?_⟩
                have := (HOWN.out.lt q' he).2
                omega) fun _ _ => rfl
            have HPT2 := Lib.hid hpt2
            have HU2 := Lib.hid hu2
            have HNB2 := Lib.hid (show Nb w2 H x vk from heap_below HNB.out hb2)
            have HBW2 := Lib.hid (HBW.out.trans (hb2.mono (by omega)))
            have HB2 := Lib.hid hb2
            have cn := HNB2.out.cell.1
            have cf := HNB2.out.cell.2
            clear hv2 hb2 hpt2 hu2
            go_wp2_with (at_builtin; (refine wpList_append_own_at _ rfl _ _ 45 rfl (H + 1) 25 i0 (.pointer none) 1 8 Tryd.underlying45 hi hz0 hz1 hz2 rfl (by decide) vk k ps rfl (HOWN2.out.alloc _) ⟨w2.heap.size, 0, none⟩ 1 1 [.pointer (some ⟨q2, o2, none⟩)] rfl rfl (cell_one_new _ _ _) (fun x hx => by simp at hx; subst hx; rfl) (by unfold maxLen; omega) (by omega) (by simp; omega) ?_); intro v' w4 hown4 hgrow4 _ hat4; have HOWN4 := Lib.hid hown4; have HG4 := Lib.hid hgrow4; have HAT4 := Lib.hid hat4; have hn4 := (HNB2.out.far HG4.out HVH.out); have hc4 := hn4.cell.1; have hf4 := hn4.cell.2; obtain ⟨g4, cap4, hv4, _, _⟩ := hown4.form (by omega); subst hv4; clear hown4 hgrow4 hat4 hn4)
            have hmore := kid_more (w := w) (t := T2) HBEL.out HBW2.out HNB2.out HPT2.out HVH.out HU2.out (by rw [HLEN.out]; exact HOWN4.out) HG4.out (by have := HAT4.out; simpa using this) HVL.out
            have HMORE := Lib.hid hmore
            clear hmore
            go_roundw
            case rel =>
              obtain ⟨⟨ps', ho', hp'⟩, hn', hb', hv1, hv2⟩ := HMORE.out
              have HNW : wtNew m T2 (k + 1) (done.app (.cons y l .nil)) = (wtNew m T2 k done).app (.cons T2.1 T2.2 .nil) := by rw [HKM.out]; exact HNEW.out
              exact ⟨k + 1, done.app (.cons y l .nil), r, _, ps', by go_num, by rw [Fr.len_app, HK1.out]; rfl, by rw [HKS.out, Fr.app_cons], (HN.out.keep (fun _ h => h) fun p hp => by
                have h1 := HBEL.out _ hp
                exact (hb'.block _ h1).trans (HBW.out.block _ h1).symm), by rw [HNW]; exact ho', by rw [HNW]; exact hp', hn', hb', hv1, hv2⟩
            case measure => simp [intOf]; omega
          · have hpcz : (1 : Int) < (pc : Int) := by omega
            have hsp : Sp wr C (.slice (some ⟨pb, po + 1, none⟩) p.length (pc - 1)) p := Sp.tail (w := wr) (b := pb) (o := po) (i := (m : Int)) (fun j u hu => by
              obtain ⟨b', o', h1, h2, h3⟩ := HP.out j u hu
              exact ⟨b', o', h1, h2, (HBW.out.cell (p := ⟨b', o' + j, none⟩) (Nat.lt_of_lt_of_le h2 hC)).trans h3⟩) (by omega) (fun _ => rfl)
            have hcI := hcI _ sv (fun q' h => by have := HBEL.out q' h; omega) (by rw [HT.out]; exact HU1.out) (HS.out.keep (fun _ h => h) fun p hp => HBW.out.block _ (HBEL.out _ hp)) hsp (by omega)
            clear hsp
            go_wp2_with fail
            refine hcI.mono ?_
            rintro e w2 ⟨v2, rfl, hv2, hb2⟩
            obtain ⟨q2, o2, rfl⟩ := hv2.ptr
            have hs2 := hb2.size
            have HOWN2 := Lib.hid (own_below HOWN.out hb2)
            have hpt2 : PtF w2 (Sk Sq H w2 vk) ps (wtNew m T2 k done) := HPT.out.keep (by
              rintro q' (h | ⟨h1, h2, h3⟩)
              · exact .inl h
              · exact .inr ⟨h1, by omega, h3⟩) fun pp hp => hb2.block _ (by
              rcases hp with h | h
              · have := HBEL.out _ h; omega
              · exact h.2.1)
            have hu2 : InT w2 (Sk Sq H w2 vk) (.pointer (some ⟨q2, o2, none⟩)) T2 := hv2.keep (by
              rintro q' (h | ⟨h1, h2⟩)
              · exact .inl h
              · refine .inr ⟨by omega, h2, fun he => ?_⟩
                have := (HOWN.out.lt q' he).2
                omega) fun _ _ => rfl
            have HPT2 := Lib.hid hpt2
            have HU2 := Lib.hid hu2
            have HNB2 := Lib.hid (show Nb w2 H x vk from heap_below HNB.out hb2)
            have HBW2 := Lib.hid (HBW.out.trans (hb2.mono (by omega)))
            have HB2 := Lib.hid hb2
            have cn := HNB2.out.cell.1
            have cf := HNB2.out.cell.2
            clear hv2 hb2 hpt2 hu2
            go_wp2_with (at_builtin; (refine wpList_append_own_at _ rfl _ _ 45 rfl (H + 1) 25 i0 (.pointer none) 1 8 Tryd.underlying45 hi hz0 hz1 hz2 rfl (by decide) vk k ps rfl (HOWN2.out.alloc _) ⟨w2.heap.size, 0, none⟩ 1 1 [.pointer (some ⟨q2, o2, none⟩)] rfl rfl (cell_one_new _ _ _) (fun x hx => by simp at hx; subst hx; rfl) (by unfold maxLen; omega) (by omega) (by simp; omega) ?_); intro v' w4 hown4 hgrow4 _ hat4; have HOWN4 := Lib.hid hown4; have HG4 := Lib.hid hgrow4; have HAT4 := Lib.hid hat4; have hn4 := (HNB2.out.far HG4.out HVH.out); have hc4 := hn4.cell.1; have hf4 := hn4.cell.2; obtain ⟨g4, cap4, hv4, _, _⟩ := hown4.form (by omega); subst hv4; clear hown4 hgrow4 hat4 hn4)
            have hmore := kid_more (w := w) (t := T2) HBEL.out HBW2.out HNB2.out HPT2.out HVH.out HU2.out (by rw [HLEN.out]; exact HOWN4.out) HG4.out (by have := HAT4.out; simpa using this) HVL.out
            have HMORE := Lib.hid hmore
            clear hmore
            go_roundw
            case rel =>
              obtain ⟨⟨ps', ho', hp'⟩, hn', hb', hv1, hv2⟩ := HMORE.out
              have HNW : wtNew m T2 (k + 1) (done.app (.cons y l .nil)) = (wtNew m T2 k done).app (.cons T2.1 T2.2 .nil) := by rw [HKM.out]; exact HNEW.out
              exact ⟨k + 1, done.app (.cons y l .nil), r, _, ps', by go_num, by rw [Fr.len_app, HK1.out]; rfl, by rw [HKS.out, Fr.app_cons], (HN.out.keep (fun _ h => h) fun p hp => by
                have h1 := HBEL.out _ hp
                exact (hb'.block _ h1).trans (HBW.out.block _ h1).symm), by rw [HNW]; exact ho', by rw [HNW]; exact hp', hn', hb', hv1, hv2⟩
            case measure => simp [intOf]; omega
        · have hkmz : ((k : Int) == (m : Int)) = false := by rw [beq_eq_false_iff_ne]; omega
          have HNB2 := Lib.hid HNB.out
          have HNEW := Lib.hid (wtNew_other (m := m) (T := T2) (x := y) (l := l) hk hkm)
          have cn := HNB.out.cell.1
          have cf := HNB.out.cell.2
          clear hks hk hl
          go_wp2_with (at_builtin; (refine wpList_append_own_at _ rfl _ _ 45 rfl (H + 1) 25 i0 (.pointer none) 1 8 Tryd.underlying45 hi hz0 hz1 hz2 rfl (by decide) vk k ps rfl (HOWN.out.alloc _) ⟨wr.heap.size, 0, none⟩ 1 1 [.pointer (some ⟨q1, o1, none⟩)] rfl rfl (cell_one_new _ _ _) (fun x hx => by simp at hx; subst hx; rfl) (by unfold maxLen; omega) (by omega) (by simp; omega) ?_); intro v' w4 hown4 hgrow4 _ hat4; have HOWN4 := Lib.hid hown4; have HG4 := Lib.hid hgrow4; have HAT4 := Lib.hid hat4; have hn4 := (HNB2.out.far HG4.out HVH.out); have hc4 := hn4.cell.1; have hf4 := hn4.cell.2; obtain ⟨g4, cap4, hv4, _, _⟩ := hown4.form (by omega); subst hv4; clear hown4 hgrow4 hat4 hn4)
          have hmore := kid_more (w := w) (t := (y, l)) HBEL.out HBW.out HNB.out HPT.out HVH.out (HU1.out.keep (fun _ h => .inl h) fun _ _ => rfl) (by rw [HLEN.out]; exact HOWN4.out) HG4.out (by have := HAT4.out; simpa using this) HVL.out
          have HMORE := Lib.hid hmore
          clear hmore
          go_roundw
          case rel =>
            obtain ⟨⟨ps', ho', hp'⟩, hn', hb', hv1, hv2⟩ := HMORE.out
            exact ⟨k + 1, done.app (.cons y l .nil), r, _, ps', by go_num, by rw [Fr.len_app, HK1.out]; rfl, by rw [HKS.out, Fr.app_cons], (HN.out.keep (fun _ h => h) fun p hp => by
              have h1 := HBEL.out _ hp
              exact (hb'.block _ h1).trans (HBW.out.block _ h1).symm), by rw [HNEW.out]; exact ho', by rw [HNEW.out]; exact hp', hn', hb', hv1, hv2⟩
          case measure => simp [intOf]; omega
      · have h0 : rest = .nil := by
          cases rest with
          | nil => rfl
          | cons y l r => exact absurd (Nat.succ_pos _) hlt
        subst h0
        have hkN : N = k := by rw [hl, hk]; rfl
        have hkz : ¬ (k : Int) < (N : Int) := by omega
        have HFIN : Hid (wtNew m T2 k done = ks.set m T2) := Lib.hid (by
          rw [HKS.out, Fr.app_nil]
          unfold wtNew
          rw [if_neg (by omega)])
        have HLT := Lib.hid (fun g he => (HOWN.out.lt g he).2)
        clear hks hk hl hkid hkN
        go_wp2_with fail
        go_ret
        have hpt := HPT.out
        have hown := HOWN.out
        rw [← HLEN.out] at hown
        have hw : Sin Sq w wr H := .inr ⟨by rw [HH.out]; exact Nat.le_refl _, hHr⟩
        have := OwnT.tree (x := x) (b := H) ⟨ps, hown, hpt.keep (S' := Sin Sq w wr) (by
          rintro q' (h | ⟨h1, h2, h3⟩)
          · exact .inl h
          · exact .inr ⟨by rw [HH.out]; omega, h2⟩) fun _ _ => rfl⟩ HNB.out hw (fun g he => .inr ⟨by have := HVL.out g he; rw [HH.out]; omega, HLT.out g he⟩)
        rw [HFIN.out, ← HRES.out] at this
        exact wi_ret this (by rw [HH.out]; exact HBW.out)
end Go.Proofs.YtofgniceilbpaaaDoor
namespace Go.Proofs.YtofgniceilbpaaaDoor
open Go.RowKit

def TePost (S : Nat → Prop) (o : Option Tr) (z : Int) (W : World) (e : Ending) (w' : World) : Prop := ∃ v, e = .returned (.tuple #[v, .int .i64 z]) ∧ InO w' (Sin S W w') v o ∧ Below W.heap.size W w'
end Go.Proofs.YtofgniceilbpaaaDoor
namespace Go.Proofs.YtofgniceilbpaaaDoor
open Go.RowKit

def CelAt (w : World) (B b o : Nat) (c : Cel) : Prop :=
  w.cell? ⟨b, o, none⟩ = some (.int .i64 c.x.k) ∧ w.cell? ⟨b, o + 1, none⟩ = some (.int .i64 c.x.n) ∧ w.cell? ⟨b, o + 2, none⟩ = some (.string c.x.a) ∧ w.cell? ⟨b, o + 3, none⟩ = some (.string c.x.m) ∧
    ∃ kv, w.cell? ⟨b, o + 4, none⟩ = some kv ∧ Sp w B kv c.ks
def Cls (w : World) (B : Nat) (v : Value) (cs : List Cel) : Prop :=
  ∃ A c, v = .slice A cs.length c ∧ cs.length ≤ c ∧ ∀ (j : Nat) (u : Cel), cs[j]? = some u → ∃ b o, A = some ⟨b, o, none⟩ ∧ b < B ∧ CelAt w B b (o + j * 5) u
theorem CelAt.keep {w w' : World} {B B' b o : Nat} {c : Cel} (h : CelAt w B b o c) (hb : b < B) (hB : B ≤ B') (hk : ∀ p : Addr, p.block < B → w'.cell? p = w.cell? p) : CelAt w' B' b o c := by
  obtain ⟨h0, h1, h2, h3, kv, h4, h5⟩ := h
  exact ⟨(hk _ hb).trans h0, (hk _ hb).trans h1, (hk _ hb).trans h2, (hk _ hb).trans h3, kv, (hk _ hb).trans h4, h5.keep hB hk⟩
theorem Cls.keep {w w' : World} {B B' : Nat} {v : Value} {cs : List Cel} (h : Cls w B v cs) (hB : B ≤ B') (hk : ∀ p : Addr, p.block < B → w'.cell? p = w.cell? p) : Cls w' B' v cs := by
  obtain ⟨A, c, hv, hc, hcl⟩ := h
  refine ⟨A, c, hv, hc, fun j u hu => ?_⟩
  obtain ⟨b, o, hA, hb, h1⟩ := hcl j u hu
  exact ⟨b, o, hA, by omega, h1.keep hb hB hk⟩
theorem Cls.below {w w' : World} {B : Nat} {v : Value} {cs : List Cel} (h : Cls w B v cs) (hb : Below B w w') : Cls w' B v cs := h.keep (Nat.le_refl _) fun _ hp => hb.cell hp
end Go.Proofs.YtofgniceilbpaaaDoor
namespace Go.Proofs.YtofgniceilbpaaaDoor
open Go.RowKit

/-! ### lists of paths -/
def Spp (w : World) (B : Nat) (v : Value) (l : List (List Int)) : Prop :=
  ∃ A c, v = .slice A l.length c ∧ l.length ≤ c ∧ ∀ (j : Nat) (u : List Int), l[j]? = some u → ∃ b o pv, A = some ⟨b, o, none⟩ ∧ b < B ∧ w.cell? ⟨b, o + j, none⟩ = some pv ∧ Sp w B pv u
theorem Spp.keep {w w' : World} {B B' : Nat} {v : Value} {l : List (List Int)} (h : Spp w B v l) (hB : B ≤ B') (hk : ∀ p : Addr, p.block < B → w'.cell? p = w.cell? p) : Spp w' B' v l := by
  obtain ⟨A, c, hv, hlc, hc⟩ := h
  refine ⟨A, c, hv, hlc, fun j u hu => ?_⟩
  obtain ⟨b, o, pv, hA, hlt, hcell, hs⟩ := hc j u hu
  exact ⟨b, o, pv, hA, by omega, (hk _ hlt).trans hcell, hs.keep hB hk⟩
theorem Sp.slice {w : World} {B : Nat} {v : Value} {l : List Int} (h : Sp w B v l) : ∃ A c, v = .slice A l.length c := by
  obtain ⟨A, c, hv, _⟩ := h
  exact ⟨A, c, hv⟩
theorem Sp.drew {w : World} {B : Nat} {v : Value} {l : List Int} (h : Sp w B v l) (q : Nat) : Sp (w.drewN q) B v l := h.keep (Nat.le_refl _) fun _ _ => rfl
end Go.Proofs.YtofgniceilbpaaaDoor
namespace Go.Proofs.YtofgniceilbpaaaDoor
open Go.RowKit

def Sl1 (w : World) (S : Nat → Prop) (v : Value) (l : List Int) : Prop :=
  (l = [] ∧ v = .slice none 0 0) ∨ ∃ b c, v = .slice (some ⟨b, 0, none⟩) l.length c ∧ l.length ≤ c ∧ 0 < l.length ∧ S b ∧ ∀ (j : Nat) (u : Int), l[j]? = some u → w.cell? ⟨b, 0 + j, none⟩ = some (.int .i64 u)
theorem Sl1.keep {w w' : World} {S S' : Nat → Prop} {v : Value} {l : List Int} (h : Sl1 w S v l) (hS : ∀ q, S q → S' q) (hk : ∀ p : Addr, S p.block → w'.cell? p = w.cell? p) : Sl1 w' S' v l := by
  rcases h with h | ⟨b, c, hv, h1, h2, h3, h4⟩
  · exact .inl h
  · exact .inr ⟨b, c, hv, h1, h2, hS b h3, fun j u hu => (hk ⟨b, 0 + j, none⟩ h3).trans (h4 j u hu)⟩
theorem Sl1.sp {w : World} {S : Nat → Prop} {B : Nat} {v : Value} {l : List Int} (h : Sl1 w S v l) (hB : Bel S B) : Sp w B v l := by
  rcases h with ⟨rfl, rfl⟩ | ⟨b, c, rfl, h1, h2, h3, h4⟩
  · exact ⟨none, 0, rfl, Nat.le_refl _, fun j u hu => by simp at hu⟩
  · exact ⟨_, c, rfl, h1, fun j u hu => ⟨b, 0, rfl, hB b h3, h4 j u hu⟩⟩
theorem Sl1.one {w : World} {S : Nat → Prop} {v : Value} {l : List Int} (h : Sl1 w S v l) : v.oneCell' = true := by
  rcases h with ⟨_, rfl⟩ | ⟨b, c, rfl, _⟩ <;> rfl
def PpF (w : World) (S : Nat → Prop) : List Value → List (List Int) → Prop
  | [], [] => True
  | v :: vs, l :: ls => Sl1 w S v l ∧ PpF w S vs ls
  | _, _ => False
theorem PpF.len {w : World} {S : Nat → Prop} : ∀ {vs : List Value} {f : List (List Int)}, PpF w S vs f → vs.length = f.length
  | [], [], _ => rfl
  | [], _ :: _, h => h.elim
  | _ :: _, [], h => h.elim
  | _ :: vs, _ :: ls, h => by simp only [List.length_cons, PpF.len (vs := vs) (f := ls) h.2]
theorem PpF.keep {w w' : World} {S S' : Nat → Prop} (hS : ∀ q, S q → S' q) (hk : ∀ p : Addr, S p.block → w'.cell? p = w.cell? p) : ∀ {vs : List Value} {f : List (List Int)}, PpF w S vs f → PpF w' S' vs f
  | [], [], _ => trivial
  | [], _ :: _, h => h.elim
  | _ :: _, [], h => h.elim
  | _ :: vs, _ :: ls, h => ⟨h.1.keep hS hk, PpF.keep hS hk (vs := vs) (f := ls) h.2⟩
theorem PpF.snoc {w : World} {S : Nat → Prop} {v : Value} {t : List Int} (hv : Sl1 w S v t) : ∀ {vs : List Value} {f : List (List Int)}, PpF w S vs f → PpF w S (vs ++ [v]) (f ++ [t])
  | [], [], _ => ⟨hv, trivial⟩
  | [], _ :: _, h => h.elim
  | _ :: _, [], h => h.elim
  | _ :: vs, _ :: ls, h => ⟨h.1, PpF.snoc hv (vs := vs) (f := ls) h.2⟩
theorem PpF.at {w : World} {S : Nat → Prop} : ∀ {vs : List Value} {f : List (List Int)} {j : Nat} {l : List Int}, PpF w S vs f → f[j]? = some l → ∃ v, vs[j]? = some v ∧ Sl1 w S v l
  | [], [], _, _, _, h => by simp at h
  | [], _ :: _, _, _, h, _ => h.elim
  | _ :: _, [], _, _, h, _ => h.elim
  | v :: vs, l' :: ls, 0, l, h, hl => by simp at hl; subst hl; exact ⟨v, rfl, h.1⟩
  | v :: vs, l' :: ls, j + 1, l, h, hl => PpF.at (vs := vs) (f := ls) h.2 hl
def So (H : Nat) (w : World) (v : Value) (q : Nat) : Prop := H ≤ q ∧ q < w.heap.size ∧ v.ownBlock ≠ some q
def OwnP (w : World) (H : Nat) (v : Value) (L : List (List Int)) : Prop := ∃ ps, w.ownsRow H 49 1 v L.length ps ∧ PpF w (So H w v) ps L
theorem OwnP.nil (w : World) (H : Nat) : OwnP w H (.slice none 0 0) [] := ⟨[], World.ownsRow_nil _ _ _ _, trivial⟩
theorem infoI : (Tryd.prog.info? 3).map (fun i => (i.zero, i.size, i.bytes)) = some (some (.int .i64 0), 1, 8) := by kernel_rfl
theorem path_more {wa w4 : World} {H : Nat} {vo v' u : Value} {L : List (List Int)} {t : List Int} {ps : List Value} {ob : Obj} (hp : PpF wa (So H wa vo) ps L) (hu : Sl1 wa (So H wa vo) u t)
    (ho : w4.ownsRow H 49 1 v' (L.length + 1) (ps ++ [u])) (hg : (wa.alloc ob).grownBy w4 vo.ownBlock) (hat : v'.ownBlock = vo.ownBlock ∨ v'.ownBlock = some (wa.heap.size + 1)) : OwnP w4 H v' (L ++ [t]) := by
  have hasz : (wa.alloc ob).heap.size = wa.heap.size + 1 := by simp
  have hs4 := hg.size
  have hk : ∀ p : Addr, So H wa vo p.block → w4.cell? p = wa.cell? p := by
    rintro p ⟨h1, h2, h3⟩
    rw [hg.cell_far p (by omega) (fun e => h3 e.symm)]
    exact ((Below.refl wa.heap.size wa).alloc (Nat.le_refl _) ob).cell h2
  have hS : ∀ q, So H wa vo q → So H w4 v' q := by
    rintro q ⟨h1, h2, h3⟩
    refine ⟨h1, by omega, ?_⟩
    rcases hat with h | h
    · rw [h]; exact h3
    · rw [h]; intro e; injection e with e; omega
  refine ⟨ps ++ [u], by rw [List.length_append]; exact ho, PpF.snoc (hu.keep hS hk) (hp.keep hS hk)⟩
theorem own_one (w : World) (i : Int) : (w.alloc (.cells #[.int .i64 i] 3)).ownsRow w.heap.size 3 1 (.slice (some ⟨w.heap.size, 0, none⟩) 1 1) 1 [.int .i64 i] :=
  ⟨rfl, .inr ⟨w.heap.size, 1, #[.int .i64 i], rfl, Nat.le_refl _, heap_alloc_new w _, Nat.le_refl _, by unfold maxLen; omega, rfl, rfl⟩⟩
end Go.Proofs.YtofgniceilbpaaaDoor
