/-
  The document's With: what it tells.
-/
import Derived.Test.YtmjdeadkekhpdaaRtC
import Derived.Test.YtmjdeadkekhpdaaOwnT
import Derived.Maps.AppendAt
import Derived.Deep.RegionHeld3
namespace Go.Proofs.Ytmjdeadkekhpdaa
open Go.RowKit

theorem infoPtr : (Try.prog.info? 26).map (fun i => (i.zero, i.size, i.bytes)) = some (some (.pointer none), 1, 8) := by kernel_rfl
theorem Sp.tail {w : World} {C : Nat} {b o c n : Nat} {i : Int} {p : List Int} (h : ∀ (j : Nat) (u : Int), (i :: p)[j]? = some u → ∃ b' o', some (⟨b, o, none⟩ : Addr) = some ⟨b', o', none⟩ ∧ b' < C ∧ w.cell? ⟨b', o' + j, none⟩ = some (.int .i64 u)) (hc : p.length ≤ c) (ho : 0 < p.length → n = o + 1) : Sp w C (.slice (some ⟨b, n, none⟩) p.length c) p := by
  refine ⟨_, c, rfl, hc, fun j u hu => ?_⟩
  obtain ⟨b', o', he, hlt, hcell⟩ := h (j + 1) u hu
  injection he with he
  injection he with h1 h2
  subst h1 h2
  have hn := ho (by have := (List.getElem?_eq_some_iff.1 hu).1; omega)
  refine ⟨b, n, rfl, hlt, ?_⟩
  rw [hn, show o + 1 + j = o + (j + 1) by omega]
  exact hcell
theorem Fr.get_app (a b : Fr) : (a.app b).get a.len = b.get 0 := by
  induction a with
  | nil => rfl
  | cons x k r _ ih => exact ih
/-- The kids that are done, the m-th one replaced. -/
def wtNew (m : Nat) (T : Tr) (k : Nat) (done : Fr) : Fr := if k ≤ m then done else done.set m T
theorem Fr.set_app {a b : Fr} {m : Nat} {T : Tr} (h : m < a.len) : (a.app b).set m T = (a.set m T).app b := by
  induction a generalizing m with
  | nil => exact absurd h (Nat.not_lt_zero _)
  | cons x k r _ ih =>
    cases m with
    | zero => rfl
    | succ m => simp only [Fr.app, Fr.set]; rw [ih (Nat.lt_of_succ_lt_succ h)]
theorem Fr.set_last {a : Fr} {x : Nod} {k : Fr} {T : Tr} : (a.app (.cons x k .nil)).set a.len T = a.app (.cons T.1 T.2 .nil) := by
  induction a with
  | nil => rfl
  | cons y l r _ ih => simp only [Fr.app, Fr.len, Fr.set]; rw [ih]
theorem wtNew_other {m k : Nat} {T : Tr} {done : Fr} {x : Nod} {l : Fr} (hk : k = done.len) (h : k ≠ m) : wtNew m T (k + 1) (done.app (.cons x l .nil)) = (wtNew m T k done).app (.cons x l .nil) := by
  unfold wtNew
  by_cases hm : k ≤ m
  · rw [if_pos hm, if_pos (by omega)]
  · rw [if_neg hm, if_neg (by omega), Fr.set_app (by omega)]
theorem wtNew_here {m : Nat} {T : Tr} {done : Fr} {x : Nod} {l : Fr} (hk : m = done.len) : wtNew m T (m + 1) (done.app (.cons x l .nil)) = (wtNew m T m done).app (.cons T.1 T.2 .nil) := by
  unfold wtNew
  rw [if_neg (by omega), if_pos (Nat.le_refl _), hk, Fr.set_last]
theorem wtNew_len {m k : Nat} {T : Tr} {done : Fr} (hk : k = done.len) : (wtNew m T k done).len = k := by
  unfold wtNew
  split
  · exact hk.symm
  · rw [Fr.len_set]; exact hk.symm
/-- The blocks of S, and those laid since. -/
def Sin (S : Nat → Prop) (W w' : World) (q : Nat) : Prop := S q ∨ (W.heap.size ≤ q ∧ q < w'.heap.size)
def WiPost (t : Tr) (S : Nat → Prop) (W : World) (e : Ending) (w' : World) : Prop := ∃ v, e = .returned v ∧ InT w' (Sin S W w') v t ∧ Below W.heap.size W w'
theorem wi_ret {t : Tr} {S : Nat → Prop} {W w' : World} {v : Value} (h : InT w' (Sin S W w') v t) (hb : Below W.heap.size W w') : WiPost t S W (.returned v) w' := ⟨v, rfl, h, hb⟩
set_option maxHeartbeats 3200000 in
set_option maxRecDepth 100000 in
theorem refWith : ∀ (p : List Int) (t s u : Tr), atT t p = some u → szT t ≤ 1000000000 → p.length ≤ 1000000 → ∀ (w : World) (Sq : Nat → Prop) (C : Nat) (v pv sv : Value), Bel Sq w.heap.size → InT w Sq v t → InT w Sq sv s → Sp w C pv p → C ≤ w.heap.size →
    Calls Try.prog 41 #[v, pv, sv] w (WiPost (withT t p s) Sq w)
  | [], t, s, u, hat, hsz, hpl, w, Sq, C, v, pv, sv, hS, ht, hs, hp, hC => by
    obtain ⟨A, c, rfl, -, -⟩ := hp
    obtain ⟨q1, p1, rfl⟩ := ht.ptr
    have HS := Lib.hid hs
    clear ht hs
    go_enter Try.func41, Try.ntmps41
    go_wp2_with fail
    go_ret
    exact ⟨sv, rfl, HS.out.keep (fun q h => .inl h) (fun _ _ => rfl), Below.refl _ _⟩
  | i :: p, (x, ks), s, u, hat, hsz, hpl, w, Sq, C, v, pv, sv, hS, ht, hs, hp, hC => by
    have ih := refWith p
    obtain ⟨q, o, A, c, rfl, hq1, c0, c1, c2, c3, c4, hc, hkid⟩ := ht.open
    obtain ⟨PA, pc, rfl, hplc, hpcl⟩ := hp
    obtain ⟨pb, po, rfl, hpb, hpcell⟩ := hpcl 0 i rfl
    have HS := Lib.hid hs
    have HP := Lib.hid hpcl
    have hqw : q < w.heap.size := hS q hq1
    clear ht hs hpcl
    go_enter Try.func41, Try.ntmps41
    go_wp2_with fail
    go_region_held3 (fun w' => w'.cell? ⟨q, o, none⟩ = some (.int .i64 x.k) ∧ w'.cell? ⟨q, o + 1, none⟩ = some (.int .i64 x.n) ∧ w'.cell? ⟨q, o + 2, none⟩ = some (.string x.a) ∧ w'.cell? ⟨q, o + 3, none⟩ = some (.string x.m)) (go_keep) (fail)
    obtain ⟨i0, hi, hz0, hz1, hz2⟩ := info_parts infoPtr
    obtain ⟨T1, hT1⟩ : ∃ T1, getZ ks i = some T1 := by
      cases hg : getZ ks i with
      | none => rw [atT_none p hg] at hat; cases hat
      | some T1 => exact ⟨T1, rfl⟩
    rw [atT_some p hT1] at hat
    have hres : withT (x, ks) (i :: p) s = (x, ks.set i.toNat (withT T1 p s)) := withT_some p s hT1
    obtain ⟨hi0, hget⟩ := getZ_some hT1
    obtain ⟨m, rfl⟩ : ∃ m : Nat, i = (m : Int) := ⟨i.toNat, by omega⟩
    rw [Int.toNat_natCast] at hget hres
    have hmN := Fr.get_lt hget
    have hsz1 : szT (x, ks) = 1 + ks.sz := rfl
    have hll := Fr.len_le ks
    have hsT1 := Fr.get_sz hget
    obtain ⟨T2, hT2⟩ : ∃ T2, withT T1 p s = T2 := ⟨_, rfl⟩
    have hcI := ih T1 s u hat (by omega) (by simp at hpl; omega)
    rw [hT2] at hcI hres
    have HRES := Lib.hid hres
    obtain ⟨H, hH⟩ : ∃ H, w.heap.size = H := ⟨_, rfl⟩
    have hb1 : Below H w ((w.alloc (.cells #[.int .i64 x.k, .int .i64 x.n, .string x.a, .string x.m, .slice none 0 0] 44)).drew) := below_drewN' ((Below.refl H w).alloc (by omega) _) 1
    have hn1 : Nb ((w.alloc (.cells #[.int .i64 x.k, .int .i64 x.n, .string x.a, .string x.m, .slice none 0 0] 44)).drew) H x (.slice none 0 0) := by rw [← hH]; exact heap_alloc_new w _
    rw [hH] at hS hqw hC ⊢
    generalize (w.alloc (.cells #[.int .i64 x.k, .int .i64 x.n, .string x.a, .string x.m, .slice none 0 0] 44)).drew = W1 at hb1 hn1 ⊢
    obtain ⟨N, hN⟩ : ∃ N, ks.len = N := ⟨_, rfl⟩
    rw [hN] at c4 hmN hll
    have hN1 : N ≤ 1000000000 := by omega
    have hbel : Bel Sq H := hS
    have HK := Lib.hid hkid
    have HNN := Lib.hid hN
    have HGET := Lib.hid hget
    have HCI := Lib.hid hcI
    have HBEL := Lib.hid hbel
    have HH := Lib.hid hH
    clear hkid hN hat hget hcI hbel hS hT1 hT2 hres hsz1 hsT1 hi0 ih hc
    go_wp2_with fail
    go_loopw [8, 9] (fun j _ wr => ∃ (k : Nat) (done rest : Fr) (vk : Value) (ps : List Value), j = .int .i64 k ∧ k = done.len ∧ ks = done.app rest ∧ Kid wr Sq A rest k ∧
      wr.ownsRow (H + 1) 26 1 vk (wtNew m T2 k done).len ps ∧ PtF wr (Sk Sq H wr vk) ps (wtNew m T2 k done) ∧ Nb wr H x vk ∧ Below H w wr ∧ vk.ownBlock ≠ some H ∧ (∀ g, vk.ownBlock = some g → H + 1 ≤ g)) (fun j _ _ => N - (intOf j).toNat)
    case atStart => exact ⟨0, .nil, ks, .slice none 0 0, [], rfl, rfl, rfl, (HK.out.keep (fun _ h => h) fun _ hp => hb1.block _ (HBEL.out _ hp)), World.ownsRow_nil _ _ _ _, by unfold wtNew; rw [if_pos (Nat.zero_le _)]; trivial, hn1, hb1, by simp [Value.ownBlock], by intro g hg; simp [Value.ownBlock] at hg⟩
    case round =>
      obtain ⟨k, done, rest, vk, ps, rfl, hk, hks, hkid, hown, hpt, hnb, hbw, hvH, hvl⟩ := hrel
      have hl : N = done.len + rest.len := by rw [← HNN.out, hks, Fr.len_app]
      have hbs := hbw.size
      rw [HH.out] at hbs
      have hlen := wtNew_len (m := m) (T := T2) hk
      rw [hlen] at hown
      have hHr : H < wr.heap.size := heap_lt hnb
      have c4r := (hbw.cell (p := ⟨q, o + 4, none⟩) hqw).trans c4
      have hpr := (hbw.cell (p := ⟨pb, po + 0, none⟩) (Nat.lt_of_lt_of_le hpb hC)).trans hpcell
      rw [Nat.add_zero] at hpr
      have HKS := Lib.hid hks
      have HOWN := Lib.hid hown
      have HPT := Lib.hid hpt
      have HNB := Lib.hid hnb
      have HBW := Lib.hid hbw
      have HVH := Lib.hid hvH
      have HVL := Lib.hid hvl
      have HLEN := Lib.hid hlen
      clear hown hpt hnb hbw hvH hvl hlen
      by_cases hlt : 0 < rest.len
      · obtain ⟨y, l, r, rfl⟩ := Fr.cut hlt
        obtain ⟨kb, ko, u1, rfl, hkb, hcell, hu1, hnext⟩ := hkid.next
        obtain ⟨q1, o1, rfl⟩ := hu1.ptr
        have hlr : (Fr.cons y l r).len = r.len + 1 := rfl
        have hkN : k < N := by omega
        have hkz : (k : Int) < (N : Int) := by omega
        have HK1 := Lib.hid hk
        have HU1 := Lib.hid hu1
        have HN := Lib.hid hnext
        clear hkid hu1 hnext hlr
        by_cases hkm : k = m
        · have hT : T1 = (y, l) := by
            have h1 := HGET.out
            rw [HKS.out, ← hkm, hk, Fr.get_app] at h1
            injection h1 with h1
            exact h1.symm
          have hkmz : ((k : Int) == (m : Int)) = true := by rw [beq_iff_eq]; omega
          have hcI := HCI.out wr Sq C (.pointer (some ⟨q1, o1, none⟩))
          have HNEW := Lib.hid (wtNew_here (m := m) (T := T2) (x := y) (l := l) (by omega : m = done.len))
          have HKM := Lib.hid hkm
          have HT := Lib.hid hT
          clear hks hk hl hT hkm
          simp only [List.length_cons] at hplc hpl
          by_cases hpc : pc = 1
          · subst hpc
            have hsp : Sp wr C (.slice (some ⟨pb, po, none⟩) 0 0) p := by
              have hp0 : p.length = 0 := by omega
              exact ⟨_, 0, by rw [hp0], by omega, fun j u hu => by have := (List.getElem?_eq_some_iff.1 hu).1; omega⟩
            have hcI := hcI _ sv (fun q' h => by have := HBEL.out q' h; omega) (by rw [HT.out]; exact HU1.out) (HS.out.keep (fun _ h => h) fun p hp => HBW.out.block _ (HBEL.out _ hp)) hsp (by omega)
            clear hsp
            go_wp2_with fail
            refine hcI.mono ?_
            rintro e w2 ⟨v2, rfl, hv2, hb2⟩
            obtain ⟨q2, o2, rfl⟩ := hv2.ptr
            have hs2 := hb2.size
            have HOWN2 := Lib.hid (own_below HOWN.out hb2)
            have hpt2 : PtF w2 (Sk Sq H w2 vk) ps (wtNew m T2 k done) := HPT.out.keep (by
              rintro q' (h | ⟨h1, h2, h3⟩)
              · exact .inl h
              · exact .inr ⟨h1, by omega, h3⟩) fun pp hp => hb2.block _ (by
              rcases hp with h | h
              · have := HBEL.out _ h; omega
              · exact h.2.1)
            have hu2 : InT w2 (Sk Sq H w2 vk) (.pointer (some ⟨q2, o2, none⟩)) T2 := hv2.keep (by
              rintro q' (h | ⟨h1, h2⟩)
              · exact .inl h
              · refine .inr ⟨by omega, h2, fun he => ?_⟩
                have := (HOWN.out.lt q' he).2
                omega) fun _ _ => rfl
            have HPT2 := Lib.hid hpt2
            have HU2 := Lib.hid hu2
            have HNB2 := Lib.hid (show Nb w2 H x vk from heap_below HNB.out hb2)
            have HBW2 := Lib.hid (HBW.out.trans (hb2.mono (by omega)))
            have HB2 := Lib.hid hb2
            have cn := HNB2.out.cell.1
            have cf := HNB2.out.cell.2
            clear hv2 hb2 hpt2 hu2
            go_wp2_with (at_builtin; (refine wpList_append_own_at _ rfl _ _ 42 rfl (H + 1) 26 i0 (.pointer none) 1 8 Try.underlying42 hi hz0 hz1 hz2 rfl (by decide) vk k ps rfl (HOWN2.out.alloc _) ⟨w2.heap.size, 0, none⟩ 1 1 [.pointer (some ⟨q2, o2, none⟩)] rfl rfl (cell_one_new _ _ _) (fun x hx => by simp at hx; subst hx; rfl) (by unfold maxLen; omega) (by omega) (by simp; omega) ?_); intro v' w4 hown4 hgrow4 _ hat4; have HOWN4 := Lib.hid hown4; have HG4 := Lib.hid hgrow4; have HAT4 := Lib.hid hat4; have hn4 := (HNB2.out.far HG4.out HVH.out); have hc4 := hn4.cell.1; have hf4 := hn4.cell.2; obtain ⟨g4, cap4, hv4, _, _⟩ := hown4.form (by omega); subst hv4; clear hown4 hgrow4 hat4 hn4)
            have hmore := kid_more (w := w) (t := T2) HBEL.out HBW2.out HNB2.out HPT2.out HVH.out HU2.out (by rw [HLEN.out]; exact HOWN4.out) HG4.out (by have := HAT4.out; simpa using this) HVL.out
            have HMORE := Lib.hid hmore
            clear hmore
            go_roundw
            case rel =>
              obtain ⟨⟨ps', ho', hp'⟩, hn', hb', hv1, hv2⟩ := HMORE.out
              have HNW : wtNew m T2 (k + 1) (done.app (.cons y l .nil)) = (wtNew m T2 k done).app (.cons T2.1 T2.2 .nil) := by rw [HKM.out]; exact HNEW.out
              exact ⟨k + 1, done.app (.cons y l .nil), r, _, ps', by go_num, by rw [Fr.len_app, HK1.out]; rfl, by rw [HKS.out, Fr.app_cons], (HN.out.keep (fun _ h => h) fun p hp => by
                have h1 := HBEL.out _ hp
                exact (hb'.block _ h1).trans (HBW.out.block _ h1).symm), by rw [HNW]; exact ho', by rw [HNW]; exact hp', hn', hb', hv1, hv2⟩
            case measure => simp [intOf]; omega
          · have hpcz : (1 : Int) < (pc : Int) := by omega
            have hsp : Sp wr C (.slice (some ⟨pb, po + 1, none⟩) p.length (pc - 1)) p := Sp.tail (w := wr) (b := pb) (o := po) (i := (m : Int)) (fun j u hu => by
              obtain ⟨b', o', h1, h2, h3⟩ := HP.out j u hu
              exact ⟨b', o', h1, h2, (HBW.out.cell (p := ⟨b', o' + j, none⟩) (Nat.lt_of_lt_of_le h2 hC)).trans h3⟩) (by omega) (fun _ => rfl)
            have hcI := hcI _ sv (fun q' h => by have := HBEL.out q' h; omega) (by rw [HT.out]; exact HU1.out) (HS.out.keep (fun _ h => h) fun p hp => HBW.out.block _ (HBEL.out _ hp)) hsp (by omega)
            clear hsp
            go_wp2_with fail
            refine hcI.mono ?_
            rintro e w2 ⟨v2, rfl, hv2, hb2⟩
            obtain ⟨q2, o2, rfl⟩ := hv2.ptr
            have hs2 := hb2.size
            have HOWN2 := Lib.hid (own_below HOWN.out hb2)
            have hpt2 : PtF w2 (Sk Sq H w2 vk) ps (wtNew m T2 k done) := HPT.out.keep (by
              rintro q' (h | ⟨h1, h2, h3⟩)
              · exact .inl h
              · exact .inr ⟨h1, by omega, h3⟩) fun pp hp => hb2.block _ (by
              rcases hp with h | h
              · have := HBEL.out _ h; omega
              · exact h.2.1)
            have hu2 : InT w2 (Sk Sq H w2 vk) (.pointer (some ⟨q2, o2, none⟩)) T2 := hv2.keep (by
              rintro q' (h | ⟨h1, h2⟩)
              · exact .inl h
              · refine .inr ⟨by omega, h2, fun he => ?_⟩
                have := (HOWN.out.lt q' he).2
                omega) fun _ _ => rfl
            have HPT2 := Lib.hid hpt2
            have HU2 := Lib.hid hu2
            have HNB2 := Lib.hid (show Nb w2 H x vk from heap_below HNB.out hb2)
            have HBW2 := Lib.hid (HBW.out.trans (hb2.mono (by omega)))
            have HB2 := Lib.hid hb2
            have cn := HNB2.out.cell.1
            have cf := HNB2.out.cell.2
            clear hv2 hb2 hpt2 hu2
            go_wp2_with (at_builtin; (refine wpList_append_own_at _ rfl _ _ 42 rfl (H + 1) 26 i0 (.pointer none) 1 8 Try.underlying42 hi hz0 hz1 hz2 rfl (by decide) vk k ps rfl (HOWN2.out.alloc _) ⟨w2.heap.size, 0, none⟩ 1 1 [.pointer (some ⟨q2, o2, none⟩)] rfl rfl (cell_one_new _ _ _) (fun x hx => by simp at hx; subst hx; rfl) (by unfold maxLen; omega) (by omega) (by simp; omega) ?_); intro v' w4 hown4 hgrow4 _ hat4; have HOWN4 := Lib.hid hown4; have HG4 := Lib.hid hgrow4; have HAT4 := Lib.hid hat4; have hn4 := (HNB2.out.far HG4.out HVH.out); have hc4 := hn4.cell.1; have hf4 := hn4.cell.2; obtain ⟨g4, cap4, hv4, _, _⟩ := hown4.form (by omega); subst hv4; clear hown4 hgrow4 hat4 hn4)
            have hmore := kid_more (w := w) (t := T2) HBEL.out HBW2.out HNB2.out HPT2.out HVH.out HU2.out (by rw [HLEN.out]; exact HOWN4.out) HG4.out (by have := HAT4.out; simpa using this) HVL.out
            have HMORE := Lib.hid hmore
            clear hmore
            go_roundw
            case rel =>
              obtain ⟨⟨ps', ho', hp'⟩, hn', hb', hv1, hv2⟩ := HMORE.out
              have HNW : wtNew m T2 (k + 1) (done.app (.cons y l .nil)) = (wtNew m T2 k done).app (.cons T2.1 T2.2 .nil) := by rw [HKM.out]; exact HNEW.out
              exact ⟨k + 1, done.app (.cons y l .nil), r, _, ps', by go_num, by rw [Fr.len_app, HK1.out]; rfl, by rw [HKS.out, Fr.app_cons], (HN.out.keep (fun _ h => h) fun p hp => by
                have h1 := HBEL.out _ hp
                exact (hb'.block _ h1).trans (HBW.out.block _ h1).symm), by rw [HNW]; exact ho', by rw [HNW]; exact hp', hn', hb', hv1, hv2⟩
            case measure => simp [intOf]; omega
        · have hkmz : ((k : Int) == (m : Int)) = false := by rw [beq_eq_false_iff_ne]; omega
          have HNB2 := Lib.hid HNB.out
          have HNEW := Lib.hid (wtNew_other (m := m) (T := T2) (x := y) (l := l) hk hkm)
          have cn := HNB.out.cell.1
          have cf := HNB.out.cell.2
          clear hks hk hl
          go_wp2_with (at_builtin; (refine wpList_append_own_at _ rfl _ _ 42 rfl (H + 1) 26 i0 (.pointer none) 1 8 Try.underlying42 hi hz0 hz1 hz2 rfl (by decide) vk k ps rfl (HOWN.out.alloc _) ⟨wr.heap.size, 0, none⟩ 1 1 [.pointer (some ⟨q1, o1, none⟩)] rfl rfl (cell_one_new _ _ _) (fun x hx => by simp at hx; subst hx; rfl) (by unfold maxLen; omega) (by omega) (by simp; omega) ?_); intro v' w4 hown4 hgrow4 _ hat4; have HOWN4 := Lib.hid hown4; have HG4 := Lib.hid hgrow4; have HAT4 := Lib.hid hat4; have hn4 := (HNB2.out.far HG4.out HVH.out); have hc4 := hn4.cell.1; have hf4 := hn4.cell.2; obtain ⟨g4, cap4, hv4, _, _⟩ := hown4.form (by omega); subst hv4; clear hown4 hgrow4 hat4 hn4)
          have hmore := kid_more (w := w) (t := (y, l)) HBEL.out HBW.out HNB.out HPT.out HVH.out (HU1.out.keep (fun _ h => .inl h) fun _ _ => rfl) (by rw [HLEN.out]; exact HOWN4.out) HG4.out (by have := HAT4.out; simpa using this) HVL.out
          have HMORE := Lib.hid hmore
          clear hmore
          go_roundw
          case rel =>
            obtain ⟨⟨ps', ho', hp'⟩, hn', hb', hv1, hv2⟩ := HMORE.out
            exact ⟨k + 1, done.app (.cons y l .nil), r, _, ps', by go_num, by rw [Fr.len_app, HK1.out]; rfl, by rw [HKS.out, Fr.app_cons], (HN.out.keep (fun _ h => h) fun p hp => by
              have h1 := HBEL.out _ hp
              exact (hb'.block _ h1).trans (HBW.out.block _ h1).symm), by rw [HNEW.out]; exact ho', by rw [HNEW.out]; exact hp', hn', hb', hv1, hv2⟩
          case measure => simp [intOf]; omega
      · have h0 : rest = .nil := by
          cases rest with
          | nil => rfl
          | cons y l r => exact absurd (Nat.succ_pos _) hlt
        subst h0
        have hkN : N = k := by rw [hl, hk]; rfl
        have hkz : ¬ (k : Int) < (N : Int) := by omega
        have HFIN : Hid (wtNew m T2 k done = ks.set m T2) := Lib.hid (by
          rw [HKS.out, Fr.app_nil]
          unfold wtNew
          rw [if_neg (by omega)])
        have HLT := Lib.hid (fun g he => (HOWN.out.lt g he).2)
        clear hks hk hl hkid hkN
        go_wp2_with fail
        go_ret
        have hpt := HPT.out
        have hown := HOWN.out
        rw [← HLEN.out] at hown
        have hw : Sin Sq w wr H := .inr ⟨by rw [HH.out]; exact Nat.le_refl _, hHr⟩
        have := OwnT.tree (x := x) (b := H) ⟨ps, hown, hpt.keep (S' := Sin Sq w wr) (by
          rintro q' (h | ⟨h1, h2, h3⟩)
          · exact .inl h
          · exact .inr ⟨by rw [HH.out]; omega, h2⟩) fun _ _ => rfl⟩ HNB.out hw (fun g he => .inr ⟨by have := HVL.out g he; rw [HH.out]; omega, HLT.out g he⟩)
        rw [HFIN.out, ← HRES.out] at this
        exact wi_ret this (by rw [HH.out]; exact HBW.out)
end Go.Proofs.Ytmjdeadkekhpdaa
