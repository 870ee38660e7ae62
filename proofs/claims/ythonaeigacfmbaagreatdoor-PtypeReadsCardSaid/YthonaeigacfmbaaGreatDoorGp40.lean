/-
  The laws PtypeReads and PtypeBack.
-/
import Derived.Test.YthonaeigacfmbaaGreatDoorGp39
namespace Go.Proofs.YthonaeigacfmbaaGreatDoor
open Go.RowKit

theorem typ_sz {nk lg : ByteArray → Bool} {l : List Tk} {i : Int} {t : Tr} {j : Nat} (h : typZ nk lg l i = .inl (t, j)) : szT t ≤ l.length ∧ j ≤ l.length ∧ isT nk lg t 1 = true := by
  unfold typZ at h
  split at h
  · cases h
  · have h2 := typL_form h
    have h3 := typL_le (nk := nk) (lg := lg) l i.toNat (by omega)
    rw [h] at h3
    have h4 : j ≤ l.length := h3.1
    exact ⟨by omega, h4, h2.1⟩
set_option maxHeartbeats 12800000 in
set_option maxRecDepth 100000 in
theorem lawReads (s : ByteArray) (w : World) (hx : Vx w) (hs : s.size ≤ 9223372036854775807) :
    Calls Tryz.prog 4 #[.string s] w (BoP true w) := by
  have HX := Lib.hid hx
  clear hx
  by_cases h : s.size ≤ 300
  · have hz : (s.size : Int) ≤ 300 := by omega
    have hm : min (s.size : Int) 300 = (s.size : Int) := by omega
    have hzs : s.size ≤ 16384 := by omega
    go_enter Tryz.func4, Tryz.ntmps4
    go_wp2_with fail
    obtain ⟨l, a, b, hr⟩ : ∃ l a b, B.lexR s = (l, a, b) := ⟨_, _, _, rfl⟩
    obtain ⟨hl, hlz⟩ := lexR_few (s := s) (by omega) hr
    have cL := B.lex_ref s (by omega) w
    rw [hr] at cL
    have HL := Lib.hid hl
    have HLZ := Lib.hid hlz
    clear hr hl hlz
    refine Calls.mono cL ?_
    rintro e w1 ⟨v, rfl, ht, hb1⟩
    have ht := tkm_of ht
    have hlm : (l.map tkq).length ≤ 100000 := by rw [List.length_map]; have := HL.out; omega
    have U1 : Hid (Up w w1) := Lib.hid hb1
    by_cases hb : b = 0
    · subst hb
      have cT := pType (l.map tkq) 0 hlm HLZ.out w1 v ht (HX.out.up U1.out).nx (HX.out.up U1.out).pl
      have HT := Lib.hid ht
      have HLM := Lib.hid hlm
      clear ht hb1 hlm cL
      go_wp2_with fail
      refine cT.mono ?_
      rintro e w2 ⟨v2, j2, e2, rfl, hv2, u2⟩
      have cR := refType (l.map tkq) 0 (by have := HLM.out; omega) HLZ.out w2 v (HT.out.up u2)
      have HV2 := Lib.hid hv2
      have U2 := Lib.hid (U1.out.trans u2)
      clear u2 hv2 cT
      go_wp2_with fail
      refine cR.mono ?_
      rintro e w3 ⟨v3, j3, e3, rfl, hv3, u3⟩
      have U3 := Lib.hid (U2.out.trans u3)
      have hv2 := HV2.out
      cases hR : typZ B.nck B.long (l.map tkq) 0 with
      | inr x =>
        rw [hR] at hv2 hv3
        obtain ⟨rfl, rfl, rfl⟩ := hv2
        obtain ⟨rfl, rfl, rfl⟩ := hv3
        have cS := rSame none none (W := w3) (w := w3) (v := .pointer none) (v' := .pointer none) rfl rfl (by show (0 : Nat) ≤ 65536; omega) true (by simp) (Up.refl _)
        clear u3 hR cR
        go_wp2_with fail
        refine cS.mono ?_
        rintro e w4 ⟨rfl, u4⟩
        have cW := works6 HX.out (U3.out.trans u4)
        clear u4 cS
        go_wp2_with fail
        refine cW.mono ?_
        rintro e w5 ⟨rfl, u5⟩
        go_wp2_with fail
        go_ret
        exact bop_ret rfl u5
      | inl x =>
        obtain ⟨t, q⟩ := x
        have hts := (typ_sz hR).1
        rw [List.length_map] at hts
        rw [hR] at hv2 hv3
        obtain ⟨n2, rfl, rfl⟩ := hv2
        obtain ⟨n3, rfl, rfl⟩ := hv3
        have cS := rSame (some t) (some t) (n2.has.up u3) n3.has (by show szT t ≤ 65536; have := HL.out; omega) true (by simp) (Up.refl _)
        clear u3 hR cR n2 n3 hts
        go_wp2_with fail
        refine cS.mono ?_
        rintro e w4 ⟨rfl, u4⟩
        have cW := works6 HX.out (U3.out.trans u4)
        clear u4 cS
        go_wp2_with fail
        refine cW.mono ?_
        rintro e w5 ⟨rfl, u5⟩
        go_wp2_with fail
        go_ret
        exact bop_ret rfl u5
    · have hb9 : (b != 0) = true := by rw [bne_iff_ne]; exact hb
      have cW := works6 HX.out U1.out
      clear ht hb1 hlm cL hb
      go_wp2_with fail
      refine cW.mono ?_
      rintro e w5 ⟨rfl, u5⟩
      go_wp2_with fail
      go_ret
      exact bop_ret rfl u5
  · have hz : ¬ (s.size : Int) ≤ 300 := by omega
    have hz2 : (300 : Int) ≤ (s.size : Int) := by omega
    have hm : min (s.size : Int) 300 = 300 := by omega
    have hzs : (s.extract 0 300).size ≤ 300 := by rw [Lib.size_eq, Lib.extract_data, List.length_take]; omega
    go_enter Tryz.func4, Tryz.ntmps4
    go_wp2_with fail
    obtain ⟨X, hX⟩ : ∃ X, s.extract 0 300 = X := ⟨_, rfl⟩
    rw [hX] at hzs ⊢
    clear hX
    obtain ⟨l, a, b, hr⟩ : ∃ l a b, B.lexR X = (l, a, b) := ⟨_, _, _, rfl⟩
    obtain ⟨hl, hlz⟩ := lexR_few (s := X) (by omega) hr
    have cL := B.lex_ref X (by omega) w
    rw [hr] at cL
    have HL := Lib.hid hl
    have HLZ := Lib.hid hlz
    clear hr hl hlz
    refine Calls.mono cL ?_
    rintro e w1 ⟨v, rfl, ht, hb1⟩
    have ht := tkm_of ht
    have hlm : (l.map tkq).length ≤ 100000 := by rw [List.length_map]; have := HL.out; omega
    have U1 : Hid (Up w w1) := Lib.hid hb1
    by_cases hb : b = 0
    · subst hb
      have cT := pType (l.map tkq) 0 hlm HLZ.out w1 v ht (HX.out.up U1.out).nx (HX.out.up U1.out).pl
      have HT := Lib.hid ht
      have HLM := Lib.hid hlm
      clear ht hb1 hlm cL
      go_wp2_with fail
      refine cT.mono ?_
      rintro e w2 ⟨v2, j2, e2, rfl, hv2, u2⟩
      have cR := refType (l.map tkq) 0 (by have := HLM.out; omega) HLZ.out w2 v (HT.out.up u2)
      have HV2 := Lib.hid hv2
      have U2 := Lib.hid (U1.out.trans u2)
      clear u2 hv2 cT
      go_wp2_with fail
      refine cR.mono ?_
      rintro e w3 ⟨v3, j3, e3, rfl, hv3, u3⟩
      have U3 := Lib.hid (U2.out.trans u3)
      have hv2 := HV2.out
      cases hR : typZ B.nck B.long (l.map tkq) 0 with
      | inr x =>
        rw [hR] at hv2 hv3
        obtain ⟨rfl, rfl, rfl⟩ := hv2
        obtain ⟨rfl, rfl, rfl⟩ := hv3
        have cS := rSame none none (W := w3) (w := w3) (v := .pointer none) (v' := .pointer none) rfl rfl (by show (0 : Nat) ≤ 65536; omega) true (by simp) (Up.refl _)
        clear u3 hR cR
        go_wp2_with fail
        refine cS.mono ?_
        rintro e w4 ⟨rfl, u4⟩
        have cW := works6 HX.out (U3.out.trans u4)
        clear u4 cS
        go_wp2_with fail
        refine cW.mono ?_
        rintro e w5 ⟨rfl, u5⟩
        go_wp2_with fail
        go_ret
        exact bop_ret rfl u5
      | inl x =>
        obtain ⟨t, q⟩ := x
        have hts := (typ_sz hR).1
        rw [List.length_map] at hts
        rw [hR] at hv2 hv3
        obtain ⟨n2, rfl, rfl⟩ := hv2
        obtain ⟨n3, rfl, rfl⟩ := hv3
        have cS := rSame (some t) (some t) (n2.has.up u3) n3.has (by show szT t ≤ 65536; have := HL.out; omega) true (by simp) (Up.refl _)
        clear u3 hR cR n2 n3 hts
        go_wp2_with fail
        refine cS.mono ?_
        rintro e w4 ⟨rfl, u4⟩
        have cW := works6 HX.out (U3.out.trans u4)
        clear u4 cS
        go_wp2_with fail
        refine cW.mono ?_
        rintro e w5 ⟨rfl, u5⟩
        go_wp2_with fail
        go_ret
        exact bop_ret rfl u5
    · have hb9 : (b != 0) = true := by rw [bne_iff_ne]; exact hb
      have cW := works6 HX.out U1.out
      clear ht hb1 hlm cL hb
      go_wp2_with fail
      refine cW.mono ?_
      rintro e w5 ⟨rfl, u5⟩
      go_wp2_with fail
      go_ret
      exact bop_ret rfl u5
end Go.Proofs.YthonaeigacfmbaaGreatDoor
namespace Go.Proofs.YthonaeigacfmbaaGreatDoor
open Go.RowKit

def rc4 (t : B.RTok) : List Value := [.int .i64 t.k, .string t.s, .int .i64 t.n, .int .i64 t.a]
def Tkr (w : World) (v : Value) (l : List B.RTok) : Prop := ∃ A c, v = .slice A l.length c ∧ ∀ (j : Nat) t, l[j]? = some t → ∃ b o, A = some ⟨b, o, none⟩ ∧ b < w.heap.size ∧ w.cell? ⟨b, o + j * 4, none⟩ = some (.int .i64 t.k) ∧ w.cell? ⟨b, o + j * 4 + 1, none⟩ = some (.string t.s) ∧ w.cell? ⟨b, o + j * 4 + 2, none⟩ = some (.int .i64 t.n) ∧ w.cell? ⟨b, o + j * 4 + 3, none⟩ = some (.int .i64 t.a)
theorem spot_none {w : World} {a : Addr} {v : Value} (h : w.cell? a = some v) : a.spot = none := by
  unfold World.cell? at h
  cases hs : a.spot with
  | none => rfl
  | some z =>
    rw [hs] at h
    cases hh : w.heap[a.block]? with
    | none => rw [hh] at h; cases h
    | some ob => rw [hh] at h; cases ob <;> simp at h
theorem tkr_of {w : World} {v : Value} {l : List B.RTok} (h : B.RTks w w.heap.size v l) : Tkr w v l := by
  obtain ⟨A, c, hv, hc⟩ := h
  refine ⟨A, c, hv, fun j t ht => ?_⟩
  obtain ⟨ad, hA, hlt, h0, h1, h2, h3⟩ := hc j t ht
  have hj : j < l.length := (List.getElem?_eq_some_iff.1 ht).1
  obtain ⟨x0, hx0⟩ : ∃ x0, l[0]? = some x0 := ⟨_, List.getElem?_eq_getElem (by omega)⟩
  obtain ⟨ad0, hA0, _, k0, -⟩ := hc 0 x0 hx0
  have e0 : ad0 = ad := by rw [hA] at hA0; exact (Option.some.inj hA0).symm
  subst e0
  have hsp : ad0.spot = none := by
    have e : ad0.add (0 * 4) = ad0 := by simp [Addr.add]
    rw [e] at k0
    exact spot_none k0
  have ha : ad0.add (j * 4) = ⟨ad0.block, ad0.off + j * 4, none⟩ := by
    unfold Addr.add
    split
    · rename_i hi
      rw [hi, ← hsp]
      rfl
    · rfl
  rw [ha] at h0 h1 h2 h3
  exact ⟨ad0.block, ad0.off, by rw [hA, ← hsp], hlt, h0, h1, h2, h3⟩
theorem Tkr.up {W w : World} {v : Value} {l : List B.RTok} (h : Tkr W v l) (u : Up W w) : Tkr w v l := by
  obtain ⟨A, c, hv, hc⟩ := h
  refine ⟨A, c, hv, fun j t ht => ?_⟩
  obtain ⟨b, o, h1, h2, h3, h4, h5, h6⟩ := hc j t ht
  exact ⟨b, o, h1, Nat.lt_of_lt_of_le h2 u.size, u.cell h3, u.cell h4, u.cell h5, u.cell h6⟩
def cut140 (s : ByteArray) : ByteArray := s.extract 0 (min s.size 140)
theorem cut140_le (s : ByteArray) : (cut140 s).size ≤ 140 := by
  unfold cut140
  rw [Lib.size_eq, Lib.extract_data, List.length_take]
  omega
def cutR (t : B.RTok) : B.RTok := ⟨t.k, cut140 t.s, t.n, t.a⟩
def tkR (t : B.RTok) : Tk := ⟨t.k, t.s⟩
def fewR (l : List B.RTok) : List B.RTok := (l.take 80).map cutR
def fewT (l : List B.RTok) : List Tk := (fewR l).map tkR
theorem fewR_len (l : List B.RTok) : (fewR l).length ≤ 80 := by unfold fewR; rw [List.length_map, List.length_take]; omega
theorem fewT_len (l : List B.RTok) : (fewT l).length ≤ 80 := by unfold fewT; rw [List.length_map]; exact fewR_len l
theorem fewT_sz (l : List B.RTok) : ∀ t ∈ fewT l, t.s.size ≤ 140 := by
  intro t ht
  obtain ⟨x, hx, rfl⟩ := List.mem_map.1 ht
  obtain ⟨y, _, rfl⟩ := List.mem_map.1 hx
  exact cut140_le _
def fl4 (l : List B.RTok) : List Value := l.flatMap rc4
theorem fl4_len (l : List B.RTok) : (fl4 l).length = l.length * 4 := by
  induction l with
  | nil => rfl
  | cons t r ih => show (rc4 t ++ fl4 r).length = (r.length + 1) * 4; rw [List.length_append, ih]; show 4 + _ = _; omega
theorem fl4_app (a b : List B.RTok) : fl4 (a ++ b) = fl4 a ++ fl4 b := List.flatMap_append
theorem fl4_at : ∀ {l : List B.RTok} {j : Nat} {t : B.RTok}, l[j]? = some t → ∀ i u, (rc4 t)[i]? = some u → (fl4 l)[j * 4 + i]? = some u
  | [], _, _, h, _, _, _ => by cases h
  | x :: r, 0, t, h, i, u, hu => by
    have h : x = t := Option.some.inj h
    subst h
    show (rc4 x ++ fl4 r)[0 * 4 + i]? = some u
    rw [Nat.zero_mul, Nat.zero_add, List.getElem?_append_left (List.getElem?_eq_some_iff.1 hu).1]
    exact hu
  | x :: r, j + 1, t, h, i, u, hu => by
    show (rc4 x ++ fl4 r)[(j + 1) * 4 + i]? = some u
    have e : (j + 1) * 4 + i = (rc4 x).length + (j * 4 + i) := by show _ = 4 + _; omega
    rw [e, List.getElem?_append_right (by omega), Nat.add_sub_cancel_left]
    exact fl4_at (l := r) (j := j) h i u hu
theorem tkr_own {w : World} {B0 : Nat} {v : Value} {n : Nat} {l : List B.RTok} (h : w.ownsRow B0 63 4 v n (fl4 l)) (hn : l.length = n) : Tkr w v l := by
  subst hn
  rcases h.2 with ⟨hv, h0⟩ | ⟨g, cap, cur, hv, hbg, hh, hc, _⟩
  · exact ⟨none, 0, by rw [hv, h0], fun j t ht => by have := (List.getElem?_eq_some_iff.1 ht).1; omega⟩
  · refine ⟨some ⟨g, 0, none⟩, cap, hv, fun j t ht => ?_⟩
    have hlt := (World.ownsRow.lt h g (by rw [hv]; rfl)).2
    have hcl : ∀ i u, (rc4 t)[i]? = some u → w.cell? ⟨g, 0 + j * 4 + i, none⟩ = some u := fun i u hu => by
      have h9 := h.cells (g := g) (by rw [hv]; rfl) _ _ (fl4_at ht i u hu)
      have e1 : (⟨g, 0, none⟩ : Addr).add (j * 4 + i) = ⟨g, 0 + j * 4 + i, none⟩ := by unfold Addr.add; split <;> (try simp_all) <;> omega
      rwa [e1] at h9
    exact ⟨g, 0, rfl, hlt, hcl 0 _ rfl, hcl 1 _ rfl, hcl 2 _ rfl, hcl 3 _ rfl⟩
theorem Tkr.tkm {w : World} {v : Value} {l : List B.RTok} (h : Tkr w v l) : Tkm w v (l.map tkR) := by
  obtain ⟨A, c, hv, hc⟩ := h
  refine ⟨A, c, by rw [hv, List.length_map], fun j t ht => ?_⟩
  rw [List.getElem?_map] at ht
  obtain ⟨x, hx, rfl⟩ := Option.map_eq_some_iff.1 ht
  obtain ⟨b, o, h1, h2, h3, h4, -⟩ := hc j x hx
  exact ⟨b, o, h1, h2, h3, h4⟩
theorem infoTok : (Tryz.prog.info? 63).map (fun i => (i.zero, i.size, i.bytes)) = some (some (.agg #[.int .i64 0, .string ⟨#[]⟩, .int .i64 0, .int .i64 0]), 4, 40) := by kernel_rfl
def FwP (l : List B.RTok) (W : World) (e : Ending) (w' : World) : Prop := ∃ v, e = .returned v ∧ Tkr w' v (fewR l) ∧ Up W w'
set_option maxHeartbeats 12800000 in
set_option maxRecDepth 100000 in
theorem fewTok (l : List B.RTok) (hz : ∀ t ∈ l, t.s.size ≤ 9223372036854775807) (W w : World) (v : Value) (hv : Tkr W v l) (hu : Up W w) (_hl : l.length ≤ 9223372036854775807) : Calls Tryz.prog 15 #[v] w (FwP l W) := by
  obtain ⟨A, c, rfl, hc⟩ := hv.up hu
  have HC := Lib.hid hc
  have HZ := Lib.hid hz
  have HU := Lib.hid hu
  obtain ⟨N, hN⟩ : ∃ N, l.length = N := ⟨_, rfl⟩
  have HN := Lib.hid hN
  rw [hN] at _hl ⊢
  obtain ⟨i0, hi0, hz0, hz1, hz2⟩ := info_parts infoTok
  clear hc hz hu hv hN
  go_enter Tryz.func15, Tryz.ntmps15
  go_wp2_with fail
  go_loopw [3, 4] (fun vo x wr => ∃ k : Nat, x = .int .i64 (k : Int) ∧ k ≤ N ∧ k ≤ 80 ∧ wr.ownsRow w.heap.size 63 4 vo k (fl4 ((l.take k).map cutR)) ∧ Up w wr) (fun _ x _ => 81 - (intOf x).toNat)
  case atStart => exact ⟨0, rfl, Nat.zero_le _, Nat.zero_le _, World.ownsRow_nil _ _ _ _, Up.refl _⟩
  case round =>
    obtain ⟨k, rfl, hk, hk80, ho, hur⟩ := hrel
    have HO := Lib.hid ho
    have HUR := Lib.hid hur
    have hzr := hur.size
    clear ho
    by_cases hlt : k < N
    · have hkz : (k : Int) < (N : Int) := by omega
      by_cases h80 : k < 80
      · have hk8 : (k : Int) < 80 := by omega
        obtain ⟨t, ht⟩ : ∃ t, l[k]? = some t := ⟨_, List.getElem?_eq_getElem (by rw [HN.out]; exact hlt)⟩
        obtain ⟨b, o, rfl, hb, m0, m1, m2, m3⟩ := HC.out k t ht
        have hts := HZ.out t (List.mem_of_getElem? ht)
        have a0 := hur.cell m0
        have a1 := hur.cell m1
        have a2 := hur.cell m2
        have a3 := hur.cell m3
        have hw1 : IntKind.i64.wrap ((k : Int) + 1) = ((k + 1 : Nat) : Int) := by rw [IntKind.wrap_i64]; omega
        obtain ⟨XK, XS, XN, XA⟩ := t
        simp only at a0 a1 a2 a3 hts
        have hbr : b < wr.heap.size := by omega
        obtain ⟨M, hM⟩ : ∃ M : Nat, min XS.size 140 = M := ⟨_, rfl⟩
        have hm1 : (if (140 : Int) < (XS.size : Int) then (140 : Int) else (XS.size : Int)) = (M : Int) := by split <;> omega
        have hm2 : min (XS.size : Int) 140 = (M : Int) := by omega
        have hm3 : (M : Int) ≤ (XS.size : Int) := by omega
        have HT : Hid (XS.extract 0 M = cut140 XS) := Lib.hid (by unfold cut140; rw [hM])
        have HTK := Lib.hid ht
        have HB1 := Lib.hid (HO.out.alloc (.cells #[.int .i64 XK, .string (XS.extract 0 M), .int .i64 XN, .int .i64 XA] 63) |>.alloc (.cells #[.int .i64 XK, .string (XS.extract 0 M), .int .i64 XN, .int .i64 XA] 63))
        have HWZ : Hid (((wr.alloc (.cells #[.int .i64 XK, .string (XS.extract 0 M), .int .i64 XN, .int .i64 XA] 63)).alloc (.cells #[.int .i64 XK, .string (XS.extract 0 M), .int .i64 XN, .int .i64 XA] 63)).heap.size = wr.heap.size + 2) := Lib.hid (by simp)
        have HWB : Hid (w.heap.size ≤ ((wr.alloc (.cells #[.int .i64 XK, .string (XS.extract 0 M), .int .i64 XN, .int .i64 XA] 63)).alloc (.cells #[.int .i64 XK, .string (XS.extract 0 M), .int .i64 XN, .int .i64 XA] 63)).heap.size) := Lib.hid (by rw [HWZ.out]; omega)
        have HU2 : Hid (Up w ((wr.alloc (.cells #[.int .i64 XK, .string (XS.extract 0 M), .int .i64 XN, .int .i64 XA] 63)).alloc (.cells #[.int .i64 XK, .string (XS.extract 0 M), .int .i64 XN, .int .i64 XA] 63))) := Lib.hid ((HUR.out.alloc _).alloc _)
        have HNB : Hid (((wr.alloc (.cells #[.int .i64 XK, .string (XS.extract 0 M), .int .i64 XN, .int .i64 XA] 63)).alloc (.cells #[.int .i64 XK, .string (XS.extract 0 M), .int .i64 XN, .int .i64 XA] 63)).heap[wr.heap.size + 1]? = some (.cells #[.int .i64 XK, .string (XS.extract 0 M), .int .i64 XN, .int .i64 XA] 63)) := Lib.hid (by rw [show wr.heap.size + 1 = (wr.alloc (.cells #[.int .i64 XK, .string (XS.extract 0 M), .int .i64 XN, .int .i64 XA] 63)).heap.size from by simp]; exact Array.getElem?_push_size)
        have HCL : Hid (rc4 (cutR ⟨XK, XS, XN, XA⟩) = [.int .i64 XK, .string (XS.extract 0 M), .int .i64 XN, .int .i64 XA]) := Lib.hid (by unfold rc4 cutR; rw [← HT.out])
        clear m0 m1 m2 m3 ht hur hM
        go_wp2_with (at_builtin; refine wpList_append_lies _ rfl _ _ 22 rfl w.heap.size 63 i0 _ 4 40 Tryz.underlying22 hi0 hz0 hz1 hz2 rfl (by omega) u3 k (fl4 ((l.take k).map cutR)) rfl HB1.out ⟨wr.heap.size + 1, 0, none⟩ 1 1 [.int .i64 XK, .string (XS.extract 0 M), .int .i64 XN, .int .i64 XA] rfl rfl (World.news_of_block HNB.out) (by intro u hu; simp only [List.mem_cons, List.not_mem_nil, or_false] at hu; rcases hu with rfl | rfl | rfl | rfl <;> rfl) (by omega) (by unfold maxLen; omega) (by omega) HWB.out (wr.heap.size + 2) HWZ.out ?_; intro g6 cap6 w6 ho6 hg6 hat6 hlt6)
        have e9 : fl4 ((l.take k).map cutR) ++ [.int .i64 XK, .string (XS.extract 0 M), .int .i64 XN, .int .i64 XA] = fl4 ((l.take (k + 1)).map cutR) := by
          rw [← HCL.out, List.take_add_one, HTK.out, List.map_append, fl4_app]
          show _ = _ ++ (rc4 _ ++ [])
          rw [List.append_nil]
        rw [e9] at ho6
        refine ⟨⟨k + 1, by rw [Int.natCast_add]; rfl, by omega, by omega, ho6, HU2.out.grown hg6 HWB.out fun g hg => (World.ownsRow.lt HO.out g hg).1⟩, ?_⟩
        show 81 - ((k : Int) + 1).toNat < 81 - (k : Int).toNat
        omega
      · have hk8 : ¬ (k : Int) < 80 := by omega
        have hke : k = 80 := by omega
        have HKE := Lib.hid hke
        clear hke
        go_wp2_with fail
        go_ret
        refine ⟨_, rfl, ?_, HU.out.trans HUR.out⟩
        have h9 := HO.out
        have h8 : ((l.take k).map cutR).length = k := by rw [List.length_map, List.length_take, HN.out]; omega
        have h7 := tkr_own h9 h8
        rwa [HKE.out] at h7
    · have hkz : ¬ (k : Int) < (N : Int) := by omega
      have hke : k = N := by omega
      have HKE := Lib.hid hke
      clear hke
      go_wp2_with fail
      go_ret
      refine ⟨_, rfl, ?_, HU.out.trans HUR.out⟩
      have h9 := HO.out
      have h8 : ((l.take k).map cutR).length = k := by rw [List.length_map, List.length_take, HN.out]; omega
      have h7 := tkr_own h9 h8
      have e : fewR l = (l.take k).map cutR := by
        unfold fewR
        rw [List.take_of_length_le (by rw [HN.out]; omega), List.take_of_length_le (by rw [HN.out, HKE.out]; omega)]
      rw [e]
      exact h7
end Go.Proofs.YthonaeigacfmbaaGreatDoor
namespace Go.Proofs.YthonaeigacfmbaaGreatDoor
open Go.RowKit

theorem nob_sz : nob.size ≤ 1000000000 := by decide
theorem okS_of : ∀ {f : Fr}, (∀ (j : Nat) t, f.get j = some t → okST t) → okS f
  | .nil, _ => trivial
  | .cons x k r, h => ⟨(h 0 (x, k) rfl).1, (h 0 (x, k) rfl).2.1, (h 0 (x, k) rfl).2.2, okS_of (f := r) fun j t hj => h (j + 1) t hj⟩
theorem is_okS : ∀ (n : Nat) (t : Tr), szT t ≤ n → isT B.nck B.long t 1 = true → okST t
  | 0, t, h, _ => absurd h (by unfold szT; omega)
  | n + 1, t, h, ht => by
    have ih := is_okS n
    cases ty_form ht with
    | leaf k hk => exact ⟨nob_sz, nob_sz, trivial⟩
    | name s hs =>
      have h1 := long128 s hs
      exact ⟨by show s.size ≤ _; omega, nob_sz, trivial⟩
    | two k hk a b hA hB =>
      have hz : szT (nd k nob (fr2 a b)) = 1 + (szT a + szT b) := by unfold szT; simp only [nd, fr2, fr1, Fr.sz]; omega
      have iA := ih a (by omega) hA
      have iB := ih b (by omega) hB
      exact ⟨nob_sz, nob_sz, iA.1, iA.2.1, iA.2.2, iB.1, iB.2.1, iB.2.2, trivial⟩
    | mu s hs c hc h0 =>
      have hz : szT (nd 7 s c) = 1 + c.sz := rfl
      have h1 := nck128 s hs
      refine ⟨by show s.size ≤ _; omega, nob_sz, okS_of (f := c) fun j t' hj => ?_⟩
      obtain ⟨s', u, rfl, hs', hu⟩ := con_form (all8_get hc.1 hj)
      have hg := Fr.get_sz hj
      have hz2 : szT (nd 8 s' (fr1 u)) = 1 + szT u := by unfold szT; simp only [nd, fr1, Fr.sz]; omega
      have iu := ih u (by omega) hu
      have h2 := nck128 s' hs'
      exact ⟨by show s'.size ≤ _; omega, nob_sz, iu.1, iu.2.1, iu.2.2, trivial⟩
theorem typ_in {nk lg : ByteArray → Bool} {l : List Tk} {i : Int} {t : Tr} {j : Nat} (h : typZ nk lg l i = .inl (t, j)) : i < (j : Int) := by
  unfold typZ at h
  split at h
  · cases h
  · have h2 := typL_form h
    have h3 : 0 < szT t := by unfold szT; omega
    omega
theorem typ_bad {nk lg : ByteArray → Bool} {l : List Tk} {i : Int} {p : Nat} {r : Int} (h : typZ nk lg l i = .inr (p, r)) : p ≤ l.length ∧ ¬ r = 0 := by
  unfold typZ at h
  split at h
  · injection h with h; injection h with h1 h2; subst h1; subst h2; exact ⟨Nat.zero_le _, by decide⟩
  · have h3 := typL_le (nk := nk) (lg := lg) l i.toNat (by omega)
    rw [h] at h3
    exact ⟨h3.1, h3.2 p r rfl⟩
set_option maxHeartbeats 12800000 in
set_option maxRecDepth 100000 in
theorem lawForms (l : List B.RTok) (i : Int) (hl : l.length ≤ 9223372036854775807) (hz : ∀ t ∈ l, t.s.size ≤ 9223372036854775807) (w : World) (v : Value) (hx : Vx w) (hv : Tkr w v l) :
    Calls Tryz.prog 7 #[v, .int .i64 i] w (BoP true w) := by
  have cF := fewTok l hz w w v hv (Up.refl _) hl
  have HX := Lib.hid hx
  have HV := Lib.hid hv
  clear hx hz hl hv
  go_enter Tryz.func7, Tryz.ntmps7
  go_wp2_with fail
  refine cF.mono ?_
  rintro e w1 ⟨v1, rfl, h1, u1⟩
  have ht : Tkm w1 v1 (fewT l) := h1.tkm
  have hlen := fewT_len l
  have hts : ∀ t ∈ fewT l, t.s.size ≤ 1000000000 := fun t h => by have := fewT_sz l t h; omega
  have cT := pType (fewT l) i (by omega) hts w1 v1 ht (HX.out.up u1).nx (HX.out.up u1).pl
  obtain ⟨A, c, rfl, -⟩ := ht
  obtain ⟨N, hN⟩ : ∃ N, (fewT l).length = N := ⟨_, rfl⟩
  have HN := Lib.hid hN
  rw [hN] at cT hlen ⊢
  have U1 := Lib.hid u1
  clear u1 h1 hts cF hN
  go_wp2_with fail
  refine cT.mono ?_
  rintro e w2 ⟨v2, j2, e2, rfl, hv2, u2⟩
  have U2 := Lib.hid (U1.out.trans u2)
  cases hR : typZ B.nck B.long (fewT l) i with
  | inr x =>
    obtain ⟨p, r⟩ := x
    rw [hR] at hv2
    obtain ⟨rfl, rfl, rfl⟩ := hv2
    obtain ⟨hp, hr⟩ := typ_bad hR
    rw [HN.out] at hp
    have hr9 : (e2 != 0) = true := by rw [bne_iff_ne]; exact hr
    have hp0 : (0 : Int) ≤ (p : Int) := by omega
    have hpN : (p : Int) ≤ (N : Int) := by omega
    have cW := works6 HX.out U2.out
    obtain ⟨P, hP⟩ : ∃ P : Int, (p : Int) = P := ⟨_, rfl⟩
    rw [hP] at hp0 hpN ⊢
    clear hR cT u2 hr hp hP
    go_wp2_with fail
    refine cW.mono ?_
    rintro e w5 ⟨rfl, u5⟩
    go_wp2_with fail
    go_ret
    exact bop_ret rfl u5
  | inl x =>
    obtain ⟨t, q⟩ := x
    rw [hR] at hv2
    obtain ⟨n2, rfl, rfl⟩ := hv2
    obtain ⟨ht1, -, ht3⟩ := typ_sz hR
    have ht2 := typ_in hR
    rw [HN.out] at ht1
    have hok := is_okS _ t (Nat.le_refl _) ht3
    have hos : okSO (some t) := fun t' h => by have h := Option.some.inj h; subst h; exact hok
    have h80 : szT t ≤ 80 := by omega
    have cS := shpType (some t) (by show szT t ≤ _; omega) hos w2 w2 v2 (HX.out.up U2.out).nx n2.has (Up.refl _)
    have HAS := Lib.hid n2.has
    have HOS := Lib.hid hos
    obtain ⟨J, hJ⟩ : ∃ J : Int, (q : Int) = J := ⟨_, rfl⟩
    rw [hJ] at ht2 ⊢
    have HIS := Lib.hid ht3
    clear hR cT u2 hJ n2 hos hok ht3
    go_wp2_with fail
    refine cS.mono ?_
    rintro e w3 ⟨rfl, u3⟩
    have U3 := Lib.hid (U2.out.trans u3)
    have HAS3 := Lib.hid (HAS.out.up u3)
    by_cases hd : 60 < dpT t
    · have hc : chk B.nck B.long (some t) 1 = 7 := by
        show (if 8192 < szT t then (3 : Int) else if 60 < dpT t then 7 else if isT B.nck B.long t 1 then 0 else 16) = 7
        rw [if_neg (by omega), if_pos hd]
      rw [hc]
      have cW := works6 HX.out U3.out
      clear u3 hc hd
      go_wp2_with fail
      refine cW.mono ?_
      rintro e w5 ⟨rfl, u5⟩
      go_wp2_with fail
      go_ret
      exact bop_ret rfl u5
    · have hc : chk B.nck B.long (some t) 1 = 0 := by
        show (if 8192 < szT t then (3 : Int) else if 60 < dpT t then 7 else if isT B.nck B.long t 1 then 0 else 16) = 0
        rw [if_neg (by omega), if_neg hd, HIS.out, if_pos rfl]
      have cP := pWrite (some t) (by show szT t ≤ _; omega) HOS.out w3 w3 v2 (HX.out.up U3.out).nx (HX.out.up U3.out).pl HAS3.out (Up.refl _)
      unfold WtP at cP
      rw [hc, if_pos rfl] at cP
      rw [hc]
      have hw : wrT (some t) = tB (tkT t) := rfl
      rw [hw] at cP
      have h3 := HIS.out
      have hok := ok_all _ t (Nat.le_refl _) h3
      have hws := wS_all _ t (Nat.le_refl _) h3
      obtain ⟨r, hr, hrm⟩ := lex_text hok (by omega)
      have hbk := typ_back (nk := B.nck) (lg := B.long) h3
      have hft := few_all nck128 long128 _ t (Nat.le_refl _) h3
      have hzz : (tB (tkT t)).size ≤ 1000000000 := by have := text_le nck128 long128 h3; omega
      have htz : typZ B.nck B.long (tkT t) 0 = .inl (t, (tkT t).length) := by
        unfold typZ
        rw [if_neg (by omega)]
        exact hbk
      obtain ⟨X, hX⟩ : ∃ X, tB (tkT t) = X := ⟨_, rfl⟩
      rw [hX] at hr hzz cP
      have HR := Lib.hid hr
      have HRM := Lib.hid hrm
      have HTZ := Lib.hid htz
      have HFT := Lib.hid hft
      clear hc hd h3 hw hok hws hr hrm hbk hft htz hX u3 cS
      go_wp2_with fail
      refine cP.mono ?_
      rintro e w4 ⟨rfl, u4⟩
      have U4 := Lib.hid (U3.out.trans u4)
      have HAS4 := Lib.hid (HAS3.out.up u4)
      have cL := B.lex_any X hzz w4 (HX.out.up U4.out).lx
      rw [HR.out] at cL
      clear u4 cP
      go_wp2_with fail
      refine Calls.mono cL ?_
      rintro e w5 ⟨v5, rfl, ht, hb5⟩
      have hv5 : Up w4 w5 := hb5
      have ht := tkm_of ht
      rw [HRM.out] at ht
      have U5 := Lib.hid (U4.out.trans hv5)
      have HAS5 := Lib.hid (HAS4.out.up hv5)
      have cT := pType (tkT t) 0 (by have := HFT.out.1; omega) (fun x hx => by have := HFT.out.2 x hx; omega) w5 v5 ht (HX.out.up U5.out).nx (HX.out.up U5.out).pl
      rw [HTZ.out] at cT
      clear hb5 hv5 ht cL
      go_wp2_with fail
      refine cT.mono ?_
      rintro e w6 ⟨v6, j6, e6, rfl, ⟨n6, rfl, rfl⟩, u6⟩
      have cS := uSame (some t) (some t) (HAS5.out.up u6) n6.has (by show szT t ≤ 65536; omega) true (by simp) (Up.refl _)
      have U6 := Lib.hid (U5.out.trans u6)
      clear n6 u6 cT
      go_wp2_with fail
      refine cS.mono ?_
      rintro e w7 ⟨rfl, u7⟩
      have cW := works6 HX.out (U6.out.trans u7)
      clear u7 cS
      go_wp2_with fail
      refine cW.mono ?_
      rintro e w8 ⟨rfl, u8⟩
      go_wp2_with fail
      go_ret
      exact bop_ret rfl u8
end Go.Proofs.YthonaeigacfmbaaGreatDoor
namespace Go.Proofs.YthonaeigacfmbaaGreatDoor
open Go.RowKit

theorem run_none4 (w : World) (base : Nat) (v : Value) (n : Nat) (xs : List Value) (hown : w.ownsRow base 63 4 v n xs) (c : Nat) :
    (Builtin.append_ #[22, 22] 22 #[v, .slice none 0 c]).run Tryz.prog w = .ok v w := by
  obtain ⟨i0, hi, hz0, hz1, hz2⟩ := info_parts infoTok
  rcases hown.2 with ⟨rfl, rfl⟩ | ⟨g, cap, cur, rfl, _, _, hnc, _⟩
  · simp [Builtin.append_, run_underlying Tryz.underlying22, sizeOf, typeInfo, hi, Builtin.lenOf, Builtin.firstCells]
  · simp [Builtin.append_, run_underlying Tryz.underlying22, sizeOf, typeInfo, hi, Builtin.lenOf, Builtin.firstCells, hnc, storeCells]
theorem fl4_get : ∀ {l : List B.RTok} {i : Nat} {u : Value}, (fl4 l)[i]? = some u → ∃ j t k, l[j]? = some t ∧ i = j * 4 + k ∧ (rc4 t)[k]? = some u
  | [], i, u, h => by cases i <;> cases h
  | x :: r, i, u, h => by
    have h : (rc4 x ++ fl4 r)[i]? = some u := h
    by_cases hi : i < 4
    · rw [List.getElem?_append_left (by show i < 4; exact hi)] at h
      exact ⟨0, x, i, rfl, by omega, h⟩
    · rw [List.getElem?_append_right (by show 4 ≤ i; omega)] at h
      obtain ⟨j, t, k, h1, h2, h3⟩ := fl4_get (l := r) (i := i - 4) h
      exact ⟨j + 1, t, k, h1, by omega, h3⟩
theorem fl4_one (l : List B.RTok) : ∀ u ∈ fl4 l, u.oneCell' = true := fun u hu => by
  obtain ⟨t, _, ht⟩ := List.mem_flatMap.1 hu
  unfold rc4 at ht
  simp only [List.mem_cons, List.not_mem_nil, or_false] at ht
  rcases ht with rfl | rfl | rfl | rfl <;> rfl
theorem app_toks (w : World) (base : Nat) (v0 : Value) (n : Nat) (a : List B.RTok) (hown : w.ownsRow base 63 4 v0 n (fl4 a)) (v : Value) (l : List B.RTok) (h : Tkr w v l) (hl : n + l.length ≤ 1000) (hb : base ≤ w.heap.size) :
    ∃ v' w', (Builtin.append_ #[22, 22] 22 #[v0, v]).run Tryz.prog w = .ok v' w' ∧ w'.ownsRow base 63 4 v' (n + l.length) (fl4 (a ++ l)) ∧ w.grownBy w' v0.ownBlock := by
  obtain ⟨i0, hi, hz0, hz1, hz2⟩ := info_parts infoTok
  obtain ⟨A, c, rfl, hc⟩ := h
  rcases A with _ | ad
  · have hl0 : l = [] := by
      cases l with
      | nil => rfl
      | cons x t =>
        obtain ⟨b, o, h, _⟩ := hc 0 x rfl
        cases h
    subst hl0
    exact ⟨_, _, run_none4 _ _ _ _ _ hown c, by rw [List.append_nil]; exact hown, rfl, rfl, rfl, Nat.le_refl _, fun _ _ _ => rfl⟩
  · obtain ⟨v', w', h1, h2, h3, _, _⟩ := run_append_own_at (P := Tryz.prog) w base 22 22 63 i0 _ 4 40 Tryz.underlying22 hi hz0 hz1 hz2 rfl (by decide) v0 n (fl4 a) hown ad l.length c (fl4 l) (fl4_len l) (fun j u hu => by
      obtain ⟨p, t, k, q1, q2, q3⟩ := fl4_get hu
      obtain ⟨b, o, e, hb, m0, m1, m2, m3⟩ := hc p t q1
      have e := Option.some.inj e
      subst e
      have e1 : (⟨b, o, none⟩ : Addr).add j = ⟨b, o + p * 4 + k, none⟩ := by unfold Addr.add; split <;> (try simp_all) <;> omega
      rw [e1]
      unfold rc4 at q3
      match k, q3 with
      | 0, q3 => rw [← Option.some.inj q3]; exact m0
      | 1, q3 => rw [← Option.some.inj q3]; exact m1
      | 2, q3 => rw [← Option.some.inj q3]; exact m2
      | 3, q3 => rw [← Option.some.inj q3]; exact m3
      | k + 4, q3 => cases q3) (fl4_one l) (by unfold maxLen; omega) (by omega) hb
    exact ⟨v', w', h1, by rw [fl4_app]; exact h2, h3⟩
theorem own_made4 {B : Nat} {w : World} (h : B ≤ w.heap.size) : (w.alloc (.cells #[] 63)).ownsRow B 63 4 (.slice (some ⟨w.heap.size, 0, none⟩) 0 0) 0 (fl4 []) :=
  ⟨rfl, .inr ⟨w.heap.size, 0, #[], rfl, h, heap_alloc_new w _, Nat.le_refl _, by unfold maxLen; omega, rfl, rfl⟩⟩
theorem app_two (w : World) (va vb : Value) (a b : List B.RTok) (ha : Tkr w va a) (hb : Tkr w vb b) (hl : a.length + b.length ≤ 1000) :
    ∃ v1 w1 v2 w2, (Builtin.append_ #[22, 22] 22 #[.slice (some ⟨w.heap.size, 0, none⟩) 0 0, va]).run Tryz.prog (w.alloc (.cells #[] 63)) = .ok v1 w1 ∧
      (Builtin.append_ #[22, 22] 22 #[v1, vb]).run Tryz.prog w1 = .ok v2 w2 ∧ Tkr w2 v2 (a ++ b) ∧ Up w w2 := by
  have u0 := (Up.refl w).alloc (.cells #[] 63)
  have o0 := own_made4 (w := w) (Nat.le_refl _)
  obtain ⟨v1, w1, r1, o1, g1⟩ := app_toks _ _ _ _ _ o0 va a (ha.up u0) (by omega) (by simp)
  have u1 : Up w w1 := u0.grown g1 (by simp) fun g hg => (World.ownsRow.lt o0 g hg).1
  obtain ⟨v2, w2, r2, o2, g2⟩ := app_toks _ _ _ _ _ o1 vb b (hb.up u1) (by omega) u1.size
  exact ⟨v1, w1, v2, w2, r1, r2, tkr_own o2 (by simp [List.length_append]), u1.grown g2 u1.size fun g hg => (World.ownsRow.lt o1 g hg).1⟩
theorem typ_0 {nk lg : ByteArray → Bool} (l : List Tk) : typZ nk lg l 0 = typL nk lg l 0 := by
  unfold typZ
  rw [if_neg (by omega)]
  rfl
set_option maxHeartbeats 12800000 in
set_option maxRecDepth 100000 in
theorem lawStops (l m : List B.RTok) (hl : l.length ≤ 9223372036854775807) (hz : ∀ t ∈ l, t.s.size ≤ 9223372036854775807) (hm : m.length ≤ 9223372036854775807) (hy : ∀ t ∈ m, t.s.size ≤ 9223372036854775807) (w : World) (v v' : Value) (hx : Vx w) (hv : Tkr w v l) (hv' : Tkr w v' m) :
    Calls Tryz.prog 8 #[v, v'] w (BoP true w) := by
  have cF := fewTok l hz w w v hv (Up.refl _) hl
  have cF2 : Hid (∀ w1, Up w w1 → Calls Tryz.prog 15 #[v'] w1 (FwP m w1)) := Lib.hid fun w1 u1 => fewTok m hy w1 w1 v' (hv'.up u1) (Up.refl _) hm
  have HX := Lib.hid hx
  clear hx hz hl hv hm hy hv'
  go_enter Tryz.func8, Tryz.ntmps8
  go_wp2_with fail
  refine cF.mono ?_
  rintro e w1 ⟨v1, rfl, h1, u1⟩
  have cF3 := cF2.out w1 u1
  have H1 := Lib.hid h1
  have U1 := Lib.hid u1
  clear h1 u1 cF cF2
  go_wp2_with fail
  refine cF3.mono ?_
  rintro e w2 ⟨v2, rfl, h2, u2⟩
  have h1 : Tkr w2 v1 (fewR l) := H1.out.up u2
  have ht : Tkm w2 v1 (fewT l) := h1.tkm
  have U2 := Lib.hid (U1.out.trans u2)
  have hlen := fewT_len l
  have hts : ∀ t ∈ fewT l, t.s.size ≤ 1000000000 := fun t h => by have := fewT_sz l t h; omega
  have cT := pType (fewT l) 0 (by omega) hts w2 v1 ht (HX.out.up U2.out).nx (HX.out.up U2.out).pl
  have H1 := Lib.hid h1
  have H2 := Lib.hid h2
  obtain ⟨A, c, rfl, -⟩ := ht
  obtain ⟨N, hN⟩ : ∃ N, (fewT l).length = N := ⟨_, rfl⟩
  have HN := Lib.hid hN
  rw [hN] at cT hlen H1 ⊢
  have hst := typL_st (nk := B.nck) (lg := B.long) (fewT l) (fewT m) 0 (Nat.zero_le _)
  rw [hN] at hst
  have HST := Lib.hid hst
  rw [typ_0] at cT
  clear u2 h1 h2 hts cF3 hN hst
  go_wp2_with fail
  refine cT.mono ?_
  rintro e w3 ⟨v3, j3, e3, rfl, hv3, u3⟩
  have U3 := Lib.hid (U2.out.trans u3)
  obtain ⟨v4, w4, v5, w5, r1, r2, h5, u5⟩ := app_two w3 _ _ _ _ (H1.out.up u3) (H2.out.up u3) (by have := fewR_len l; have := fewR_len m; omega)
  have U5 := Lib.hid (U3.out.trans u5)
  have ht5 : Tkm w5 v5 (fewT l ++ fewT m) := by
    have h := h5.tkm
    rw [List.map_append] at h
    exact h
  have cT2 := pType (fewT l ++ fewT m) 0 (by have := fewT_len m; rw [List.length_append, HN.out]; omega) (fun t h => by
    rcases List.mem_append.1 h with h | h
    · have := fewT_sz l t h; omega
    · have := fewT_sz m t h; omega) w5 v5 ht5 (HX.out.up U5.out).nx (HX.out.up U5.out).pl
  rw [typ_0] at cT2
  have HU5 := Lib.hid u5
  have hj : j3 = (pl (typL B.nck B.long (fewT l) 0) : Int) := by
    cases hR : typL B.nck B.long (fewT l) 0 with
    | inl x => obtain ⟨t, q⟩ := x; rw [hR] at hv3; exact hv3.2.1
    | inr x => obtain ⟨t, q⟩ := x; rw [hR] at hv3; exact hv3.1
  have hle := HST.out.le
  have hj0 : ¬ j3 < 0 := by omega
  have hjN : ¬ (N : Int) < j3 := by omega
  have HJ := Lib.hid hj
  have HV3 := Lib.hid hv3
  clear h5 ht5 u5 u3 hv3 hj hle cT
  go_wp2_with (first | (at_builtin; refine wpList_app _ _ 22 rfl rfl rfl rfl r1 ?_) | (at_builtin; refine wpList_app _ _ 22 rfl rfl rfl rfl r2 ?_))
  refine cT2.mono ?_
  rintro e w6 ⟨v6, j6, e6, rfl, hv6, u6⟩
  have U6 := Lib.hid (U5.out.trans u6)
  have hv3 := HV3.out
  have hst := HST.out
  clear cT2 r1 r2
  cases hR : typL B.nck B.long (fewT l) 0 with
  | inr x =>
    obtain ⟨p, r⟩ := x
    rw [hR] at hv3 hst
    obtain ⟨hj3, he3, hv3⟩ := hv3
    have hb := hst.bad p r rfl
    by_cases hp : p < N
    · have hsame := hst.same hp
      rw [hsame] at hv6
      obtain ⟨hj6, he6, hv6⟩ := hv6
      have hr9 : (r != 0) = true := by rw [bne_iff_ne]; rcases hb with h | ⟨h, _⟩ <;> omega
      have hpN : (p : Int) < (N : Int) := by omega
      have cW := works6 HX.out U6.out
      obtain ⟨P, hP⟩ : ∃ P : Int, (p : Int) = P := ⟨_, rfl⟩
      rw [hP] at hj3 hj6 hpN
      subst hj3 he3 hv3 hj6 he6 hv6
      clear hR hb hp hsame hst hP u6
      go_wp2_with fail
      refine cW.mono ?_
      rintro e w7 ⟨rfl, u7⟩
      go_wp2_with fail
      go_ret
      exact bop_ret rfl u7
    · have hr6 : r = 6 := by rcases hb with h | ⟨_, h⟩ <;> omega
      subst hr6
      have hpN : ¬ (p : Int) < (N : Int) := by omega
      have hmo := hst.more (by show N ≤ p; omega)
      have hpl : p = N := by have : p ≤ N := hst.le; omega
      have hj : j6 = (pl (typL B.nck B.long (fewT l ++ fewT m) 0) : Int) := by
        cases hR : typL B.nck B.long (fewT l ++ fewT m) 0 with
        | inl x => obtain ⟨t, q⟩ := x; rw [hR] at hv6; exact hv6.2.1
        | inr x => obtain ⟨t, q⟩ := x; rw [hR] at hv6; exact hv6.1
      have hge : (p : Int) ≤ j6 := by omega
      have cW := works6 HX.out U6.out
      obtain ⟨P, hP⟩ : ∃ P : Int, (p : Int) = P := ⟨_, rfl⟩
      rw [hP] at hj3 hpN hge
      subst hj3 he3 hv3
      clear hR hb hp hst hP u6 hmo hpl hj hv6
      go_wp2_with fail
      refine cW.mono ?_
      rintro e w7 ⟨rfl, u7⟩
      go_wp2_with fail
      go_ret
      exact bop_ret rfl u7
  | inl x =>
    obtain ⟨t, q⟩ := x
    have hts := typ_sz (nk := B.nck) (lg := B.long) (l := fewT l) (i := 0) (t := t) (j := q) (by rw [typ_0]; exact hR)
    have hsz := hts.1
    rw [HN.out] at hsz
    rw [hR] at hv3 hst
    obtain ⟨n3, hj3, he3⟩ := hv3
    by_cases hp : q < N
    · have hsame := hst.same hp
      rw [hsame] at hv6
      obtain ⟨n6, hj6, he6⟩ := hv6
      have cS := uSame (some t) (some t) ((n3.has.up HU5.out).up u6) n6.has (by show szT t ≤ 65536; omega) true (by simp) (Up.refl _)
      have hpN : (q : Int) < (N : Int) := by omega
      obtain ⟨P, hP⟩ : ∃ P : Int, (q : Int) = P := ⟨_, rfl⟩
      rw [hP] at hj3 hj6 hpN
      subst hj3 he3 hj6 he6
      clear hR hp hsame hst hP u6 n3 n6 hts hsz
      go_wp2_with fail
      refine cS.mono ?_
      rintro e w7 ⟨rfl, u7⟩
      have cW := works6 HX.out (U6.out.trans u7)
      clear u7 cS
      go_wp2_with fail
      refine cW.mono ?_
      rintro e w8 ⟨rfl, u8⟩
      go_wp2_with fail
      go_ret
      exact bop_ret rfl u8
    · have hpN : ¬ (q : Int) < (N : Int) := by omega
      have hmo := hst.more (by show N ≤ q; omega)
      have hpl : q = N := by have : q ≤ N := hst.le; omega
      have hj : j6 = (pl (typL B.nck B.long (fewT l ++ fewT m) 0) : Int) := by
        cases hR : typL B.nck B.long (fewT l ++ fewT m) 0 with
        | inl x => obtain ⟨t, q⟩ := x; rw [hR] at hv6; exact hv6.2.1
        | inr x => obtain ⟨t, q⟩ := x; rw [hR] at hv6; exact hv6.1
      have hge : (q : Int) ≤ j6 := by omega
      have cW := works6 HX.out U6.out
      obtain ⟨P, hP⟩ : ∃ P : Int, (q : Int) = P := ⟨_, rfl⟩
      rw [hP] at hj3 hpN hge
      subst hj3 he3
      clear hR hp hst hP u6 hmo hpl hj hv6 n3 hts hsz
      go_wp2_with fail
      refine cW.mono ?_
      rintro e w7 ⟨rfl, u7⟩
      go_wp2_with fail
      go_ret
      exact bop_ret rfl u7
end Go.Proofs.YthonaeigacfmbaaGreatDoor
