/-
  The document's kids: what it tells, if Is tells what it should of smaller trees.
-/
import Derived.Test.YtoejegndbcbkmaaMgA
import Derived.Test.YtoejegndbcbkmaaMgH
import Derived.Test.YtoejegndbcbkmaaUp
import Derived.Deep.RegionHeld3
namespace Go.Proofs.Ytoejegndbcbkmaa
open Go.RowKit

section
variable (nk lg : ByteArray → Bool)
/-- Is tells what it should of trees of at most so many nodes. -/
def IsAt (n : Nat) : Prop := ∀ (t : Tr), szT t ≤ n → okST t → ∀ (c : Int) (W w : World) (v : Value), HasT W v (some t) → Up W w → Calls Try.prog 28 #[v, .int .i64 c] w (BoP (isT nk lg t c) W)
end
theorem bop_ret {a b : Bool} {W w' : World} (h : b = a) (u : Up W w') : BoP b W (.returned (.bool a)) w' := ⟨by rw [h], u⟩
/-- A slice of pointers that lead to these trees. -/
def HasK (w : World) (v : Value) (f : Fr) : Prop := ∃ A c, v = .slice A f.len c ∧ f.len ≤ c ∧ (0 < f.len → ∃ kb ko, A = some ⟨kb, ko, none⟩ ∧ kb < w.heap.size ∧ InF w (fun q => q < w.heap.size) f kb ko)
theorem HasK.up {W w : World} {v : Value} {f : Fr} (h : HasK W v f) (u : Up W w) : HasK w v f := by
  obtain ⟨A, c, hv, hc, hk⟩ := h
  refine ⟨A, c, hv, hc, fun h0 => ?_⟩
  obtain ⟨kb, ko, hA, h1, h2⟩ := hk h0
  exact ⟨kb, ko, hA, Nat.lt_of_lt_of_le h1 u.size, InF.keep (fun _ hq => Nat.lt_of_lt_of_le hq u.size) (fun b hb => u.block b hb) h1 h2⟩
/-- What a text of these bytes is to the walk. -/
theorem byt_facts (c : UInt8) (r : List UInt8) : ∃ T : ByteArray, byt (c :: r) = T ∧ T.toList.isEmpty = false ∧ (T.toList == []) = false ∧ 0 < T.size ∧ T.size = r.length + 1 ∧ (∀ h : 0 < T.size, T[0]'h = c) ∧ (∀ d r', r = d :: r' → ∀ h : 1 < T.size, T[1]'h = d) ∧ T.extract 1 T.size = byt r := by
  have hsz : (byt (c :: r)).size = r.length + 1 := by rw [Lib.size_eq]; rfl
  refine ⟨_, rfl, ?_, ?_, by omega, hsz, fun h => rfl, fun d r' e h => by subst e; rfl, ?_⟩
  · rw [Lib.toList_data]; rfl
  · rw [Lib.toList_data]; rfl
  · apply ba_eq
    rw [Lib.extract_data, hsz]
    show ((c :: r).drop 1).take _ = r
    simp
set_option maxHeartbeats 6400000 in
set_option maxRecDepth 100000 in
/-- Kids that are any number of one sort. -/
theorem kids_star {nk lg : ByteArray → Bool} {n : Nat} (ih : IsAt nk lg n) (d : UInt8) (r : List UInt8) (f : Fr) (hf : f.sz ≤ n) (hs : okS f) (hn : n ≤ 1000000) (W w : World) (v : Value) (hv : HasK W v f) (hu : Up W w) :
    Calls Try.prog 47 #[v, .string (byt (42 :: d :: r))] w (BoP (seqOk (infF nk lg f) (42 :: d :: r)) W) := by
  rw [seq_star]
  obtain ⟨T, hT, t1, t2, t3, t4, t5, t6, -⟩ := byt_facts 42 (d :: r)
  rw [hT]
  have h42 : ((T[0]'t3).toNat : Int) == 42 := by rw [t5 t3]; rfl
  have t7 : 1 < T.size := by rw [t4]; simp
  have hd : T[1]'t7 = d := t6 d r rfl t7
  have hcat := fun W => cat_any d W
  obtain ⟨A, cp, rfl, hc, hk⟩ := id hv
  have hlen := Fr.len_le f
  obtain ⟨N, hN⟩ : ∃ N, f.len = N := ⟨_, rfl⟩
  rw [hN] at hc hlen hk ⊢
  have hN6 : N ≤ 1000000 := by omega
  have HK := Lib.hid hk
  have HI := Lib.hid ih
  have HN := Lib.hid hN
  have HF := Lib.hid hf
  have HS := Lib.hid hs
  have HU := Lib.hid hu
  have HC := Lib.hid hcat
  clear hv hk ih hN hf hs hu hcat t2 t4 t5 t6 hT
  go_enter Try.func47, Try.ntmps47
  go_wp2_with fail
  go_loopw [5] (fun i wr => ∃ I : Nat, i = .int .i64 I ∧ I ≤ N ∧ (∀ (j : Nat) x, j < I → (infF nk lg f)[j]? = some x → starOk d x = true) ∧ Up W wr) (fun i _ => N - (intOf i).toNat)
  case atStart => exact ⟨0, rfl, Nat.zero_le _, fun j x hj => absurd hj (Nat.not_lt_zero _), HU.out⟩
  case round =>
    obtain ⟨I, rfl, hI, hall, hur⟩ := hrel
    have HALL := Lib.hid hall
    have HUR := Lib.hid hur
    clear hall hur
    by_cases hlt : I < N
    · have hiz : (I : Int) < (N : Int) := by omega
      obtain ⟨t, ht⟩ := Fr.get_some (f := f) (i := I) (by rw [HN.out]; exact hlt)
      obtain ⟨kb, ko, rfl, hkb, hin⟩ := HK.out (by omega)
      obtain ⟨u, hcell, hu⟩ := hin.at ht
      obtain ⟨q, p, rfl⟩ := hu.ptr
      obtain ⟨q', p', A', c', hv', -, c0, -⟩ := InT.open (x := t.1) (ks := t.2) hu
      injection hv' with hv'
      injection hv' with hv'
      injection hv' with hq hp
      subst hq hp
      have hgx : (infF nk lg f)[I]? = some (infT nk lg t) := by rw [infF_get, ht]; rfl
      have hsz := Fr.get_sz ht
      have hT : HasT W (.pointer (some ⟨q, p, none⟩)) (some t) := hu
      have cI := fun W' (h : Up W W') => HI.out t (by have := HF.out; omega) (okS_get HS.out ht) (catOf d) W W' _ hT h
      have HGX := Lib.hid hgx
      have CI := Lib.hid cI
      have HXK : Hid ((infT nk lg t).k = t.1.k) := Lib.hid rfl
      obtain ⟨b, hb⟩ : ∃ b, isT nk lg t (catOf d) = b := ⟨_, rfl⟩
      have HB : Hid ((infT nk lg t).is (catOf d) = b) := Lib.hid hb
      rw [hb] at cI
      have CI := Lib.hid cI
      have HCELL := Lib.hid hcell
      have HC0 := Lib.hid c0
      have hcr := HUR.out.cell hcell
      have c0r := HUR.out.cell c0
      have hcase : (b = false) ∨ (b = true ∧ d ≠ 105 ∧ ((d.toNat : Int) == 105) = false) ∨ (b = true ∧ d = 105 ∧ ((d.toNat : Int) == 105) = true ∧ ((t.1.k = 74 ∧ (t.1.k == 74) = true) ∨ (t.1.k = 75 ∧ (t.1.k == 74) = false ∧ (t.1.k == 75) = true) ∨ ((t.1.k == 74) = false ∧ (t.1.k == 75) = false ∧ t.1.k ≠ 74 ∧ t.1.k ≠ 75))) := by
        cases b with
        | false => exact .inl rfl
        | true =>
          by_cases h : d = 105
          · refine .inr (.inr ⟨rfl, h, u8_eq (d := 105) h, ?_⟩)
            by_cases h1 : t.1.k = 74
            · exact .inl ⟨h1, by rw [h1]; rfl⟩
            · by_cases h2 : t.1.k = 75
              · exact .inr (.inl ⟨h2, by rw [beq_eq_false_iff_ne]; exact h1, by rw [h2]; rfl⟩)
              · exact .inr (.inr ⟨by rw [beq_eq_false_iff_ne]; exact h1, by rw [beq_eq_false_iff_ne]; exact h2, h1, h2⟩)
          · exact .inr (.inl ⟨rfl, h, u8_ne (d := 105) h⟩)
      have HNX : Hid (starOk d (infT nk lg t) = true → ∀ (j : Nat) x, j < I + 1 → (infF nk lg f)[j]? = some x → starOk d x = true) := Lib.hid fun h j x hj hx => by
        by_cases e : j = I
        · subst e
          rw [HGX.out] at hx
          injection hx with hx
          rw [← hx]
          exact h
        · exact HALL.out j x (by omega) hx
      have HNO : Hid (starOk d (infT nk lg t) = false → (infF nk lg f).all (starOk d) = false) := Lib.hid fun h => all_no HGX.out h
      have HST : Hid (starOk d (infT nk lg t) = (b && !(decide (d = 105) && (decide (t.1.k = 74) || decide (t.1.k = 75))))) := Lib.hid (by unfold starOk; rw [HB.out, HXK.out])
      clear hin hu hcell c0 hgx hT cI ht hb hsz
      have hcu : ∀ u : Upw W, u.w.cell? ⟨kb, ko + I, none⟩ = some (.pointer (some ⟨q, p, none⟩)) := fun u => u.cell HCELL.out
      have c0u : ∀ u : Upw W, u.w.cell? ⟨q, p, none⟩ = some (.int .i64 t.1.k) := fun u => u.cell HC0.out
      rcases hcase with rfl | ⟨rfl, hd1, hd2⟩ | ⟨rfl, hd1, hd2, ⟨k1, k2⟩ | ⟨k1, k2, k3⟩ | ⟨k2, k3, k4, k5⟩⟩
      · have HE : Hid ((infF nk lg f).all (starOk d) = false) := Lib.hid (HNO.out (by rw [HST.out]; rfl))
        clear HNX HNO HST
        go_wp2_with fail
        refine wp_region_up HUR.out (by kernel_rfl) (by kernel_rfl) ?_
        repeat (go_big_quiet_step (first
            | (go_at_call 66; exact Calls.upw ((HC.out _).mono fun _ _ h => ⟨h.1, h.2 ▸ (by assumption : Upw W).h⟩))
            | (go_at_call 28; exact Calls.upw (CI.out _ (by assumption : Upw W).h))))
        refine wpQuiet_nil ?_
        rintro _ ⟨⟨w9, u9⟩, rfl⟩
        go_wp2_with fail
        go_ret
        exact bop_ret HE.out u9
      · have HX : Hid (starOk d (infT nk lg t) = true) := Lib.hid (by rw [HST.out, decide_eq_false hd1]; rfl)
        clear HNO HST hd1
        go_wp2_with fail
        refine wp_region_up HUR.out (by kernel_rfl) (by kernel_rfl) ?_
        repeat (go_big_quiet_step (first
            | (go_at_call 66; exact Calls.upw ((HC.out _).mono fun _ _ h => ⟨h.1, h.2 ▸ (by assumption : Upw W).h⟩))
            | (go_at_call 28; exact Calls.upw (CI.out _ (by assumption : Upw W).h))))
        refine wpQuiet_nil ?_
        rintro _ ⟨⟨w9, u9⟩, rfl⟩
        go_wp2_with fail
        go_roundw
        case rel => exact ⟨I + 1, by go_num, by omega, HNX.out HX.out, u9⟩
        case measure => simp [intOf]; omega
      · have HE : Hid ((infF nk lg f).all (starOk d) = false) := Lib.hid (HNO.out (by rw [HST.out, decide_eq_true hd1, decide_eq_true k1]; rfl))
        clear HNX HNO HST hd1 k1
        go_wp2_with fail
        refine wp_region_up HUR.out (by kernel_rfl) (by kernel_rfl) ?_
        repeat (go_big_quiet_step (first
            | (go_at_call 66; exact Calls.upw ((HC.out _).mono fun _ _ h => ⟨h.1, h.2 ▸ (by assumption : Upw W).h⟩))
            | (go_at_call 28; exact Calls.upw (CI.out _ (by assumption : Upw W).h))))
        refine wpQuiet_nil ?_
        rintro _ ⟨⟨w9, u9⟩, rfl⟩
        go_wp2_with fail
        go_ret
        exact bop_ret HE.out u9
      · have HE : Hid ((infF nk lg f).all (starOk d) = false) := Lib.hid (HNO.out (by rw [HST.out, decide_eq_true hd1, decide_eq_true k1, Bool.or_true]; rfl))
        clear HNX HNO HST hd1 k1
        go_wp2_with fail
        refine wp_region_up HUR.out (by kernel_rfl) (by kernel_rfl) ?_
        repeat (go_big_quiet_step (first
            | (go_at_call 66; exact Calls.upw ((HC.out _).mono fun _ _ h => ⟨h.1, h.2 ▸ (by assumption : Upw W).h⟩))
            | (go_at_call 28; exact Calls.upw (CI.out _ (by assumption : Upw W).h))))
        refine wpQuiet_nil ?_
        rintro _ ⟨⟨w9, u9⟩, rfl⟩
        go_wp2_with fail
        go_ret
        exact bop_ret HE.out u9
      · have HX : Hid (starOk d (infT nk lg t) = true) := Lib.hid (by rw [HST.out, decide_eq_true hd1, decide_eq_false k4, decide_eq_false k5]; rfl)
        clear HNO HST hd1 k4 k5
        go_wp2_with fail
        refine wp_region_up HUR.out (by kernel_rfl) (by kernel_rfl) ?_
        repeat (go_big_quiet_step (first
            | (go_at_call 66; exact Calls.upw ((HC.out _).mono fun _ _ h => ⟨h.1, h.2 ▸ (by assumption : Upw W).h⟩))
            | (go_at_call 28; exact Calls.upw (CI.out _ (by assumption : Upw W).h))))
        refine wpQuiet_nil ?_
        rintro _ ⟨⟨w9, u9⟩, rfl⟩
        go_wp2_with fail
        go_roundw
        case rel => exact ⟨I + 1, by go_num, by omega, HNX.out HX.out, u9⟩
        case measure => simp [intOf]; omega
    · have hiz : ¬ (I : Int) < (N : Int) := by omega
      have HE : Hid ((infF nk lg f).all (starOk d) = true) := Lib.hid (all_yes fun i j hij => HALL.out i j (by
        have := (List.getElem?_eq_some_iff.1 hij).1
        rw [infF_len, HN.out] at this
        omega) hij)
      go_wp2_with fail
      go_ret
      exact bop_ret HE.out HUR.out
end Go.Proofs.Ytoejegndbcbkmaa
/-
  The document's kids, of constructors and arms: what it tells, if Is tells what it should of smaller trees.
-/
namespace Go.Proofs.Ytoejegndbcbkmaa
open Go.RowKit

/-- A kid at a place: its pointer, its node's Name, and what is asked of it. -/
theorem kid_at {nk lg : ByteArray → Bool} {W : World} {f : Fr} {A : Option Addr} {i N : Nat} (hN : f.len = N) (hi : i < N) (hk : 0 < N → ∃ kb ko, A = some ⟨kb, ko, none⟩ ∧ kb < W.heap.size ∧ InF W (fun q => q < W.heap.size) f kb ko) :
    ∃ kb ko t q p, A = some ⟨kb, ko, none⟩ ∧ f.get i = some t ∧ W.cell? ⟨kb, ko + i, none⟩ = some (.pointer (some ⟨q, p, none⟩)) ∧ W.cell? ⟨q, p, none⟩ = some (.int .i64 t.1.k) ∧ W.cell? ⟨q, p + 2, none⟩ = some (.string t.1.a) ∧
      HasT W (.pointer (some ⟨q, p, none⟩)) (some t) ∧ (infF nk lg f)[i]? = some (infT nk lg t) ∧ szT t ≤ f.sz := by
  obtain ⟨t, ht⟩ := Fr.get_some (f := f) (i := i) (by rw [hN]; exact hi)
  obtain ⟨kb, ko, rfl, hkb, hin⟩ := hk (by omega)
  obtain ⟨u, hcell, hu⟩ := hin.at ht
  obtain ⟨q, p, A', c', rfl, -, c0, -, c2, -⟩ := InT.open (x := t.1) (ks := t.2) hu
  exact ⟨kb, ko, t, q, p, rfl, ht, hcell, c0, c2, hu, by rw [infF_get, ht]; rfl, Fr.get_sz ht⟩
set_option maxHeartbeats 6400000 in
set_option maxRecDepth 100000 in
theorem kids_A {nk lg : ByteArray → Bool} {n : Nat} (ih : IsAt nk lg n) (r : List UInt8) (f : Fr) (hf : f.sz ≤ n) (hs : okS f) (hn : n ≤ 1000000) (W w : World) (v : Value) (hv : HasK W v f) (hu : Up W w) :
    Calls Try.prog 47 #[v, .string (byt (65 :: r))] w (BoP (seqOk (infF nk lg f) (65 :: r)) W) := by
  obtain ⟨T, hT, t1, t2, t3, t4, t5, t6, -⟩ := byt_facts 65 r
  rw [hT]
  have h42 : (((T[0]'t3).toNat : Int) == 42) = false := by rw [t5 t3]; rfl
  have h67 : (((T[0]'t3).toNat : Int) == 67) = false := by rw [t5 t3]; rfl
  have h65 : (((T[0]'t3).toNat : Int) == 65) = true := by rw [t5 t3]; rfl
  obtain ⟨A, cp, rfl, hc, hk⟩ := id hv
  have hlen := Fr.len_le f
  obtain ⟨N, hN⟩ : ∃ N, f.len = N := ⟨_, rfl⟩
  rw [hN] at hc hlen hk ⊢
  have hN6 : N ≤ 1000000 := by omega
  have hll : (infF nk lg f).length = N := by rw [infF_len, hN]
  have HLL := Lib.hid hll
  have HK := Lib.hid hk
  have HI := Lib.hid ih
  have HN := Lib.hid hN
  have HF := Lib.hid hf
  have HS := Lib.hid hs
  have HU := Lib.hid hu
  clear hv hk ih hN hf hs hu t2 t4 t5 t6 hT hll
  go_enter Try.func47, Try.ntmps47
  go_wp2_with fail
  go_loopw [6, 7] (fun i _ wr => ∃ I : Nat, i = .int .i64 I ∧ I ≤ N ∧ (∀ (j : Nat) x, j < I → (infF nk lg f)[j]? = some x → x.is 9 = true) ∧ Up W wr) (fun i _ _ => N - (intOf i).toNat)
  case atStart => exact ⟨0, rfl, Nat.zero_le _, fun j x hj => absurd hj (Nat.not_lt_zero _), HU.out⟩
  case round =>
    obtain ⟨I, rfl, hI, hall, hur⟩ := hrel
    have HALL := Lib.hid hall
    have HUR := Lib.hid hur
    clear hall hur
    by_cases hlt : I < N
    · have hiz : (I : Int) < (N : Int) := by omega
      obtain ⟨kb, ko, t, q, p, rfl, ht, hcell, c0, c2, hT, hgx, hsz⟩ := kid_at (nk := nk) (lg := lg) HN.out hlt HK.out
      have cI := fun W' (h : Up W W') => HI.out t (by have := HF.out; omega) (okS_get HS.out ht) 9 W W' _ hT h
      have HGX := Lib.hid hgx
      obtain ⟨b, hb⟩ : ∃ b, isT nk lg t 9 = b := ⟨_, rfl⟩
      have HB : Hid ((infT nk lg t).is 9 = b) := Lib.hid hb
      rw [hb] at cI
      have CI := Lib.hid cI
      have hcr := HUR.out.cell hcell
      clear hcell c0 c2 hT cI hgx hsz hb ht
      cases b with
      | false =>
        have HE : Hid (seqOk (infF nk lg f) (65 :: r) = false) := Lib.hid (seq_A_no HGX.out HB.out)
        go_wp2_with fail
        refine (CI.out _ HUR.out).mono ?_
        rintro e w5 ⟨rfl, u5⟩
        go_wp2_with fail
        go_ret
        exact bop_ret HE.out u5
      | true =>
        go_wp2_with fail
        refine (CI.out _ HUR.out).mono ?_
        rintro e w5 ⟨rfl, u5⟩
        have HNX : Hid (∀ (j : Nat) x, j < I + 1 → (infF nk lg f)[j]? = some x → x.is 9 = true) := Lib.hid fun j x hj hx => by
          by_cases e : j = I
          · subst e
            rw [HGX.out] at hx
            injection hx with hx
            rw [← hx]
            exact HB.out
          · exact HALL.out j x (by omega) hx
        have U5 := Lib.hid u5
        clear u5
        go_wp2_with fail
        go_loopw [7] (fun k wb => k = .int .i64 0 ∧ wb = w5) (fun _ _ => 0)
        case atStart => exact ⟨rfl, rfl⟩
        case round =>
          obtain ⟨rfl, rfl⟩ := hrel
          by_cases h0 : I = 0
          · have hz : ¬ (0 : Int) < (I : Int) := by omega
            go_wp2_with fail
            go_roundw
            case rel => exact ⟨I + 1, by go_num, by omega, HNX.out, U5.out⟩
            case measure => simp [intOf]; omega
          · have hz : (0 : Int) < (I : Int) := by omega
            go_wp2_with fail
            go_roundw
            case rel => exact ⟨I + 1, by go_num, by omega, HNX.out, U5.out⟩
            case measure => simp [intOf]; omega
    · have hiz : ¬ (I : Int) < (N : Int) := by omega
      have HE : Hid (seqOk (infF nk lg f) (65 :: r) = decide (0 < N)) := Lib.hid (by
        rw [seq_A_yes fun i j hij => HALL.out i j (by
          have := (List.getElem?_eq_some_iff.1 hij).1
          rw [HLL.out] at this
          omega) hij, HLL.out])
      go_wp2_with fail
      go_ret
      exact bop_ret HE.out HUR.out
set_option maxHeartbeats 6400000 in
set_option maxRecDepth 100000 in
theorem kids_C {nk lg : ByteArray → Bool} {n : Nat} (ih : IsAt nk lg n) (r : List UInt8) (f : Fr) (hf : f.sz ≤ n) (hs : okS f) (hn : n ≤ 1000000) (W w : World) (v : Value) (hv : HasK W v f) (hu : Up W w) :
    Calls Try.prog 47 #[v, .string (byt (67 :: r))] w (BoP (seqOk (infF nk lg f) (67 :: r)) W) := by
  obtain ⟨T, hT, t1, t2, t3, t4, t5, t6, -⟩ := byt_facts 67 r
  rw [hT]
  have h42 : (((T[0]'t3).toNat : Int) == 42) = false := by rw [t5 t3]; rfl
  have h67 : (((T[0]'t3).toNat : Int) == 67) = true := by rw [t5 t3]; rfl
  have h65 : (((T[0]'t3).toNat : Int) == 65) = false := by rw [t5 t3]; rfl
  obtain ⟨A, cp, rfl, hc, hk⟩ := id hv
  have hlen := Fr.len_le f
  obtain ⟨N, hN⟩ : ∃ N, f.len = N := ⟨_, rfl⟩
  rw [hN] at hc hlen hk ⊢
  have hN6 : N ≤ 1000000 := by omega
  have hll : (infF nk lg f).length = N := by rw [infF_len, hN]
  have HLL := Lib.hid hll
  have HK := Lib.hid hk
  have HI := Lib.hid ih
  have HN := Lib.hid hN
  have HF := Lib.hid hf
  have HS := Lib.hid hs
  have HU := Lib.hid hu
  clear hv hk ih hN hf hs hu t2 t4 t5 t6 hT hll
  go_enter Try.func47, Try.ntmps47
  go_wp2_with fail
  go_loopw [6, 7] (fun i _ wr => ∃ I : Nat, i = .int .i64 I ∧ I ≤ N ∧ (∀ (j : Nat) x, j < I → (infF nk lg f)[j]? = some x → x.is 8 = true ∧ ∀ (k : Nat) a, k < j → (infF nk lg f)[k]? = some a → a.a ≠ x.a) ∧ Up W wr) (fun i _ _ => N - (intOf i).toNat)
  case atStart => exact ⟨0, rfl, Nat.zero_le _, fun j x hj => absurd hj (Nat.not_lt_zero _), HU.out⟩
  case round =>
    obtain ⟨I, rfl, hI, hall, hur⟩ := hrel
    have HALL := Lib.hid hall
    have HUR := Lib.hid hur
    clear hall hur
    by_cases hlt : I < N
    · have hiz : (I : Int) < (N : Int) := by omega
      obtain ⟨kb, ko, t, q, p, rfl, ht, hcell, c0, c2, hT, hgx, hsz⟩ := kid_at (nk := nk) (lg := lg) HN.out hlt HK.out
      have cI := fun W' (h : Up W W') => HI.out t (by have := HF.out; omega) (okS_get HS.out ht) 8 W W' _ hT h
      have HGX := Lib.hid hgx
      obtain ⟨b, hb⟩ : ∃ b, isT nk lg t 8 = b := ⟨_, rfl⟩
      have HB : Hid ((infT nk lg t).is 8 = b) := Lib.hid hb
      rw [hb] at cI
      have CI := Lib.hid cI
      have hcr := HUR.out.cell hcell
      have HCELL := Lib.hid hcell
      have HC2 := Lib.hid c2
      clear hcell c0 c2 hT cI hgx hsz hb ht
      cases b with
      | false =>
        have HE : Hid (seqOk (infF nk lg f) (67 :: r) = false) := Lib.hid (seq_C_no1 HGX.out HB.out)
        go_wp2_with fail
        refine (CI.out _ HUR.out).mono ?_
        rintro e w5 ⟨rfl, u5⟩
        go_wp2_with fail
        go_ret
        exact bop_ret HE.out u5
      | true =>
        go_wp2_with fail
        refine (CI.out _ HUR.out).mono ?_
        rintro e w5 ⟨rfl, u5⟩
        have U5 := Lib.hid u5
        clear u5
        go_wp2_with fail
        go_loopw [7] (fun k wb => ∃ K : Nat, k = .int .i64 K ∧ K ≤ I ∧ (∀ (j : Nat) x, j < K → (infF nk lg f)[j]? = some x → x.a ≠ t.1.a) ∧ Up W wb) (fun k _ => I - (intOf k).toNat)
        case atStart => exact ⟨0, rfl, Nat.zero_le _, fun j x hj => absurd hj (Nat.not_lt_zero _), U5.out⟩
        case round =>
          obtain ⟨K, rfl, hK, hdis, hub⟩ := hrel
          have HDIS := Lib.hid hdis
          have HUB := Lib.hid hub
          clear hdis hub
          by_cases hKI : K < I
          · have hkz : (K : Int) < (I : Int) := by omega
            have hkn : (K : Int) < (N : Int) := by omega
            obtain ⟨kb', ko', t', q', p', hA, ht', hcell', c0', c2', -, hgx', -⟩ := kid_at (nk := nk) (lg := lg) HN.out (show K < N by omega) HK.out
            injection hA with hA
            injection hA with hA1 hA2
            subst hA1 hA2
            have HGX' := Lib.hid hgx'
            have hcu : ∀ u : Upw W, u.w.cell? ⟨kb, ko + I, none⟩ = some (.pointer (some ⟨q, p, none⟩)) := fun u => u.cell HCELL.out
            have c2u : ∀ u : Upw W, u.w.cell? ⟨q, p + 2, none⟩ = some (.string t.1.a) := fun u => u.cell HC2.out
            have hcu' : ∀ u : Upw W, u.w.cell? ⟨kb, ko + K, none⟩ = some (.pointer (some ⟨q', p', none⟩)) := fun u => u.cell hcell'
            have c2u' : ∀ u : Upw W, u.w.cell? ⟨q', p' + 2, none⟩ = some (.string t'.1.a) := fun u => u.cell c2'
            clear hcell' c0' c2' ht' hgx'
            by_cases hna : t'.1.a = t.1.a
            · obtain ⟨e1, f1⟩ := txt_eq hna
              have HE : Hid (seqOk (infF nk lg f) (67 :: r) = false) := Lib.hid (seq_C_no2 hKI HGX'.out HGX.out hna)
              clear hna
              go_wp2_with fail
              refine wp_region_up HUB.out (by kernel_rfl) (by kernel_rfl) ?_
              repeat (go_big_quiet_step (fail))
              refine wpQuiet_nil ?_
              rintro _ ⟨⟨w9, u9⟩, rfl⟩
              go_wp2_with fail
              go_ret
              exact bop_ret HE.out u9
            · obtain ⟨e1, f1⟩ := txt_ne hna
              have HNX : Hid (∀ (j : Nat) x, j < K + 1 → (infF nk lg f)[j]? = some x → x.a ≠ t.1.a) := Lib.hid fun j x hj hx => by
                by_cases e : j = K
                · subst e
                  rw [HGX'.out] at hx
                  injection hx with hx
                  rw [← hx]
                  exact hna
                · exact HDIS.out j x (by omega) hx
              clear hna
              go_wp2_with fail
              refine wp_region_up HUB.out (by kernel_rfl) (by kernel_rfl) ?_
              repeat (go_big_quiet_step (fail))
              refine wpQuiet_nil ?_
              rintro _ ⟨⟨w9, u9⟩, rfl⟩
              go_wp2_with fail
              go_roundw
              case rel => exact ⟨K + 1, by go_num, by omega, HNX.out, u9⟩
              case measure => simp [intOf]; omega
          · have hkz : ¬ (K : Int) < (I : Int) := by omega
            have HNX : Hid (∀ (j : Nat) x, j < I + 1 → (infF nk lg f)[j]? = some x → x.is 8 = true ∧ ∀ (k : Nat) a, k < j → (infF nk lg f)[k]? = some a → a.a ≠ x.a) := Lib.hid fun j x hj hx => by
              by_cases e : j = I
              · subst e
                rw [HGX.out] at hx
                injection hx with hx
                rw [← hx]
                exact ⟨HB.out, fun k a hk ha => HDIS.out k a (by omega) ha⟩
              · exact HALL.out j x (by omega) hx
            go_wp2_with fail
            go_roundw
            case rel => exact ⟨I + 1, by go_num, by omega, HNX.out, HUB.out⟩
            case measure => simp [intOf]; omega
    · have hiz : ¬ (I : Int) < (N : Int) := by omega
      have HE : Hid (seqOk (infF nk lg f) (67 :: r) = decide (0 < N)) := Lib.hid (by
        rw [seq_C_yes fun i j hij => HALL.out i j (by
          have := (List.getElem?_eq_some_iff.1 hij).1
          rw [HLL.out] at this
          omega) hij, HLL.out])
      go_wp2_with fail
      go_ret
      exact bop_ret HE.out HUR.out
end Go.Proofs.Ytoejegndbcbkmaa
/-
  The document's kids, sign by sign, and whole: what it tells, if Is tells what it should of smaller trees.
-/
namespace Go.Proofs.Ytoejegndbcbkmaa
open Go.RowKit

set_option maxHeartbeats 3200000 in
set_option maxRecDepth 100000 in
theorem kids_nil {nk lg : ByteArray → Bool} (f : Fr) (W w : World) (v : Value) (hv : HasK W v f) (hu : Up W w) :
    Calls Try.prog 47 #[v, .string (byt [])] w (BoP (seqOk (infF nk lg f) []) W) := by
  have t1 : (byt []).toList.isEmpty = true := by rw [Lib.toList_data]; rfl
  have t2 : ((byt []).toList == []) = true := by rw [Lib.toList_data]; rfl
  obtain ⟨A, cp, rfl, hc, -⟩ := hv
  have hls : seqOk (infF nk lg f) [] = ((f.len : Int) == 0) := by
    unfold seqOk
    rw [← infF_len (nk := nk) (lg := lg)]
    cases infF nk lg f with
    | nil => rfl
    | cons x l =>
      show false = _
      symm
      rw [beq_eq_false_iff_ne]
      simp
      omega
  have HLS := Lib.hid hls
  clear hls
  go_enter Try.func47, Try.ntmps47
  go_wp2_with fail
  go_ret
  exact bop_ret HLS.out hu
/-- The kids behind the first one. -/
theorem HasK.tail {W : World} {x : Nod} {k r : Fr} {cp : Nat} {kb ko : Nat} (h : HasK W (.slice (some ⟨kb, ko, none⟩) (Fr.cons x k r).len cp) (.cons x k r)) :
    HasK W (.slice (if cp = 1 then some ⟨kb, ko, none⟩ else some ⟨kb, ko + 1, none⟩) r.len (cp - 1)) r := by
  obtain ⟨A, c, hv, hc, hk⟩ := h
  injection hv with h1 h2 h3
  subst h3
  refine ⟨_, _, rfl, by simp only [Fr.len] at hc; omega, fun h0 => ?_⟩
  obtain ⟨kb', ko', hA, hkb, hin⟩ := hk (by simp only [Fr.len]; omega)
  rw [hA] at h1
  injection h1 with h1
  injection h1 with h1 h4
  subst h1 h4
  refine ⟨kb, ko + 1, ?_, hkb, hin.2⟩
  rw [if_neg (by simp only [Fr.len] at hc; omega)]
set_option maxHeartbeats 6400000 in
set_option maxRecDepth 100000 in
theorem kids_sign {nk lg : ByteArray → Bool} {n : Nat} (ih : IsAt nk lg n) (c : UInt8) (r : List UInt8) (g1 : c ≠ 42) (g2 : c ≠ 67) (g3 : c ≠ 65) (f : Fr) (hf : f.sz ≤ n) (hs : okS f) (hn : n ≤ 1000000) (W : World) (v : Value) (hv : HasK W v f)
    (hr : ∀ (f' : Fr) (v' : Value) (w' : World), f'.sz ≤ n → okS f' → HasK W v' f' → Up W w' → Calls Try.prog 47 #[v', .string (byt r)] w' (BoP (seqOk (infF nk lg f') r) W)) (w : World) (hu : Up W w) :
    Calls Try.prog 47 #[v, .string (byt (c :: r))] w (BoP (seqOk (infF nk lg f) (c :: r)) W) := by
  obtain ⟨T, hT, t1, t2, t3, t4, t5, t6, t7⟩ := byt_facts c r
  rw [hT]
  have h42 : ((c.toNat : Int) == 42) = false := u8_ne (d := 42) g1
  have h67 : ((c.toNat : Int) == 67) = false := u8_ne (d := 67) g2
  have h65 : ((c.toNat : Int) == 65) = false := u8_ne (d := 65) g3
  have hc0 : T[0]'t3 = c := t5 t3
  have hcat := fun W => cat_any c W
  have hsg := seq_sign (l := infF nk lg f) (r := r) g1 g2 g3
  have HC := Lib.hid hcat
  have HI := Lib.hid ih
  have HU := Lib.hid hu
  have HR := Lib.hid hr
  have HSG := Lib.hid hsg
  have t1z : (1 : Int) ≤ (T.size : Int) := by omega
  clear hcat ih hu hr hsg t2 t4 t5 t6 hT g1 g2 g3
  cases f with
  | nil =>
    obtain ⟨A, cp, rfl, hc, -⟩ := hv
    have HE : Hid (seqOk (infF nk lg .nil) (c :: r) = false) := Lib.hid (by rw [HSG.out]; rfl)
    have hl0 : (Fr.nil).len = 0 := rfl
    rw [hl0]
    clear HSG
    go_enter Try.func47, Try.ntmps47
    go_wp2_with fail
    refine wp_region_up HU.out (by kernel_rfl) (by kernel_rfl) ?_
    repeat (go_big_quiet_step (fail))
    refine wpQuiet_nil ?_
    rintro _ ⟨⟨w9, u9⟩, rfl⟩
    go_wp2_with fail
    go_ret
    exact bop_ret HE.out u9
  | cons x k rs =>
    obtain ⟨A, cp, rfl, hc, hk⟩ := id hv
    obtain ⟨kb, ko, rfl, hkb, ⟨u, hcell, hu⟩, hin⟩ := hk (Nat.succ_pos _)
    have htl := HasK.tail hv
    have hu : InT W (fun q => q < W.heap.size) u (x, k) := hu
    obtain ⟨q, p, rfl⟩ := hu.ptr
    have hT : HasT W (.pointer (some ⟨q, p, none⟩)) (some (x, k)) := hu
    have hsz : (Fr.cons x k rs).sz = 1 + k.sz + rs.sz := rfl
    have hsz2 : szT (x, k) = 1 + k.sz := rfl
    have cI := fun W' (h : Up W W') => HI.out (x, k) (by omega) ⟨hs.1, hs.2.1, hs.2.2.1⟩ (catOf c) W W' _ hT h
    have cR := fun W' (h : Up W W') => HR.out rs _ W' (by omega) hs.2.2.2 htl h
    obtain ⟨b, hb⟩ : ∃ b, isT nk lg (x, k) (catOf c) = b := ⟨_, rfl⟩
    have HSQ : Hid (seqOk (infF nk lg (.cons x k rs)) (c :: r) = (b && seqOk (infF nk lg rs) r)) := Lib.hid (by rw [HSG.out, ← hb]; rfl)
    rw [hb] at cI
    obtain ⟨M, hM⟩ : ∃ M, rs.len = M := ⟨_, rfl⟩
    have hl : (Fr.cons x k rs).len = M + 1 := by show rs.len + 1 = _; rw [hM]
    rw [hl] at hc ⊢
    rw [hM] at cR
    obtain ⟨D, hD⟩ : ∃ D, seqOk (infF nk lg rs) r = D := ⟨_, rfl⟩
    rw [hD] at cR HSQ
    have CI := Lib.hid cI
    have CR := Lib.hid cR
    have hll := Fr.len_le (Fr.cons x k rs)
    have hM6 : M ≤ 1000000 := by omega
    have hcu : ∀ u : Upw W, u.w.cell? ⟨kb, ko, none⟩ = some (.pointer (some ⟨q, p, none⟩)) := fun u => u.cell hcell
    have hm0 : (0 : Int) < ((M + 1 : Nat) : Int) := by omega
    have hm1 : (1 : Int) ≤ ((M + 1 : Nat) : Int) := by omega
    have hm2 : ((M + 1 : Nat) : Int) ≤ (cp : Int) := by omega
    clear hcell hin hu hT cI cR hb hsz hsz2 htl hk hv HSG hs hf hl hll hD hM
    cases b with
    | false =>
      go_enter Try.func47, Try.ntmps47
      go_wp2_with fail
      refine wp_region_up HU.out (by kernel_rfl) (by kernel_rfl) ?_
      repeat (go_big_quiet_step (first
            | (go_at_call 66; exact Calls.upw ((HC.out _).mono fun _ _ h => ⟨h.1, h.2 ▸ (by assumption : Upw W).h⟩))
            | (go_at_call 28; exact Calls.upw (CI.out _ (by assumption : Upw W).h))))
      refine wpQuiet_nil ?_
      rintro _ ⟨⟨w9, u9⟩, rfl⟩
      go_wp2_with fail
      go_ret
      exact bop_ret HSQ.out u9
    | true =>
      by_cases h1 : cp = 1
      · subst h1
        obtain rfl : M = 0 := by omega
        rw [if_pos rfl] at CR
        go_enter Try.func47, Try.ntmps47
        go_wp2_with fail
        refine wp_region_up HU.out (by kernel_rfl) (by kernel_rfl) ?_
        repeat (go_big_quiet_step (first
            | (go_at_call 66; exact Calls.upw ((HC.out _).mono fun _ _ h => ⟨h.1, h.2 ▸ (by assumption : Upw W).h⟩))
            | (go_at_call 28; exact Calls.upw (CI.out _ (by assumption : Upw W).h))
            | (go_at_call 47; exact Calls.upw (CR.out _ (by assumption : Upw W).h))))
        refine wpQuiet_nil ?_
        rintro _ ⟨⟨w9, u9⟩, rfl⟩
        go_wp2_with fail
        go_ret
        exact bop_ret HSQ.out u9
      · rw [if_neg h1] at CR
        go_enter Try.func47, Try.ntmps47
        go_wp2_with fail
        refine wp_region_up HU.out (by kernel_rfl) (by kernel_rfl) ?_
        repeat (go_big_quiet_step (first
            | (go_at_call 66; exact Calls.upw ((HC.out _).mono fun _ _ h => ⟨h.1, h.2 ▸ (by assumption : Upw W).h⟩))
            | (go_at_call 28; exact Calls.upw (CI.out _ (by assumption : Upw W).h))
            | (go_at_call 47; exact Calls.upw (CR.out _ (by assumption : Upw W).h))))
        refine wpQuiet_nil ?_
        rintro _ ⟨⟨w9, u9⟩, rfl⟩
        go_wp2_with fail
        go_ret
        exact bop_ret HSQ.out u9
theorem kids_any {nk lg : ByteArray → Bool} {n : Nat} (ih : IsAt nk lg n) (hn : n ≤ 1000000) (W : World) : ∀ (l : List UInt8), goodW l = true → ∀ (f : Fr) (v : Value) (w : World), f.sz ≤ n → okS f → HasK W v f → Up W w →
    Calls Try.prog 47 #[v, .string (byt l)] w (BoP (seqOk (infF nk lg f) l) W)
  | [], _, f, v, w, _, _, hv, hu => kids_nil f W w v hv hu
  | c :: r, hg, f, v, w, hf, hs, hv, hu => by
    unfold goodW at hg
    by_cases g1 : c = 42
    · subst g1
      cases r with
      | nil => simp at hg
      | cons d r => exact kids_star ih d r f hf hs hn W w v hv hu
    · by_cases g2 : c = 67
      · subst g2
        exact kids_C ih r f hf hs hn W w v hv hu
      · by_cases g3 : c = 65
        · subst g3
          exact kids_A ih r f hf hs hn W w v hv hu
        · rw [if_neg g1, if_neg g2, if_neg g3] at hg
          exact kids_sign ih c r g1 g2 g3 f hf hs hn W v hv (fun f' v' w' h1 h2 h3 h4 => kids_any ih hn W r hg f' v' w' h1 h2 h3 h4) w hu
end Go.Proofs.Ytoejegndbcbkmaa
