/-
  The document's kids, of constructors and arms: what it tells, if Is tells what it should of smaller trees.
-/
import Derived.Test.YtklblhadhoppeaaGreatDoorGq23
import Derived.Test.YtklblhadhoppeaaGreatDoorGq25
import Derived.Below
import Derived.BigQuiet
import Derived.Deep.AppendLies
import Derived.Deep.DeepMust
import Derived.Deep.QuietTactic
import Derived.Deep.RegionHeld3
import Derived.Deep.RegionLaw
import Derived.KernelRfl
import Derived.Laws.Rows
import Derived.Laws.Tables
import Derived.Lib.AppendIntMem
import Derived.Lib.AtoiAll
import Derived.Lib.AtoiErrMem
import Derived.Lib.CountLaws
import Derived.Lib.CutLaws
import Derived.Lib.Hide
import Derived.Lib.IndexBytes
import Derived.Lib.ItoaLen
import Derived.Lib.ItoaNum
import Derived.Lib.Join
import Derived.Lib.LaidTab
import Derived.Lib.OthersKept
import Derived.Lib.Replace
import Derived.Lib.RuneCount
import Derived.Lib.Split
import Derived.Lib.Strings
import Derived.Lib.ValidLaws
import Derived.Maps.AppendAt
import Derived.Outline
import Derived.OwnWalk
import Derived.Shelf.Bits.Mul64
import Derived.Shelf.LaysC
import Derived.Shelf.LaysM
import Derived.Shelf.Slices.Turned
import Derived.Shelf.Small.Utf8
import Derived.Shelf.Strconv.Atoi
import Derived.Shelf.Strconv.AtoiAll
import Derived.Shelf.Strconv.AtoiErr
import Derived.Shelf.Strconv.AtoiErrFast
import Derived.Shelf.Strconv.AtoiFail
import Derived.Shelf.Strconv.AtoiInnerAll
import Derived.Shelf.Strconv.AtoiLong
import Derived.Shelf.Strconv.Clone
import Derived.Shelf.Strconv.ErrVarAll
import Derived.Shelf.Strconv.Itoa0
import Derived.Shelf.Strconv.Itoa1
import Derived.Shelf.Strconv.Itoa2
import Derived.Shelf.Strconv.Itoa3
import Derived.Shelf.Strconv.Lower
import Derived.Shelf.Strconv.ParseInt10
import Derived.Shelf.Strconv.ParseIntEmpty
import Derived.Shelf.Strconv.ParseUint10
import Derived.Shelf.Strconv.ParseUint10Any
import Derived.Shelf.Strconv.ParseUint10Empty
import Derived.Shelf.Strconv.RangeError
import Derived.Shelf.Strconv.SyntaxError
import Derived.Shelf.Strconv.ToError
import Derived.Shelf.Strconv.ToErrorRange
import Derived.Shelf.Strings.Builder1
import Derived.Shelf.Strings.Builder2
import Derived.Shelf.Strings.Count
import Derived.Shelf.Strings.Cut
import Derived.Shelf.Strings.OnBuilder
import Derived.Shelf.Strings.Prefix
import Derived.Shelf.Strings.Replace
import Derived.Shelf.Strings.Search1
import Derived.Shelf.Strings.Search2
import Derived.Shelf.Strings.Search3
import Derived.Shelf.Strings.Shaped
import Derived.Shelf.Strings.Split
import Derived.Shelf.Strings.SplitShaped
import Derived.Shelf.Unicode.DecodeAny
import Derived.Shelf.Unicode.DecodeSlow
import Derived.Shelf.Utf8.RuneCount
import Derived.Test.YtklblhadhoppeaaGreatDoorProg
import Derived.Test.YtklblhadhoppeaaGreatDoorRows
import Derived.WalkKit
import Derived.WalkLawsBesides
import Derived.WalkSmall
import Derived.WalkSpells
namespace Go.Proofs.YtklblhadhoppeaaGreatDoor
open Go.RowKit

/-- A kid at a place: its pointer, its node's Name, and what is asked of it. -/
theorem kid_at {nk lg : ByteArray → Bool} {W : World} {f : Fr} {A : Option Addr} {i N : Nat} (hN : f.len = N) (hi : i < N) (hk : 0 < N → ∃ kb ko, A = some ⟨kb, ko, none⟩ ∧ kb < W.heap.size ∧ InF W (fun q => q < W.heap.size) f kb ko) :
    ∃ kb ko t q p, A = some ⟨kb, ko, none⟩ ∧ f.get i = some t ∧ W.cell? ⟨kb, ko + i, none⟩ = some (.pointer (some ⟨q, p, none⟩)) ∧ W.cell? ⟨q, p, none⟩ = some (.int .i64 t.1.k) ∧ W.cell? ⟨q, p + 2, none⟩ = some (.string t.1.a) ∧
      HasT W (.pointer (some ⟨q, p, none⟩)) (some t) ∧ (infF nk lg f)[i]? = some (infT nk lg t) ∧ szT t ≤ f.sz := by
  obtain ⟨t, ht⟩ := Fr.get_some (f := f) (i := i) (by rw [hN]; exact hi)
  obtain ⟨kb, ko, rfl, hkb, hin⟩ := hk (by omega)
  obtain ⟨u, hcell, hu⟩ := hin.at ht
  obtain ⟨q, p, A', c', rfl, -, c0, -, c2, -⟩ := InT.open (x := t.1) (ks := t.2) hu
  exact ⟨kb, ko, t, q, p, rfl, ht, hcell, c0, c2, hu, by rw [infF_get, ht]; rfl, Fr.get_sz ht⟩
set_option maxHeartbeats 6400000 in
set_option maxRecDepth 100000 in
theorem kids_A {nk lg : ByteArray → Bool} {n : Nat} (ih : IsAt nk lg n) (r : List UInt8) (f : Fr) (hf : f.sz ≤ n) (hs : okS f) (hn : n ≤ 1000000) (W w : World) (v : Value) (hv : HasK W v f) (hu : Up W w) :
    Calls Tryz.prog 130 #[v, .string (byt (65 :: r))] w (BoP (seqOk (infF nk lg f) (65 :: r)) W) := by
  obtain ⟨T, hT, t1, t2, t3, t4, t5, t6, -⟩ := byt_facts 65 r
  rw [hT]
  have h42 : (((T[0]'t3).toNat : Int) == 42) = false := by rw [t5 t3]; rfl
  have h67 : (((T[0]'t3).toNat : Int) == 67) = false := by rw [t5 t3]; rfl
  have h65 : (((T[0]'t3).toNat : Int) == 65) = true := by rw [t5 t3]; rfl
  obtain ⟨A, cp, rfl, hc, hk⟩ := id hv
  have hlen := Fr.len_le f
  obtain ⟨N, hN⟩ : ∃ N, f.len = N := ⟨_, rfl⟩
  rw [hN] at hc hlen hk ⊢
  have hN6 : N ≤ 1000000 := by omega
  have hll : (infF nk lg f).length = N := by rw [infF_len, hN]
  have HLL := Lib.hid hll
  have HK := Lib.hid hk
  have HI := Lib.hid ih
  have HN := Lib.hid hN
  have HF := Lib.hid hf
  have HS := Lib.hid hs
  have HU := Lib.hid hu
  clear hv hk ih hN hf hs hu t2 t4 t5 t6 hT hll
  go_enter Tryz.func130, Tryz.ntmps130
  go_wp2_with fail
  go_loopw [6, 7] (fun i _ wr => ∃ I : Nat, i = .int .i64 I ∧ I ≤ N ∧ (∀ (j : Nat) x, j < I → (infF nk lg f)[j]? = some x → x.is 9 = true) ∧ Up W wr) (fun i _ _ => N - (intOf i).toNat)
  case atStart => exact ⟨0, rfl, Nat.zero_le _, fun j x hj => absurd hj (Nat.not_lt_zero _), HU.out⟩
  case round =>
    obtain ⟨I, rfl, hI, hall, hur⟩ := hrel
    have HALL := Lib.hid hall
    have HUR := Lib.hid hur
    clear hall hur
    by_cases hlt : I < N
    · have hiz : (I : Int) < (N : Int) := by omega
      obtain ⟨kb, ko, t, q, p, rfl, ht, hcell, c0, c2, hT, hgx, hsz⟩ := kid_at (nk := nk) (lg := lg) HN.out hlt HK.out
      have cI := fun W' (h : Up W W') => HI.out t (by have := HF.out; omega) (okS_get HS.out ht) 9 W W' _ hT h
      have HGX := Lib.hid hgx
      obtain ⟨b, hb⟩ : ∃ b, isT nk lg t 9 = b := ⟨_, rfl⟩
      have HB : Hid ((infT nk lg t).is 9 = b) := Lib.hid hb
      rw [hb] at cI
      have CI := Lib.hid cI
      have hcr := HUR.out.cell hcell
      clear hcell c0 c2 hT cI hgx hsz hb ht
      cases b with
      | false =>
        have HE : Hid (seqOk (infF nk lg f) (65 :: r) = false) := Lib.hid (seq_A_no HGX.out HB.out)
        go_wp2_with fail
        refine (CI.out _ HUR.out).mono ?_
        rintro e w5 ⟨rfl, u5⟩
        go_wp2_with fail
        go_ret
        exact bop_ret HE.out u5
      | true =>
        go_wp2_with fail
        refine (CI.out _ HUR.out).mono ?_
        rintro e w5 ⟨rfl, u5⟩
        have HNX : Hid (∀ (j : Nat) x, j < I + 1 → (infF nk lg f)[j]? = some x → x.is 9 = true) := Lib.hid fun j x hj hx => by
          by_cases e : j = I
          · subst e
            rw [HGX.out] at hx
            injection hx with hx
            rw [← hx]
            exact HB.out
          · exact HALL.out j x (by omega) hx
        have U5 := Lib.hid u5
        clear u5
        go_wp2_with fail
        go_loopw [7] (fun k wb => k = .int .i64 0 ∧ wb = w5) (fun _ _ => 0)
        case atStart => exact ⟨rfl, rfl⟩
        case round =>
          obtain ⟨rfl, rfl⟩ := hrel
          by_cases h0 : I = 0
          · have hz : ¬ (0 : Int) < (I : Int) := by omega
            go_wp2_with fail
            go_roundw
            case rel => exact ⟨I + 1, by go_num, by omega, HNX.out, U5.out⟩
            case measure => simp [intOf]; omega
          · have hz : (0 : Int) < (I : Int) := by omega
            go_wp2_with fail
            go_roundw
            case rel => exact ⟨I + 1, by go_num, by omega, HNX.out, U5.out⟩
            case measure => simp [intOf]; omega
    · have hiz : ¬ (I : Int) < (N : Int) := by omega
      have HE : Hid (seqOk (infF nk lg f) (65 :: r) = decide (0 < N)) := Lib.hid (by
        rw [seq_A_yes fun i j hij => HALL.out i j (by
          have := (List.getElem?_eq_some_iff.1 hij).1
          rw [HLL.out] at this
          omega) hij, HLL.out])
      go_wp2_with fail
      go_ret
      exact bop_ret HE.out HUR.out
set_option maxHeartbeats 6400000 in
set_option maxRecDepth 100000 in
theorem kids_C {nk lg : ByteArray → Bool} {n : Nat} (ih : IsAt nk lg n) (r : List UInt8) (f : Fr) (hf : f.sz ≤ n) (hs : okS f) (hn : n ≤ 1000000) (W w : World) (v : Value) (hv : HasK W v f) (hu : Up W w) :
    Calls Tryz.prog 130 #[v, .string (byt (67 :: r))] w (BoP (seqOk (infF nk lg f) (67 :: r)) W) := by
  obtain ⟨T, hT, t1, t2, t3, t4, t5, t6, -⟩ := byt_facts 67 r
  rw [hT]
  have h42 : (((T[0]'t3).toNat : Int) == 42) = false := by rw [t5 t3]; rfl
  have h67 : (((T[0]'t3).toNat : Int) == 67) = true := by rw [t5 t3]; rfl
  have h65 : (((T[0]'t3).toNat : Int) == 65) = false := by rw [t5 t3]; rfl
  obtain ⟨A, cp, rfl, hc, hk⟩ := id hv
  have hlen := Fr.len_le f
  obtain ⟨N, hN⟩ : ∃ N, f.len = N := ⟨_, rfl⟩
  rw [hN] at hc hlen hk ⊢
  have hN6 : N ≤ 1000000 := by omega
  have hll : (infF nk lg f).length = N := by rw [infF_len, hN]
  have HLL := Lib.hid hll
  have HK := Lib.hid hk
  have HI := Lib.hid ih
  have HN := Lib.hid hN
  have HF := Lib.hid hf
  have HS := Lib.hid hs
  have HU := Lib.hid hu
  clear hv hk ih hN hf hs hu t2 t4 t5 t6 hT hll
  go_enter Tryz.func130, Tryz.ntmps130
  go_wp2_with fail
  go_loopw [6, 7] (fun i _ wr => ∃ I : Nat, i = .int .i64 I ∧ I ≤ N ∧ (∀ (j : Nat) x, j < I → (infF nk lg f)[j]? = some x → x.is 8 = true ∧ ∀ (k : Nat) a, k < j → (infF nk lg f)[k]? = some a → a.a ≠ x.a) ∧ Up W wr) (fun i _ _ => N - (intOf i).toNat)
  case atStart => exact ⟨0, rfl, Nat.zero_le _, fun j x hj => absurd hj (Nat.not_lt_zero _), HU.out⟩
  case round =>
    obtain ⟨I, rfl, hI, hall, hur⟩ := hrel
    have HALL := Lib.hid hall
    have HUR := Lib.hid hur
    clear hall hur
    by_cases hlt : I < N
    · have hiz : (I : Int) < (N : Int) := by omega
      obtain ⟨kb, ko, t, q, p, rfl, ht, hcell, c0, c2, hT, hgx, hsz⟩ := kid_at (nk := nk) (lg := lg) HN.out hlt HK.out
      have cI := fun W' (h : Up W W') => HI.out t (by have := HF.out; omega) (okS_get HS.out ht) 8 W W' _ hT h
      have HGX := Lib.hid hgx
      obtain ⟨b, hb⟩ : ∃ b, isT nk lg t 8 = b := ⟨_, rfl⟩
      have HB : Hid ((infT nk lg t).is 8 = b) := Lib.hid hb
      rw [hb] at cI
      have CI := Lib.hid cI
      have hcr := HUR.out.cell hcell
      have HCELL := Lib.hid hcell
      have HC2 := Lib.hid c2
      clear hcell c0 c2 hT cI hgx hsz hb ht
      cases b with
      | false =>
        have HE : Hid (seqOk (infF nk lg f) (67 :: r) = false) := Lib.hid (seq_C_no1 HGX.out HB.out)
        go_wp2_with fail
        refine (CI.out _ HUR.out).mono ?_
        rintro e w5 ⟨rfl, u5⟩
        go_wp2_with fail
        go_ret
        exact bop_ret HE.out u5
      | true =>
        go_wp2_with fail
        refine (CI.out _ HUR.out).mono ?_
        rintro e w5 ⟨rfl, u5⟩
        have U5 := Lib.hid u5
        clear u5
        go_wp2_with fail
        go_loopw [7] (fun k wb => ∃ K : Nat, k = .int .i64 K ∧ K ≤ I ∧ (∀ (j : Nat) x, j < K → (infF nk lg f)[j]? = some x → x.a ≠ t.1.a) ∧ Up W wb) (fun k _ => I - (intOf k).toNat)
        case atStart => exact ⟨0, rfl, Nat.zero_le _, fun j x hj => absurd hj (Nat.not_lt_zero _), U5.out⟩
        case round =>
          obtain ⟨K, rfl, hK, hdis, hub⟩ := hrel
          have HDIS := Lib.hid hdis
          have HUB := Lib.hid hub
          clear hdis hub
          by_cases hKI : K < I
          · have hkz : (K : Int) < (I : Int) := by omega
            have hkn : (K : Int) < (N : Int) := by omega
            obtain ⟨kb', ko', t', q', p', hA, ht', hcell', c0', c2', -, hgx', -⟩ := kid_at (nk := nk) (lg := lg) HN.out (show K < N by omega) HK.out
            injection hA with hA
            injection hA with hA1 hA2
            subst hA1 hA2
            have HGX' := Lib.hid hgx'
            have hcu : ∀ u : Upw W, u.w.cell? ⟨kb, ko + I, none⟩ = some (.pointer (some ⟨q, p, none⟩)) := fun u => u.cell HCELL.out
            have c2u : ∀ u : Upw W, u.w.cell? ⟨q, p + 2, none⟩ = some (.string t.1.a) := fun u => u.cell HC2.out
            have hcu' : ∀ u : Upw W, u.w.cell? ⟨kb, ko + K, none⟩ = some (.pointer (some ⟨q', p', none⟩)) := fun u => u.cell hcell'
            have c2u' : ∀ u : Upw W, u.w.cell? ⟨q', p' + 2, none⟩ = some (.string t'.1.a) := fun u => u.cell c2'
            clear hcell' c0' c2' ht' hgx'
            by_cases hna : t'.1.a = t.1.a
            · obtain ⟨e1, f1⟩ := txt_eq hna
              have HE : Hid (seqOk (infF nk lg f) (67 :: r) = false) := Lib.hid (seq_C_no2 hKI HGX'.out HGX.out hna)
              clear hna
              go_wp2_with fail
              refine wp_region_up HUB.out (by kernel_rfl) (by kernel_rfl) ?_
              repeat (go_big_quiet_step (fail))
              refine wpQuiet_nil ?_
              rintro _ ⟨⟨w9, u9⟩, rfl⟩
              go_wp2_with fail
              go_ret
              exact bop_ret HE.out u9
            · obtain ⟨e1, f1⟩ := txt_ne hna
              have HNX : Hid (∀ (j : Nat) x, j < K + 1 → (infF nk lg f)[j]? = some x → x.a ≠ t.1.a) := Lib.hid fun j x hj hx => by
                by_cases e : j = K
                · subst e
                  rw [HGX'.out] at hx
                  injection hx with hx
                  rw [← hx]
                  exact hna
                · exact HDIS.out j x (by omega) hx
              clear hna
              go_wp2_with fail
              refine wp_region_up HUB.out (by kernel_rfl) (by kernel_rfl) ?_
              repeat (go_big_quiet_step (fail))
              refine wpQuiet_nil ?_
              rintro _ ⟨⟨w9, u9⟩, rfl⟩
              go_wp2_with fail
              go_roundw
              case rel => exact ⟨K + 1, by go_num, by omega, HNX.out, u9⟩
              case measure => simp [intOf]; omega
          · have hkz : ¬ (K : Int) < (I : Int) := by omega
            have HNX : Hid (∀ (j : Nat) x, j < I + 1 → (infF nk lg f)[j]? = some x → x.is 8 = true ∧ ∀ (k : Nat) a, k < j → (infF nk lg f)[k]? = some a → a.a ≠ x.a) := Lib.hid fun j x hj hx => by
              by_cases e : j = I
              · subst e
                rw [HGX.out] at hx
                injection hx with hx
                rw [← hx]
                exact ⟨HB.out, fun k a hk ha => HDIS.out k a (by omega) ha⟩
              · exact HALL.out j x (by omega) hx
            go_wp2_with fail
            go_roundw
            case rel => exact ⟨I + 1, by go_num, by omega, HNX.out, HUB.out⟩
            case measure => simp [intOf]; omega
    · have hiz : ¬ (I : Int) < (N : Int) := by omega
      have HE : Hid (seqOk (infF nk lg f) (67 :: r) = decide (0 < N)) := Lib.hid (by
        rw [seq_C_yes fun i j hij => HALL.out i j (by
          have := (List.getElem?_eq_some_iff.1 hij).1
          rw [HLL.out] at this
          omega) hij, HLL.out])
      go_wp2_with fail
      go_ret
      exact bop_ret HE.out HUR.out
end Go.Proofs.YtklblhadhoppeaaGreatDoor
namespace Go.Proofs.YtklblhadhoppeaaGreatDoor
open Go.RowKit

set_option maxHeartbeats 3200000 in
set_option maxRecDepth 100000 in
theorem kids_nil {nk lg : ByteArray → Bool} (f : Fr) (W w : World) (v : Value) (hv : HasK W v f) (hu : Up W w) :
    Calls Tryz.prog 130 #[v, .string (byt [])] w (BoP (seqOk (infF nk lg f) []) W) := by
  have t1 : (byt []).toList.isEmpty = true := by rw [Lib.toList_data]; rfl
  have t2 : ((byt []).toList == []) = true := by rw [Lib.toList_data]; rfl
  obtain ⟨A, cp, rfl, hc, -⟩ := hv
  have hls : seqOk (infF nk lg f) [] = ((f.len : Int) == 0) := by
    unfold seqOk
    rw [← infF_len (nk := nk) (lg := lg)]
    cases infF nk lg f with
    | nil => rfl
    | cons x l =>
      show false = _
      symm
      rw [beq_eq_false_iff_ne]
      simp
      omega
  have HLS := Lib.hid hls
  clear hls
  go_enter Tryz.func130, Tryz.ntmps130
  go_wp2_with fail
  go_ret
  exact bop_ret HLS.out hu
/-- The kids behind the first one. -/
theorem HasK.tail {W : World} {x : Nod} {k r : Fr} {cp : Nat} {kb ko : Nat} (h : HasK W (.slice (some ⟨kb, ko, none⟩) (Fr.cons x k r).len cp) (.cons x k r)) :
    HasK W (.slice (if cp = 1 then some ⟨kb, ko, none⟩ else some ⟨kb, ko + 1, none⟩) r.len (cp - 1)) r := by
  obtain ⟨A, c, hv, hc, hk⟩ := h
  injection hv with h1 h2 h3
  subst h3
  refine ⟨_, _, rfl, by simp only [Fr.len] at hc; omega, fun h0 => ?_⟩
  obtain ⟨kb', ko', hA, hkb, hin⟩ := hk (by simp only [Fr.len]; omega)
  rw [hA] at h1
  injection h1 with h1
  injection h1 with h1 h4
  subst h1 h4
  refine ⟨kb, ko + 1, ?_, hkb, hin.2⟩
  rw [if_neg (by simp only [Fr.len] at hc; omega)]
set_option maxHeartbeats 6400000 in
set_option maxRecDepth 100000 in
theorem kids_sign {nk lg : ByteArray → Bool} {n : Nat} (ih : IsAt nk lg n) (c : UInt8) (r : List UInt8) (g1 : c ≠ 42) (g2 : c ≠ 67) (g3 : c ≠ 65) (f : Fr) (hf : f.sz ≤ n) (hs : okS f) (hn : n ≤ 1000000) (W : World) (v : Value) (hv : HasK W v f)
    (hr : ∀ (f' : Fr) (v' : Value) (w' : World), f'.sz ≤ n → okS f' → HasK W v' f' → Up W w' → Calls Tryz.prog 130 #[v', .string (byt r)] w' (BoP (seqOk (infF nk lg f') r) W)) (w : World) (hu : Up W w) :
    Calls Tryz.prog 130 #[v, .string (byt (c :: r))] w (BoP (seqOk (infF nk lg f) (c :: r)) W) := by
  obtain ⟨T, hT, t1, t2, t3, t4, t5, t6, t7⟩ := byt_facts c r
  rw [hT]
  have h42 : ((c.toNat : Int) == 42) = false := u8_ne (d := 42) g1
  have h67 : ((c.toNat : Int) == 67) = false := u8_ne (d := 67) g2
  have h65 : ((c.toNat : Int) == 65) = false := u8_ne (d := 65) g3
  have hc0 : T[0]'t3 = c := t5 t3
  have hcat := fun W => cat_any c W
  have hsg := seq_sign (l := infF nk lg f) (r := r) g1 g2 g3
  have HC := Lib.hid hcat
  have HI := Lib.hid ih
  have HU := Lib.hid hu
  have HR := Lib.hid hr
  have HSG := Lib.hid hsg
  have t1z : (1 : Int) ≤ (T.size : Int) := by omega
  clear hcat ih hu hr hsg t2 t4 t5 t6 hT g1 g2 g3
  cases f with
  | nil =>
    obtain ⟨A, cp, rfl, hc, -⟩ := hv
    have HE : Hid (seqOk (infF nk lg .nil) (c :: r) = false) := Lib.hid (by rw [HSG.out]; rfl)
    have hl0 : (Fr.nil).len = 0 := rfl
    rw [hl0]
    clear HSG
    go_enter Tryz.func130, Tryz.ntmps130
    go_wp2_with fail
    refine wp_region_up HU.out (by kernel_rfl) (by kernel_rfl) ?_
    repeat (go_big_quiet_step (fail))
    refine wpQuiet_nil ?_
    rintro _ ⟨⟨w9, u9⟩, rfl⟩
    go_wp2_with fail
    go_ret
    exact bop_ret HE.out u9
  | cons x k rs =>
    obtain ⟨A, cp, rfl, hc, hk⟩ := id hv
    obtain ⟨kb, ko, rfl, hkb, ⟨u, hcell, hu⟩, hin⟩ := hk (Nat.succ_pos _)
    have htl := HasK.tail hv
    have hu : InT W (fun q => q < W.heap.size) u (x, k) := hu
    obtain ⟨q, p, rfl⟩ := hu.ptr
    have hT : HasT W (.pointer (some ⟨q, p, none⟩)) (some (x, k)) := hu
    have hsz : (Fr.cons x k rs).sz = 1 + k.sz + rs.sz := rfl
    have hsz2 : szT (x, k) = 1 + k.sz := rfl
    have cI := fun W' (h : Up W W') => HI.out (x, k) (by omega) ⟨hs.1, hs.2.1, hs.2.2.1⟩ (catOf c) W W' _ hT h
    have cR := fun W' (h : Up W W') => HR.out rs _ W' (by omega) hs.2.2.2 htl h
    obtain ⟨b, hb⟩ : ∃ b, isT nk lg (x, k) (catOf c) = b := ⟨_, rfl⟩
    have HSQ : Hid (seqOk (infF nk lg (.cons x k rs)) (c :: r) = (b && seqOk (infF nk lg rs) r)) := Lib.hid (by rw [HSG.out, ← hb]; rfl)
    rw [hb] at cI
    obtain ⟨M, hM⟩ : ∃ M, rs.len = M := ⟨_, rfl⟩
    have hl : (Fr.cons x k rs).len = M + 1 := by show rs.len + 1 = _; rw [hM]
    rw [hl] at hc ⊢
    rw [hM] at cR
    obtain ⟨D, hD⟩ : ∃ D, seqOk (infF nk lg rs) r = D := ⟨_, rfl⟩
    rw [hD] at cR HSQ
    have CI := Lib.hid cI
    have CR := Lib.hid cR
    have hll := Fr.len_le (Fr.cons x k rs)
    have hM6 : M ≤ 1000000 := by omega
    have hcu : ∀ u : Upw W, u.w.cell? ⟨kb, ko, none⟩ = some (.pointer (some ⟨q, p, none⟩)) := fun u => u.cell hcell
    have hm0 : (0 : Int) < ((M + 1 : Nat) : Int) := by omega
    have hm1 : (1 : Int) ≤ ((M + 1 : Nat) : Int) := by omega
    have hm2 : ((M + 1 : Nat) : Int) ≤ (cp : Int) := by omega
    clear hcell hin hu hT cI cR hb hsz hsz2 htl hk hv HSG hs hf hl hll hD hM
    cases b with
    | false =>
      go_enter Tryz.func130, Tryz.ntmps130
      go_wp2_with fail
      refine wp_region_up HU.out (by kernel_rfl) (by kernel_rfl) ?_
      repeat (go_big_quiet_step (first
            | (go_at_call 162; exact Calls.upw ((HC.out _).mono fun _ _ h => ⟨h.1, h.2 ▸ (by assumption : Upw W).h⟩))
            | (go_at_call 90; exact Calls.upw (CI.out _ (by assumption : Upw W).h))))
      refine wpQuiet_nil ?_
      rintro _ ⟨⟨w9, u9⟩, rfl⟩
      go_wp2_with fail
      go_ret
      exact bop_ret HSQ.out u9
    | true =>
      by_cases h1 : cp = 1
      · subst h1
        obtain rfl : M = 0 := by omega
        rw [if_pos rfl] at CR
        go_enter Tryz.func130, Tryz.ntmps130
        go_wp2_with fail
        refine wp_region_up HU.out (by kernel_rfl) (by kernel_rfl) ?_
        repeat (go_big_quiet_step (first
            | (go_at_call 162; exact Calls.upw ((HC.out _).mono fun _ _ h => ⟨h.1, h.2 ▸ (by assumption : Upw W).h⟩))
            | (go_at_call 90; exact Calls.upw (CI.out _ (by assumption : Upw W).h))
            | (go_at_call 130; exact Calls.upw (CR.out _ (by assumption : Upw W).h))))
        refine wpQuiet_nil ?_
        rintro _ ⟨⟨w9, u9⟩, rfl⟩
        go_wp2_with fail
        go_ret
        exact bop_ret HSQ.out u9
      · rw [if_neg h1] at CR
        go_enter Tryz.func130, Tryz.ntmps130
        go_wp2_with fail
        refine wp_region_up HU.out (by kernel_rfl) (by kernel_rfl) ?_
        repeat (go_big_quiet_step (first
            | (go_at_call 162; exact Calls.upw ((HC.out _).mono fun _ _ h => ⟨h.1, h.2 ▸ (by assumption : Upw W).h⟩))
            | (go_at_call 90; exact Calls.upw (CI.out _ (by assumption : Upw W).h))
            | (go_at_call 130; exact Calls.upw (CR.out _ (by assumption : Upw W).h))))
        refine wpQuiet_nil ?_
        rintro _ ⟨⟨w9, u9⟩, rfl⟩
        go_wp2_with fail
        go_ret
        exact bop_ret HSQ.out u9
theorem kids_any {nk lg : ByteArray → Bool} {n : Nat} (ih : IsAt nk lg n) (hn : n ≤ 1000000) (W : World) : ∀ (l : List UInt8), goodW l = true → ∀ (f : Fr) (v : Value) (w : World), f.sz ≤ n → okS f → HasK W v f → Up W w →
    Calls Tryz.prog 130 #[v, .string (byt l)] w (BoP (seqOk (infF nk lg f) l) W)
  | [], _, f, v, w, _, _, hv, hu => kids_nil f W w v hv hu
  | c :: r, hg, f, v, w, hf, hs, hv, hu => by
    unfold goodW at hg
    by_cases g1 : c = 42
    · subst g1
      cases r with
      | nil => simp at hg
      | cons d r => exact kids_star ih d r f hf hs hn W w v hv hu
    · by_cases g2 : c = 67
      · subst g2
        exact kids_C ih r f hf hs hn W w v hv hu
      · by_cases g3 : c = 65
        · subst g3
          exact kids_A ih r f hf hs hn W w v hv hu
        · rw [if_neg g1, if_neg g2, if_neg g3] at hg
          exact kids_sign ih c r g1 g2 g3 f hf hs hn W v hv (fun f' v' w' h1 h2 h3 h4 => kids_any ih hn W r hg f' v' w' h1 h2 h3 h4) w hu
end Go.Proofs.YtklblhadhoppeaaGreatDoor
namespace Go.Proofs.YtklblhadhoppeaaGreatDoor
open Go.RowKit

theorem flat7 : ∀ (L : List Rw) (i : Nat) (R : Rw) (j : Nat), L[i]? = some R → j < 7 → (L.flatMap rcl)[i * 7 + j]? = (rcl R)[j]?
  | [], _, _, _, h, _ => by simp at h
  | x :: L, 0, R, j, h, hj => by
    have : x = R := by simpa using h
    subst this
    rw [List.flatMap_cons, List.getElem?_append_left (by show 0 * 7 + j < 7; omega)]
    simp
  | x :: L, i + 1, R, j, h, hj => by
    rw [List.flatMap_cons, List.getElem?_append_right (by show 7 ≤ (i + 1) * 7 + j; omega)]
    have := flat7 L i R j (by simpa using h) hj
    rw [← this]
    congr 1
    show (i + 1) * 7 + j - 7 = _
    omega
theorem Tbl.cell {w : World} {g I : Nat} {R : Rw} (h : Tbl w g) (hR : RWS[I]? = some R) (j : Nat) (hj : j < 7) : w.cell? ⟨g, I * 7 + j, none⟩ = (rcl R)[j]? := by
  rw [← flat7 RWS I R j hR hj]
  rw [cell_of_row w g (I * 7 + j) _ _ _ h]
  simp [RWC]
theorem row_cells (w : World) (vs : List Value) (e : TypeId) (j : Nat) (v : Value) (hj : vs[j]? = some v) : (w.alloc (.cells vs.toArray e)).cell? ⟨w.heap.size, j, none⟩ = some v := by
  rw [cell_of_row _ w.heap.size j _ _ _ (heap_alloc_new w _)]
  simpa using hj
set_option maxHeartbeats 12800000 in
set_option maxRecDepth 100000 in
theorem is_step (n : Nat) (hn : n ≤ 1000000) (ih : IsAt B.nck B.long n) : IsAt B.nck B.long (n + 1) := by
  rintro ⟨x, ks⟩ hsz ⟨ha, hm, hs⟩ c W w v hv hu
  have hsz2 : szT (x, ks) = 1 + ks.sz := rfl
  have cK := fun (W' : World) (l : List UInt8) (hl : goodW l = true) (v' : Value) (w' : World) (h1 : HasK W' v' ks) (h2 : Up W' w') => kids_any ih hn W' l hl ks v' w' (by omega) hs h1 h2
  obtain ⟨q, p, A, cp, rfl, hq, c0, c1, c2, c3, c4, hc, hkid⟩ := InT.open (x := x) (ks := ks) hv
  have hk : HasK W (.slice A ks.len cp) ks := ⟨A, cp, rfl, hc, fun h0 => by
    obtain ⟨kb, ko, hA, h1, h2⟩ := hkid h0
    exact ⟨kb, ko, hA, h1, h2⟩⟩
  have CK := Lib.hid cK
  have HA := Lib.hid ha
  have HM := Lib.hid hm
  have HU := Lib.hid hu
  have HK := Lib.hid hk
  obtain ⟨N, hN⟩ : ∃ N, ks.len = N := ⟨_, rfl⟩
  rw [hN] at c4 hk
  have HK := Lib.hid hk
  have C0 := Lib.hid c0
  have C1 := Lib.hid c1
  have C2 := Lib.hid c2
  have C3 := Lib.hid c3
  have C4 := Lib.hid c4
  clear cK ha hm hu hk hv hsz hsz2 hkid hc hs hq ih c0 c1 c2 c3 c4 hN
  go_enter Tryz.func90, Tryz.ntmps90
  go_wp2_with fail
  refine (rows_any _).mono ?_
  rintro e w1 ⟨g, rfl, hg, htb, hb1⟩
  have HU1 := Lib.hid (HU.out.of hb1)
  have HT := Lib.hid htb
  clear hb1 htb hg
  go_wp2_with fail
  go_loopw [6, 7] (fun i _ wr => ∃ I : Nat, i = .int .i64 I ∧ I ≤ 47 ∧ (∀ (j : Nat) R, j < I → RWS[j]? = some R → fitR B.nck B.long x (infF B.nck B.long ks) c R = false) ∧ Up w1 wr) (fun i _ _ => 47 - (intOf i).toNat)
  case atStart => exact ⟨0, rfl, by omega, fun j x hj => absurd hj (Nat.not_lt_zero _), Up.refl _⟩
  case round =>
    obtain ⟨I, rfl, hI, hall, hur⟩ := hrel
    have HALL := Lib.hid hall
    have HUR := Lib.hid hur
    clear hall hur
    by_cases hlt : I < 47
    · have hiz : (I : Int) < 47 := by omega
      obtain ⟨R, hR⟩ : ∃ R, RWS[I]? = some R := ⟨_, List.getElem?_eq_getElem (by rw [rows_num]; exact hlt)⟩
      obtain ⟨hgw, hkl, hnm, hmr⟩ := rows_good R (List.mem_of_getElem? hR)
      have tb := HUR.out.row HT.out
      have r0 := Tbl.cell tb hR 0 (by omega)
      have r1 := Tbl.cell tb hR 1 (by omega)
      have r2 := Tbl.cell tb hR 2 (by omega)
      have r3 := Tbl.cell tb hR 3 (by omega)
      have r4 := Tbl.cell tb hR 4 (by omega)
      have r5 := Tbl.cell tb hR 5 (by omega)
      have r6 := Tbl.cell tb hR 6 (by omega)
      have HRI := Lib.hid hR
      clear hR tb
      obtain ⟨rc, rk, rn, rm, rf, rt, rs⟩ := R
      simp only [rcl, List.getElem?_cons_zero, List.getElem?_cons_succ, Nat.add_zero] at r0 r1 r2 r3 r4 r5 r6
      have HNX : Hid (fitR B.nck B.long x (infF B.nck B.long ks) c ⟨rc, rk, rn, rm, rf, rt, rs⟩ = false → ∀ (j : Nat) R, j < I + 1 → RWS[j]? = some R → fitR B.nck B.long x (infF B.nck B.long ks) c R = false) := Lib.hid fun h j R hj hR => by
        by_cases e : j = I
        · subst e
          rw [HRI.out] at hR
          injection hR with hR
          rw [← hR]
          exact h
        · exact HALL.out j R (by omega) hR
      have hw1 := fun W' => word_any x.a rn hnm W' HA.out
      have hw2 := fun W' => word_any x.m rm hmr W' HM.out
      have hfit : fitR B.nck B.long x (infF B.nck B.long ks) c ⟨rc, rk, rn, rm, rf, rt, rs⟩ = (decide (rc = c) && decide (rk = x.k) && wordR B.nck B.long x.a rn && wordR B.nck B.long x.m rm && decide (rf ≤ x.n) && decide (x.n ≤ rt) && seqOk (infF B.nck B.long ks) rs) := rfl
      obtain ⟨F, hF⟩ : ∃ F, fitR B.nck B.long x (infF B.nck B.long ks) c ⟨rc, rk, rn, rm, rf, rt, rs⟩ = F := ⟨_, rfl⟩
      have UW2 : Hid (Up w1 (wr.alloc (.cells [Value.int .i64 rc, .int .i64 rk, .string (byt rn), .string (byt rm), .int .i64 rf, .int .i64 rt, .string (byt rs)].toArray 167))) := Lib.hid (HUR.out.alloc _)
      have rcell := row_cells wr [Value.int .i64 rc, .int .i64 rk, .string (byt rn), .string (byt rm), .int .i64 rf, .int .i64 rt, .string (byt rs)] 167
      obtain ⟨W2, hW2⟩ : ∃ W2, wr.alloc (.cells [Value.int .i64 rc, .int .i64 rk, .string (byt rn), .string (byt rm), .int .i64 rf, .int .i64 rt, .string (byt rs)].toArray 167) = W2 := ⟨_, rfl⟩
      rw [hW2] at UW2 rcell
      have HKK := Lib.hid fun w' (h : Up W2 w') => CK.out W2 rs hgw _ w' (HK.out.up (HU1.out.trans UW2.out)) h
      rw [hF] at hfit
      obtain ⟨b1, hb1⟩ : ∃ b, wordR B.nck B.long x.a rn = b := ⟨_, rfl⟩
      obtain ⟨b2, hb2⟩ : ∃ b, wordR B.nck B.long x.m rm = b := ⟨_, rfl⟩
      obtain ⟨b3, hb3⟩ : ∃ b, seqOk (infF B.nck B.long ks) rs = b := ⟨_, rfl⟩
      rw [hb1] at hw1 hfit
      rw [hb2] at hw2 hfit
      rw [hb3] at HKK hfit
      have HW1 := Lib.hid hw1
      have HW2 := Lib.hid hw2
      obtain ⟨Q, hQ⟩ : ∃ Q, wr.heap.size = Q := ⟨_, rfl⟩
      rw [hQ] at rcell
      have s0 : ∀ u : Upw W2, u.w.cell? ⟨Q, 0, none⟩ = some (.int .i64 rc) := fun u => u.cell (rcell 0 _ rfl)
      have s1 : ∀ u : Upw W2, u.w.cell? ⟨Q, 1, none⟩ = some (.int .i64 rk) := fun u => u.cell (rcell 1 _ rfl)
      have s2 : ∀ u : Upw W2, u.w.cell? ⟨Q, 2, none⟩ = some (.string (byt rn)) := fun u => u.cell (rcell 2 _ rfl)
      have s3 : ∀ u : Upw W2, u.w.cell? ⟨Q, 3, none⟩ = some (.string (byt rm)) := fun u => u.cell (rcell 3 _ rfl)
      have s4 : ∀ u : Upw W2, u.w.cell? ⟨Q, 4, none⟩ = some (.int .i64 rf) := fun u => u.cell (rcell 4 _ rfl)
      have s5 : ∀ u : Upw W2, u.w.cell? ⟨Q, 5, none⟩ = some (.int .i64 rt) := fun u => u.cell (rcell 5 _ rfl)
      have s6 : ∀ u : Upw W2, u.w.cell? ⟨Q, 6, none⟩ = some (.string (byt rs)) := fun u => u.cell (rcell 6 _ rfl)
      have UU := Lib.hid (HU1.out.trans UW2.out)
      have n0 : ∀ u : Upw W2, u.w.cell? ⟨q, p, none⟩ = some (.int .i64 x.k) := fun u => u.cell (UU.out.cell C0.out)
      have n1 : ∀ u : Upw W2, u.w.cell? ⟨q, p + 1, none⟩ = some (.int .i64 x.n) := fun u => u.cell (UU.out.cell C1.out)
      have n2 : ∀ u : Upw W2, u.w.cell? ⟨q, p + 2, none⟩ = some (.string x.a) := fun u => u.cell (UU.out.cell C2.out)
      have n3 : ∀ u : Upw W2, u.w.cell? ⟨q, p + 3, none⟩ = some (.string x.m) := fun u => u.cell (UU.out.cell C3.out)
      have n4 : ∀ u : Upw W2, u.w.cell? ⟨q, p + 4, none⟩ = some (.slice A N cp) := fun u => u.cell (UU.out.cell C4.out)
      have hcase : ((rc == c) = false ∧ F = false) ∨ ((rc == c) = true ∧ (rk == x.k) = false ∧ F = false) ∨ ((rc == c) = true ∧ (rk == x.k) = true ∧ b1 = false ∧ F = false) ∨ ((rc == c) = true ∧ (rk == x.k) = true ∧ b1 = true ∧ b2 = false ∧ F = false) ∨
          ((rc == c) = true ∧ (rk == x.k) = true ∧ b1 = true ∧ b2 = true ∧ decide (rf ≤ x.n) = false ∧ F = false) ∨ ((rc == c) = true ∧ (rk == x.k) = true ∧ b1 = true ∧ b2 = true ∧ decide (rf ≤ x.n) = true ∧ decide (x.n ≤ rt) = false ∧ F = false) ∨
          ((rc == c) = true ∧ (rk == x.k) = true ∧ b1 = true ∧ b2 = true ∧ decide (rf ≤ x.n) = true ∧ decide (x.n ≤ rt) = true ∧ b3 = F) := by
        have e1 : (rc == c) = decide (rc = c) := rfl
        have e2 : (rk == x.k) = decide (rk = x.k) := rfl
        rw [e1, e2, hfit]
        cases decide (rc = c) <;> cases decide (rk = x.k) <;> cases b1 <;> cases b2 <;> cases decide (rf ≤ x.n) <;> cases decide (x.n ≤ rt) <;> simp
      have HB := Lib.hid (⟨hb1, hb2, hb3⟩ : _ ∧ _ ∧ _)
      clear rcell hb1 hb2 hb3 hfit hw1 hw2 hnm hmr hgw
      rcases hcase with ⟨d1, rfl⟩ | ⟨d1, d2, rfl⟩ | ⟨d1, d2, rfl, rfl⟩ | ⟨d1, d2, rfl, rfl, rfl⟩ | ⟨d1, d2, rfl, rfl, d3, rfl⟩ | ⟨d1, d2, rfl, rfl, d3, d4, rfl⟩ | ⟨d1, d2, rfl, rfl, d3, d4, rfl⟩
      · have HFF := Lib.hid hF
        clear hF
        go_wp2_with fail
        refine wp_region_up (W := W2) (Up.refl _) (by kernel_rfl) (by kernel_rfl) ?_
        repeat (go_big_quiet_step (first
            | (go_at_call_of 129 (Value.string x.a); exact Calls.upw ((HW1.out _).mono fun _ _ h => ⟨h.1, (by assumption : Upw W2).h.of h.2⟩))
            | (go_at_call_of 129 (Value.string x.m); exact Calls.upw ((HW2.out _).mono fun _ _ h => ⟨h.1, (by assumption : Upw W2).h.of h.2⟩))
            | (go_at_call 130; exact Calls.upw (HKK.out _ (by assumption : Upw W2).h))))
        refine wpQuiet_nil ?_
        rintro _ ⟨⟨w9, u9⟩, rfl⟩
        go_wp2_with fail
        go_roundw
        case rel => exact ⟨I + 1, by go_num, by omega, HNX.out HFF.out, UW2.out.trans u9⟩
        case measure => simp [intOf]; omega
      · have HFF := Lib.hid hF
        clear hF
        go_wp2_with fail
        refine wp_region_up (W := W2) (Up.refl _) (by kernel_rfl) (by kernel_rfl) ?_
        repeat (go_big_quiet_step (first
            | (go_at_call_of 129 (Value.string x.a); exact Calls.upw ((HW1.out _).mono fun _ _ h => ⟨h.1, (by assumption : Upw W2).h.of h.2⟩))
            | (go_at_call_of 129 (Value.string x.m); exact Calls.upw ((HW2.out _).mono fun _ _ h => ⟨h.1, (by assumption : Upw W2).h.of h.2⟩))
            | (go_at_call 130; exact Calls.upw (HKK.out _ (by assumption : Upw W2).h))))
        refine wpQuiet_nil ?_
        rintro _ ⟨⟨w9, u9⟩, rfl⟩
        go_wp2_with fail
        go_roundw
        case rel => exact ⟨I + 1, by go_num, by omega, HNX.out HFF.out, UW2.out.trans u9⟩
        case measure => simp [intOf]; omega
      · have HFF := Lib.hid hF
        clear hF
        go_wp2_with fail
        refine wp_region_up (W := W2) (Up.refl _) (by kernel_rfl) (by kernel_rfl) ?_
        repeat (go_big_quiet_step (first
            | (go_at_call_of 129 (Value.string x.a); exact Calls.upw ((HW1.out _).mono fun _ _ h => ⟨h.1, (by assumption : Upw W2).h.of h.2⟩))
            | (go_at_call_of 129 (Value.string x.m); exact Calls.upw ((HW2.out _).mono fun _ _ h => ⟨h.1, (by assumption : Upw W2).h.of h.2⟩))
            | (go_at_call 130; exact Calls.upw (HKK.out _ (by assumption : Upw W2).h))))
        refine wpQuiet_nil ?_
        rintro _ ⟨⟨w9, u9⟩, rfl⟩
        go_wp2_with fail
        go_roundw
        case rel => exact ⟨I + 1, by go_num, by omega, HNX.out HFF.out, UW2.out.trans u9⟩
        case measure => simp [intOf]; omega
      · have HFF := Lib.hid hF
        clear hF
        go_wp2_with fail
        refine wp_region_up (W := W2) (Up.refl _) (by kernel_rfl) (by kernel_rfl) ?_
        repeat (go_big_quiet_step (first
            | (go_at_call_of 129 (Value.string x.a); exact Calls.upw ((HW1.out _).mono fun _ _ h => ⟨h.1, (by assumption : Upw W2).h.of h.2⟩))
            | (go_at_call_of 129 (Value.string x.m); exact Calls.upw ((HW2.out _).mono fun _ _ h => ⟨h.1, (by assumption : Upw W2).h.of h.2⟩))
            | (go_at_call 130; exact Calls.upw (HKK.out _ (by assumption : Upw W2).h))))
        refine wpQuiet_nil ?_
        rintro _ ⟨⟨w9, u9⟩, rfl⟩
        go_wp2_with fail
        go_roundw
        case rel => exact ⟨I + 1, by go_num, by omega, HNX.out HFF.out, UW2.out.trans u9⟩
        case measure => simp [intOf]; omega
      · have HFF := Lib.hid hF
        clear hF
        go_wp2_with fail
        refine wp_region_up (W := W2) (Up.refl _) (by kernel_rfl) (by kernel_rfl) ?_
        repeat (go_big_quiet_step (first
            | (go_at_call_of 129 (Value.string x.a); exact Calls.upw ((HW1.out _).mono fun _ _ h => ⟨h.1, (by assumption : Upw W2).h.of h.2⟩))
            | (go_at_call_of 129 (Value.string x.m); exact Calls.upw ((HW2.out _).mono fun _ _ h => ⟨h.1, (by assumption : Upw W2).h.of h.2⟩))
            | (go_at_call 130; exact Calls.upw (HKK.out _ (by assumption : Upw W2).h))))
        refine wpQuiet_nil ?_
        rintro _ ⟨⟨w9, u9⟩, rfl⟩
        go_wp2_with fail
        go_roundw
        case rel => exact ⟨I + 1, by go_num, by omega, HNX.out HFF.out, UW2.out.trans u9⟩
        case measure => simp [intOf]; omega
      · have HFF := Lib.hid hF
        clear hF
        go_wp2_with fail
        refine wp_region_up (W := W2) (Up.refl _) (by kernel_rfl) (by kernel_rfl) ?_
        repeat (go_big_quiet_step (first
            | (go_at_call_of 129 (Value.string x.a); exact Calls.upw ((HW1.out _).mono fun _ _ h => ⟨h.1, (by assumption : Upw W2).h.of h.2⟩))
            | (go_at_call_of 129 (Value.string x.m); exact Calls.upw ((HW2.out _).mono fun _ _ h => ⟨h.1, (by assumption : Upw W2).h.of h.2⟩))
            | (go_at_call 130; exact Calls.upw (HKK.out _ (by assumption : Upw W2).h))))
        refine wpQuiet_nil ?_
        rintro _ ⟨⟨w9, u9⟩, rfl⟩
        go_wp2_with fail
        go_roundw
        case rel => exact ⟨I + 1, by go_num, by omega, HNX.out HFF.out, UW2.out.trans u9⟩
        case measure => simp [intOf]; omega
      · cases b3 with
        | false =>
          have HFF := Lib.hid hF
          clear hF
          go_wp2_with fail
          refine wp_region_up (W := W2) (Up.refl _) (by kernel_rfl) (by kernel_rfl) ?_
          repeat (go_big_quiet_step (first
              | (go_at_call_of 129 (Value.string x.a); exact Calls.upw ((HW1.out _).mono fun _ _ h => ⟨h.1, (by assumption : Upw W2).h.of h.2⟩))
              | (go_at_call_of 129 (Value.string x.m); exact Calls.upw ((HW2.out _).mono fun _ _ h => ⟨h.1, (by assumption : Upw W2).h.of h.2⟩))
              | (go_at_call 130; exact Calls.upw (HKK.out _ (by assumption : Upw W2).h))))
          refine wpQuiet_nil ?_
          rintro _ ⟨⟨w9, u9⟩, rfl⟩
          go_wp2_with fail
          go_roundw
          case rel => exact ⟨I + 1, by go_num, by omega, HNX.out HFF.out, UW2.out.trans u9⟩
          case measure => simp [intOf]; omega
        | true =>
          have HE : Hid (isT B.nck B.long (x, ks) c = true) := Lib.hid (isX_row.2 ⟨_, List.mem_of_getElem? HRI.out, hF⟩)
          clear hF
          go_wp2_with fail
          refine wp_region_up (W := W2) (Up.refl _) (by kernel_rfl) (by kernel_rfl) ?_
          repeat (go_big_quiet_step (first
              | (go_at_call_of 129 (Value.string x.a); exact Calls.upw ((HW1.out _).mono fun _ _ h => ⟨h.1, (by assumption : Upw W2).h.of h.2⟩))
              | (go_at_call_of 129 (Value.string x.m); exact Calls.upw ((HW2.out _).mono fun _ _ h => ⟨h.1, (by assumption : Upw W2).h.of h.2⟩))
              | (go_at_call 130; exact Calls.upw (HKK.out _ (by assumption : Upw W2).h))))
          refine wpQuiet_nil ?_
          rintro _ ⟨⟨w9, u9⟩, rfl⟩
          go_wp2_with fail
          go_ret
          exact bop_ret HE.out (UU.out.trans u9)
    · have hI47 : I = 47 := by omega
      have hiz : ¬ (I : Int) < 47 := by omega
      have HE : Hid (isT B.nck B.long (x, ks) c = false) := Lib.hid (by
        cases h : isT B.nck B.long (x, ks) c with
        | false => rfl
        | true =>
          obtain ⟨R, hR, hf⟩ := isX_row.1 h
          obtain ⟨j, hj⟩ := List.getElem?_of_mem hR
          have := (List.getElem?_eq_some_iff.1 hj).1
          rw [rows_num] at this
          rw [HALL.out j R (by omega) hj] at hf
          cases hf)
      go_wp2_with fail
      go_ret
      exact bop_ret HE.out (HU1.out.trans HUR.out)
end Go.Proofs.YtklblhadhoppeaaGreatDoor
