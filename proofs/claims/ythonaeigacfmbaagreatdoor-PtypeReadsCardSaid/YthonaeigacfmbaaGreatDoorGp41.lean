/-
  Two lists of trees, compared.
-/
import Derived.Test.YthonaeigacfmbaaGreatDoorGp40
import Derived.Deep.DeepHandedRow
import Derived.Deep.DeepWitnessRowRef
import Derived.LaidLaws
import Derived.Lib.LaidIn
import Derived.Lib.LaidU8T
import Derived.MakeChecks
import Derived.OpenShut
import Derived.ProofKit
import Derived.SizedLaws
namespace Go.Proofs.YthonaeigacfmbaaGreatDoor
open Go.RowKit

def Lst (w : World) (v : Value) (f : Fr) : Prop := ∃ A c, v = .slice A f.len c ∧ ∀ (j : Nat) t, f.get j = some t → ∃ b o u, A = some ⟨b, o, none⟩ ∧ b < w.heap.size ∧ w.cell? ⟨b, o + j, none⟩ = some u ∧ HasT w u (some t)
theorem Lst.up {W w : World} {v : Value} {f : Fr} (h : Lst W v f) (u : Up W w) : Lst w v f := by
  obtain ⟨A, c, hv, hc⟩ := h
  refine ⟨A, c, hv, fun j t ht => ?_⟩
  obtain ⟨b, o, x, h1, h2, h3, h4⟩ := hc j t ht
  exact ⟨b, o, x, h1, Nat.lt_of_lt_of_le h2 u.size, u.cell h3, h4.up u⟩
theorem Lst.nil (w : World) : Lst w (.slice none 0 0) .nil := ⟨none, 0, rfl, fun j t h => by cases h⟩
theorem Lst.of {W w : World} {v : Value} {f : Fr} (h : ∃ g c, v = .slice (some ⟨g, 0, none⟩) f.len c ∧ f.len ≤ c ∧ NewS W w g ∧ 0 < f.len ∧ InF w (NewS W w) f g 0) : Lst w v f := by
  obtain ⟨g, c, hv, _, hg, _, hf⟩ := h
  refine ⟨_, c, hv, fun j t ht => ?_⟩
  obtain ⟨u, h1, h2⟩ := InF.at hf ht
  exact ⟨g, 0, u, rfl, hg.2, h1, NewT.has (W := W) h2⟩
theorem cons_sz {nk lg : ByteArray → Bool} {l : List Tk} {i : Int} {f : Fr} {j : Nat} (h : consZ nk lg l i = .inl (f, j)) : f.sz ≤ l.length := by
  unfold consZ at h
  split at h
  · cases h
  · have h2 := (form_all (nk := nk) (lg := lg) l _).2.2.2 i.toNat .nil ConOk.nil f j h
    have h3 := consL_le (nk := nk) (lg := lg) l i.toNat .nil (by omega)
    rw [h] at h3
    have h4 : j ≤ l.length := h3.1
    have h5 : Fr.nil.sz = 0 := rfl
    omega
set_option maxHeartbeats 12800000 in
set_option maxRecDepth 100000 in
theorem all_any (f : Fr) {W w : World} {v v' : Value} (h : Lst W v f) (h' : Lst W v' f) (hz : f.sz ≤ 65536) (u : Up W w) :
    Calls Tryz.prog 25 #[v, v'] w (BoP true W) := by
  obtain ⟨A, c, rfl, hA⟩ := h.up u
  obtain ⟨A', c', rfl, hA'⟩ := h'.up u
  have H1 := Lib.hid hA
  have H2 := Lib.hid hA'
  have HU := Lib.hid u
  obtain ⟨N, hN⟩ : ∃ N, f.len = N := ⟨_, rfl⟩
  have HN := Lib.hid hN
  have hNz : N ≤ 65536 := by have := Fr.len_le f; omega
  rw [hN]
  clear hA hA' hN u h h'
  go_enter Tryz.func25, Tryz.ntmps25
  go_wp2_with fail
  go_loopw [13] (fun i wr => ∃ k : Nat, i = .int .i64 k ∧ k ≤ N ∧ ∃ q, wr = w.drewN q) (fun i _ => N - (intOf i).toNat)
  case atStart => exact ⟨0, rfl, Nat.zero_le _, 0, rfl⟩
  case round =>
    obtain ⟨k, rfl, hk, q, rfl⟩ := hrel
    by_cases hlt : k < N
    · obtain ⟨x, hx⟩ : ∃ x, f.get k = some x := Fr.get_some (by rw [HN.out]; exact hlt)
      obtain ⟨b1, o1, pv1, rfl, _, hc1, hp1⟩ := H1.out k x hx
      obtain ⟨b2, o2, pv2, rfl, _, hc2, hp2⟩ := H2.out k x hx
      have hxs := Fr.get_sz hx
      have cI := fun m => refSameO (some x) (some x) (w.drewN m) _ _ pv1 pv2 (hp1.up (Up.drewN (Up.refl w) m)) (hp2.up (Up.drewN (Up.refl w) m)) (by show szT x ≤ _; omega) true ⟨fun _ => rfl, fun _ => rfl⟩
      have hlz : (k : Int) < (N : Int) := by omega
      have HCI := Lib.hid cI
      have hw1 : wrap64 ((k : Int) + 1) = ((k + 1 : Nat) : Int) := by unfold wrap64; omega
      obtain ⟨⟨q1, p1, A1, d1, rfl, -⟩, -⟩ : (∃ q p A c, pv1 = .pointer (some ⟨q, p, none⟩) ∧ True) ∧ True := by
        obtain ⟨q, p, A, c, h, -⟩ := InT.open hp1
        exact ⟨⟨q, p, A, c, h, trivial⟩, trivial⟩
      obtain ⟨⟨q2, p2, A2, d2, rfl, -⟩, -⟩ : (∃ q p A c, pv2 = .pointer (some ⟨q, p, none⟩) ∧ True) ∧ True := by
        obtain ⟨q, p, A, c, h, -⟩ := InT.open hp2
        exact ⟨⟨q, p, A, c, h, trivial⟩, trivial⟩
      clear hx hp1 hp2 hxs cI
      go_wp2_with fail
      go_quiet ((go_at_call 24; exact quiet_off (HCI.out _)))
      go_wp2_with fail
      go_roundw
      case rel => exact ⟨k + 1, by go_num, by omega, _, rfl⟩
      case measure => simp [intOf]; omega
    · have hlz : ¬ (k : Int) < (N : Int) := by omega
      go_wp2_with fail
      go_ret
      exact bop_ret rfl (HU.out.drewN _)
end Go.Proofs.YthonaeigacfmbaaGreatDoor
namespace Go.Proofs.YthonaeigacfmbaaGreatDoor
open Go.RowKit

def rO : Rs Tr → Option Tr
  | .inl (t, _) => some t
  | .inr _ => none
def rF : Rs Fr → Fr
  | .inl (f, _) => f
  | .inr _ => .nil
def rErr {α : Type} : Rs α → Int
  | .inl _ => 0
  | .inr (_, e) => e
theorem RtV.uni {R : Rs Tr} {w w' : World} {v : Value} {j e : Int} (h : RtV R w w' v j e) : HasT w' v (rO R) ∧ j = (pl R : Int) ∧ e = rErr R := by
  cases R with
  | inl x => obtain ⟨t, q⟩ := x; exact ⟨h.1.has, h.2.1, h.2.2⟩
  | inr x => obtain ⟨p, r⟩ := x; exact ⟨h.2.2, h.1, h.2.1⟩
theorem RcV.uni {R : Rs Fr} {w w' : World} {v : Value} {j e : Int} (h : RcV R w w' v j e) : Lst w' v (rF R) ∧ j = (pl R : Int) ∧ e = rErr R := by
  cases R with
  | inl x => obtain ⟨t, q⟩ := x; exact ⟨Lst.of h.1, h.2.1, h.2.2⟩
  | inr x => obtain ⟨p, r⟩ := x; exact ⟨by rw [h.2.2]; exact Lst.nil _, h.1, h.2.1⟩
theorem rO_sz {nk lg : ByteArray → Bool} (l : List Tk) (i : Int) : szO (rO (typZ nk lg l i)) ≤ l.length := by
  cases h : typZ nk lg l i with
  | inl x => obtain ⟨t, q⟩ := x; exact (typ_sz h).1
  | inr x => exact Nat.zero_le _
theorem rF_sz {nk lg : ByteArray → Bool} (l : List Tk) (i : Int) : (rF (consZ nk lg l i)).sz ≤ l.length := by
  cases h : consZ nk lg l i with
  | inl x => obtain ⟨t, q⟩ := x; exact cons_sz h
  | inr x => exact Nat.zero_le _
set_option maxHeartbeats 12800000 in
set_option maxRecDepth 100000 in
theorem lawParses (l : List B.RTok) (i : Int) (x : ByteArray) (hl : l.length ≤ 9223372036854775807) (hz : ∀ t ∈ l, t.s.size ≤ 9223372036854775807) (w : World) (v : Value) (hx : Vx w) (hv : Tkr w v l) :
    Calls Tryz.prog 3 #[v, .int .i64 i, .string x] w (BoP true w) := by
  have cF := fewTok l hz w w v hv (Up.refl _) hl
  have HX := Lib.hid hx
  clear hx hz hl hv
  go_enter Tryz.func3, Tryz.ntmps3
  go_wp2_with fail
  refine cF.mono ?_
  rintro e w1 ⟨v1, rfl, h1, u1⟩
  have HT : Hid (Tkm w1 v1 (fewT l)) := Lib.hid h1.tkm
  have HS : Hid (∀ t ∈ fewT l, t.s.size ≤ 1000000000) := Lib.hid fun t h => by have := fewT_sz l t h; omega
  have U1 := Lib.hid u1
  have hlen := fewT_len l
  obtain ⟨T, hT⟩ : ∃ T, fewT l = T := ⟨_, rfl⟩
  rw [hT] at HT HS hlen
  have HL : Hid (T.length ≤ 80) := Lib.hid hlen
  have hO := rO_sz (nk := B.nck) (lg := B.long) T i
  have hF := rF_sz (nk := B.nck) (lg := B.long) T i
  obtain ⟨X, hX⟩ : ∃ X, typZ B.nck B.long T i = X := ⟨_, rfl⟩
  obtain ⟨Y, hY⟩ : ∃ Y, consZ B.nck B.long T i = Y := ⟨_, rfl⟩
  obtain ⟨J, hJ⟩ : ∃ J, (pl X : Int) = J := ⟨_, rfl⟩
  obtain ⟨E, hE⟩ : ∃ E, rErr X = E := ⟨_, rfl⟩
  obtain ⟨J2, hJ2⟩ : ∃ J, (pl Y : Int) = J := ⟨_, rfl⟩
  obtain ⟨E2, hE2⟩ : ∃ E, rErr Y = E := ⟨_, rfl⟩
  obtain ⟨S1, hS1⟩ : ∃ s, (namZ B.nck T i).getD nob = s := ⟨_, rfl⟩
  obtain ⟨b1, hb1⟩ : ∃ b, (namZ B.nck T i).isSome = b := ⟨_, rfl⟩
  obtain ⟨S2, hS2⟩ : ∃ s, (namZ B.long T i).getD nob = s := ⟨_, rfl⟩
  obtain ⟨b2, hb2⟩ : ∃ b, (namZ B.long T i).isSome = b := ⟨_, rfl⟩
  obtain ⟨b3, hb3⟩ : ∃ b, keyZ T i x = b := ⟨_, rfl⟩
  rw [hX] at hO
  rw [hY] at hF
  have c1 : Hid (∀ w, Up w1 w → Calls Tryz.prog 16 #[v1, .int .i64 i] w fun e w' => ∃ v, e = .returned (.tuple #[v, .int .i64 J, .int .i64 E]) ∧ HasT w' v (rO X) ∧ Up w w') := Lib.hid fun w u => (pType T i (by have := HL.out; omega) HS.out w v1 (HT.out.up u) (HX.out.up (U1.out.trans u)).nx (HX.out.up (U1.out.trans u)).pl).mono fun e w' k => by
    rw [hX] at k
    obtain ⟨v, j, r, he, hr, hu⟩ := k
    obtain ⟨k1, k2, k3⟩ := hr.uni
    exact ⟨v, by rw [he, k2, k3, hJ, hE], k1, hu⟩
  have c2 : Hid (∀ w, Up w1 w → Calls Tryz.prog 17 #[v1, .int .i64 i] w fun e w' => ∃ v, e = .returned (.tuple #[v, .int .i64 J, .int .i64 E]) ∧ HasT w' v (rO X) ∧ Up w w') := Lib.hid fun w u => (refType T i (by have := HL.out; omega) HS.out w v1 (HT.out.up u)).mono fun e w' k => by
    rw [hX] at k
    obtain ⟨v, j, r, he, hr, hu⟩ := k
    obtain ⟨k1, k2, k3⟩ := hr.uni
    exact ⟨v, by rw [he, k2, k3, hJ, hE], k1, hu⟩
  have c3 : Hid (∀ w, Up w1 w → Calls Tryz.prog 18 #[v1, .int .i64 i] w fun e w' => ∃ v, e = .returned (.tuple #[v, .int .i64 J2, .int .i64 E2]) ∧ Lst w' v (rF Y) ∧ Up w w') := Lib.hid fun w u => (pCons T i (by have := HL.out; omega) HS.out w v1 (HT.out.up u) (HX.out.up (U1.out.trans u)).nx (HX.out.up (U1.out.trans u)).pl).mono fun e w' k => by
    rw [hY] at k
    obtain ⟨v, j, r, he, hr, hu⟩ := k
    obtain ⟨k1, k2, k3⟩ := hr.uni
    exact ⟨v, by rw [he, k2, k3, hJ2, hE2], k1, hu⟩
  have c4 : Hid (∀ w, Up w1 w → Calls Tryz.prog 19 #[v1, .int .i64 i] w fun e w' => ∃ v, e = .returned (.tuple #[v, .int .i64 J2, .int .i64 E2]) ∧ Lst w' v (rF Y) ∧ Up w w') := Lib.hid fun w u => (refCons T i (by have := HL.out; omega) HS.out w v1 (HT.out.up u)).mono fun e w' k => by
    rw [hY] at k
    obtain ⟨v, j, r, he, hr, hu⟩ := k
    obtain ⟨k1, k2, k3⟩ := hr.uni
    exact ⟨v, by rw [he, k2, k3, hJ2, hE2], k1, hu⟩
  have c5 : Hid (∀ w, Up w1 w → Calls Tryz.prog 20 #[v1, .int .i64 i] w fun e w' => e = .returned (.tuple #[.string S1, .bool b1]) ∧ Up w w') := Lib.hid fun w u => (pname_any T i w v1 (HT.out.up u) HS.out (HX.out.up (U1.out.trans u)).nx).mono fun e w' k => ⟨by rw [k.1, hS1, hb1], k.2⟩
  have c6 : Hid (∀ w, Up w1 w → Calls Tryz.prog 21 #[v1, .int .i64 i] w fun e w' => e = .returned (.tuple #[.string S1, .bool b1]) ∧ Up w w') := Lib.hid fun w u => (refName T i w v1 (HT.out.up u) HS.out).mono fun e w' k => ⟨by rw [k.1, hS1, hb1], k.2⟩
  have c7 : Hid (∀ w, Up w1 w → Calls Tryz.prog 22 #[v1, .int .i64 i] w fun e w' => e = .returned (.tuple #[.string S2, .bool b2]) ∧ Up w w') := Lib.hid fun w u => (plong_any T i w v1 (HT.out.up u) HS.out (HX.out.up (U1.out.trans u)).nx).mono fun e w' k => ⟨by rw [k.1, hS2, hb2], k.2⟩
  have c8 : Hid (∀ w, Up w1 w → Calls Tryz.prog 23 #[v1, .int .i64 i] w fun e w' => e = .returned (.tuple #[.string S2, .bool b2]) ∧ Up w w') := Lib.hid fun w u => (refLongT T i w v1 (HT.out.up u) HS.out).mono fun e w' k => ⟨by rw [k.1, hS2, hb2], k.2⟩
  have c9 : Hid (∀ w, Up w1 w → Calls Tryz.prog 26 #[v1, .int .i64 i, .string x] w fun e w' => e = .returned (.bool b3) ∧ Up w w') := Lib.hid fun w u => (pkey_any T i x w v1 (HT.out.up u)).mono fun e w' k => ⟨by rw [k.1, hb3], k.2⟩
  have c10 : Hid (∀ w, Up w1 w → Calls Tryz.prog 27 #[v1, .int .i64 i, .string x] w fun e w' => e = .returned (.bool b3) ∧ Up w w') := Lib.hid fun w u => (refKey T i x w v1 (HT.out.up u)).mono fun e w' k => ⟨by rw [k.1, hb3], k.2⟩
  have HO : Hid (szO (rO X) ≤ 65536) := Lib.hid (by have := HL.out; omega)
  have HF : Hid ((rF Y).sz ≤ 65536) := Lib.hid (by have := HL.out; omega)
  obtain ⟨A, c, rfl, -⟩ := HT.out
  obtain ⟨M, hM⟩ : ∃ M, T.length = M := ⟨_, rfl⟩
  rw [hM] at c1 c2 c3 c4 c5 c6 c7 c8 c9 c10 ⊢
  clear hT hX hY hJ hE hJ2 hE2 hS1 hb1 hS2 hb2 hb3 hM hO hF hlen cF h1 u1 HS HT HL
  go_wp2_with fail
  refine (c1.out w1 (Up.refl _)).mono ?_
  rintro e w2 ⟨v2, rfl, h2, u2⟩
  have V2 := Lib.hid u2
  have H2 := Lib.hid h2
  clear u2 h2 c1
  go_wp2_with fail
  refine (c2.out w2 V2.out).mono ?_
  rintro e w3 ⟨v3, rfl, h3, u3⟩
  have V3 := Lib.hid (V2.out.trans u3)
  have H3 := Lib.hid h3
  have H2 := Lib.hid (H2.out.up u3)
  clear u3 h3 c2
  go_wp2_with fail
  refine (c3.out w3 V3.out).mono ?_
  rintro e w4 ⟨v4, rfl, h4, u4⟩
  have V4 := Lib.hid (V3.out.trans u4)
  have H4 := Lib.hid h4
  have H2 := Lib.hid (H2.out.up u4)
  have H3 := Lib.hid (H3.out.up u4)
  clear u4 h4 c3
  go_wp2_with fail
  refine (c4.out w4 V4.out).mono ?_
  rintro e w5 ⟨v5, rfl, h5, u5⟩
  have V5 := Lib.hid (V4.out.trans u5)
  have H5 := Lib.hid h5
  have H2 := Lib.hid (H2.out.up u5)
  have H3 := Lib.hid (H3.out.up u5)
  have H4 := Lib.hid (H4.out.up u5)
  clear u5 h5 c4
  go_wp2_with fail
  refine (c5.out w5 V5.out).mono ?_
  rintro e w6 ⟨rfl, u6⟩
  have V6 := Lib.hid (V5.out.trans u6)
  have Z6 := Lib.hid u6
  clear u6 c5
  go_wp2_with fail
  refine (c6.out w6 V6.out).mono ?_
  rintro e w7 ⟨rfl, u7⟩
  have V7 := Lib.hid (V6.out.trans u7)
  have Z7 := Lib.hid (Z6.out.trans u7)
  clear u7 c6
  go_wp2_with fail
  refine (c7.out w7 V7.out).mono ?_
  rintro e w8 ⟨rfl, u8⟩
  have V8 := Lib.hid (V7.out.trans u8)
  have Z8 := Lib.hid (Z7.out.trans u8)
  clear u8 c7
  go_wp2_with fail
  refine (c8.out w8 V8.out).mono ?_
  rintro e w9 ⟨rfl, u9⟩
  have V9 := Lib.hid (V8.out.trans u9)
  have Z9 := Lib.hid (Z8.out.trans u9)
  have cS := rSame (rO X) (rO X) (H2.out.up Z9.out) (H3.out.up Z9.out) HO.out true (by simp) (Up.refl _)
  have H4 := Lib.hid (H4.out.up Z9.out)
  have H5 := Lib.hid (H5.out.up Z9.out)
  clear u9 c8
  go_wp2_with fail
  refine cS.mono ?_
  rintro e w10 ⟨rfl, u10⟩
  have cA := all_any (rF Y) H4.out H5.out HF.out u10
  have V10 := Lib.hid (V9.out.trans u10)
  clear u10 cS
  go_wp2_with fail
  refine cA.mono ?_
  rintro e w11 ⟨rfl, u11⟩
  have V11 := Lib.hid (V9.out.trans u11)
  clear u11 cA
  go_wp2_with fail
  refine (c9.out w11 V11.out).mono ?_
  rintro e w12 ⟨rfl, u12⟩
  have V12 := Lib.hid (V11.out.trans u12)
  clear u12 c9
  go_wp2_with fail
  refine (c10.out w12 V12.out).mono ?_
  rintro e w13 ⟨rfl, u13⟩
  have cW := works6 HX.out (U1.out.trans (V12.out.trans u13))
  clear u13 c10
  go_wp2_with fail
  refine cW.mono ?_
  rintro e w14 ⟨rfl, u14⟩
  go_wp2_with fail
  go_ret
  exact bop_ret rfl u14
end Go.Proofs.YthonaeigacfmbaaGreatDoor
namespace Go.Proofs.YthonaeigacfmbaaGreatDoor
open Go.ChangeShapes Go.WideShapes Go.Deep Go.RowKit

theorem blk_lt {w : World} {a : Addr} {v : Value} (h : w.cell? a = some v) : a.block < w.heap.size := by
  rcases Nat.lt_or_ge a.block w.heap.size with h1 | h1
  · exact h1
  · have h2 : w.heap[a.block]? = none := Array.getElem?_eq_none h1
    unfold World.cell? at h
    rw [h2] at h
    cases h
theorem add_zero (a : Addr) : a.add 0 = a := by simp [Addr.add]

set_option maxRecDepth 100000 in
theorem one_tok {H : Type} {enc : TypeId × Value → H} {w : World} {base fuel : Nat} {spare : Nat → Bool} {held : Bool} {cs : List Value} {x : DataW H × List MemPlace}
    (h : DataW.trod enc Tryz.prog w base spare held fuel 63 cs = some x) : ∃ t : B.RTok, cs = rc4 t ∧ t.s.size ≤ maxLen := by
  obtain ⟨ys, n, _, _, hlen, hyl, hf⟩ := DataW.trod_struct Tryz.underlying63 h
  have hC : Tryz.prog.cellsOf 63 = 4 := by kernel_rfl
  rw [hC] at hlen
  have hl4 : cs.length = 4 := hlen
  have hy4 : ys.length = 4 := hyl
  match cs, hl4 with
  | [c0, c1, c2, c3], _ =>
    match ys, hy4 with
    | [y0, y1, y2, y3], _ =>
      have g0 : DataW.trod enc Tryz.prog w base spare held n 3 [c0] = some y0 := hf 0 _ rfl
      have g1 : DataW.trod enc Tryz.prog w base spare held n 9 [c1] = some y1 := hf 1 _ rfl
      have g2 : DataW.trod enc Tryz.prog w base spare held n 3 [c2] = some y2 := hf 2 _ rfl
      have g3 : DataW.trod enc Tryz.prog w base spare held n 3 [c3] = some y3 := hf 3 _ rfl
      obtain ⟨k, e0, _⟩ := DataW.trod_int Tryz.underlying3 g0
      obtain ⟨s, e1, _, hs⟩ := DataW.trod_string Tryz.underlying9 g1
      obtain ⟨m, e2, _⟩ := DataW.trod_int Tryz.underlying3 g2
      obtain ⟨a, e3, _⟩ := DataW.trod_int Tryz.underlying3 g3
      injection e0 with e0
      injection e1 with e1
      injection e2 with e2
      injection e3 with e3
      exact ⟨⟨k, s, m, a⟩, by rw [e0, e1, e2, e3]; rfl, hs⟩

set_option maxRecDepth 100000 in
theorem open_toks {H : Type} {enc : TypeId × Value → H} {W : World} {base : Nat} {v : Value} {d : DataW H} {p : List MemPlace}
    (hv : Value.okWide Tryz.prog W .any base 22 v) (h : DataW.Trod enc Tryz.prog W 0 (fun _ => true) true 22 v d p) :
    ∃ l : List B.RTok, B.RTks W W.heap.size v l ∧ l.length ≤ maxLen ∧ ∀ t ∈ l, t.s.size ≤ maxLen := by
  obtain ⟨a0, len0, cap0, rfl⟩ := okWide_slice Tryz.underlying22 hv
  obtain ⟨fuel, hf⟩ := h
  have hcs : (Value.slice a0 len0 cap0).cells.toList = [.slice a0 len0 cap0] := rfl
  rw [hcs] at hf
  rcases open_slice Tryz.underlying22 hf with ⟨h0, _⟩ | ⟨a, len, cap, m, n, D, Pl, hc, _, hlc, hcm, hm, _, hi⟩
  · injection h0 with h0
    rw [h0]
    exact ⟨[], ⟨none, 0, rfl, fun j t ht => by simp at ht⟩, by simp, fun t ht => by cases ht⟩
  · injection hc with hc
    rw [hc]
    have hm2 : m = cap := by simpa using hm
    have hC : Tryz.prog.cellsOf 63 = 4 := by kernel_rfl
    have key : ∀ i, i < len → ∃ t : B.RTok, B.TokAt W (a.add (i * 4)) t.k t.s t.n t.a ∧ t.s.size ≤ maxLen := by
      intro i hil
      obtain ⟨cs', hce, htr⟩ := hi i (by omega)
      obtain ⟨t, rfl, hts⟩ := one_tok htr
      rw [hC] at hce
      obtain ⟨_, _, hat⟩ := World.cells?_some hce
      have e0 := hat 0 (by omega)
      rw [add_zero] at e0
      exact ⟨t, ⟨e0, hat 1 (by omega), hat 2 (by omega), hat 3 (by omega)⟩, hts⟩
    let f : Nat → B.RTok := fun i => if h : i < len then Classical.choose (key i h) else ⟨0, ⟨#[]⟩, 0, 0⟩
    have hfx : ∀ i, i < len → B.TokAt W (a.add (i * 4)) (f i).k (f i).s (f i).n (f i).a ∧ (f i).s.size ≤ maxLen := by
      intro i h
      have := Classical.choose_spec (key i h)
      show B.TokAt W _ (dite _ _ _ : B.RTok).k (dite _ _ _ : B.RTok).s (dite _ _ _ : B.RTok).n (dite _ _ _ : B.RTok).a ∧ (dite _ _ _ : B.RTok).s.size ≤ _
      rw [dif_pos h]
      exact this
    refine ⟨(List.range len).map f, ⟨some a, cap, by rw [List.length_map, List.length_range], fun j t ht => ?_⟩, by rw [List.length_map, List.length_range]; omega, fun t ht => ?_⟩
    · rw [List.getElem?_map] at ht
      obtain ⟨i, hi', rfl⟩ := Option.map_eq_some_iff.1 ht
      have hij : i = j ∧ j < len := by
        obtain ⟨h1, h2⟩ := List.getElem?_eq_some_iff.1 hi'
        rw [List.length_range] at h1
        rw [List.getElem_range] at h2
        omega
      obtain ⟨rfl, hlt⟩ := hij
      have := (hfx i hlt).1
      refine ⟨a, rfl, ?_, this⟩
      have hb := blk_lt this.1
      rw [addBlock] at hb
      exact hb
    · obtain ⟨i, hi', rfl⟩ := List.mem_map.1 ht
      exact (hfx i (List.mem_range.1 hi')).2
end Go.Proofs.YthonaeigacfmbaaGreatDoor
namespace Go.Proofs.YthonaeigacfmbaaGreatDoor
open Go.ChangeShapes Go.WideShapes Go.ChangeAt Go.RowKit Go.Lib

theorem ownKnobNone : ownKnob Tryz.prog.godebug = none := by kernel_rfl
def laidL : List (String × DataW Unit) := Rows.ptypeParsesRow.laid
theorem first_is : Rows.laid_unicode_utf8_first = Lib.firstData := by kernel_rfl
theorem accept_is : (Rows.laid_unicode_utf8_acceptRanges : DataW Unit) = Lib.acceptData := by kernel_rfl
theorem pow_is : (Rows.laid_internal_strconv_uint64pow10 : DataW Unit) = Lib.tabData .u64 Lib.pow10Tab := by kernel_rfl
theorem signs_is : (Rows.laid_marquetry_lexer_signs : DataW Unit) = .agg (B.SIGNS.map fun x => .lit (.string (B.u8 x))) := by kernel_rfl

theorem reads_cells {w : World} {n : String} {d : DataW Unit} (h : VarReads Tryz.prog w n d) {g : Nat} {t : TypeId} (hg : Tryz.prog.globalNamed n = some g) (ht : (Tryz.prog.globals[g]?).map (·.type) = some t) :
    ∃ cs fuel p, w.var? Tryz.prog n = some cs ∧ (∃ e z, w.heap[g]? = some (.cells cs e z)) ∧ DataW.trod (fun _ => ()) Tryz.prog w 0 (fun _ => true) false fuel t cs.toList = some (d, p) := by
  obtain ⟨g', t', cs, fuel, p, h1, h2, h3, h4⟩ := h
  obtain rfl := Option.some.inj (hg.symm.trans h1)
  obtain rfl := Option.some.inj (ht.symm.trans h2)
  refine ⟨cs, fuel, p, h3, ?_, h4⟩
  unfold World.var? at h3
  rw [hg] at h3
  simp only [Option.bind_some] at h3
  split at h3
  · rename_i cs' e z he
    injection h3 with h3
    subst h3
    exact ⟨e, z, he⟩
  · cases h3
theorem err_of {w : World} {n : String} {nm : String} {d : DataW Unit} (h : VarReads Tryz.prog w n (.iface nm d)) {g : Nat} {t : TypeId} (hg : Tryz.prog.globalNamed n = some g) (ht : (Tryz.prog.globals[g]?).map (·.type) = some t) {ms : Array (String × TypeId)} (hi : Tryz.prog.underlying t = some (.interface ms)) : B.ErrIs w g := by
  obtain ⟨cs, fuel, p, h1, ⟨e, z, h2⟩, h3⟩ := reads_cells h hg ht
  obtain ⟨_, u, v, h4, _, _⟩ := iface_of_trod hi h3
  refine ⟨.iface u v, ?_, .inr ⟨u, v, rfl⟩⟩
  rw [cell_of_row w g 0 cs e z h2]
  have : cs[0]? = cs.toList[0]? := by simp
  rw [this, h4]
  rfl
theorem strs_of {w : World} {fuel : Nat} {t e : TypeId} {cs : List Value} {zs : List (List UInt8)} {p : List MemPlace} (ht : Tryz.prog.underlying t = some (.array zs.length e)) (he : Tryz.prog.underlying e = some .string) (hce : Tryz.prog.cellsOf e = 1) (hct : Tryz.prog.cellsOf t = zs.length)
    (h : DataW.trod (fun _ => ()) Tryz.prog w 0 (fun _ => true) false fuel t cs = some (.agg (zs.map fun z => .lit (.string z)), p)) : cs = zs.map fun z => Value.string ⟨z.toArray⟩ := by
  obtain ⟨xs, m, _, hx, hlen, hxl, hel⟩ := DataW.trod_array ht h
  rw [hct] at hlen
  apply List.ext_getElem (by simpa using hlen)
  intro i h1 h2
  have hi : i < zs.length := by simpa using h2
  have hk := hel i hi
  rw [hce, Nat.mul_one] at hk
  have hcs : (cs.drop i).take 1 = [cs[i]] := by
    rw [List.drop_eq_getElem_cons h1]
    rfl
  have hxi : xs[i]? = some (xs[i]'(by omega)) := List.getElem?_eq_getElem (by omega)
  rw [hcs, hxi] at hk
  obtain ⟨s, hs, hy, _⟩ := DataW.trod_string he hk
  have e1 : (xs.map (·.1))[i]? = (zs.map fun z => (DataW.lit (.string z) : DataW Unit))[i]? := by
    have := congrArg Prod.fst hx
    simp only [DataW.agg.injEq] at this
    rw [this]
  rw [List.getElem?_map, List.getElem?_map, hxi, List.getElem?_eq_getElem hi] at e1
  simp only [Option.map_some, Option.some.injEq] at e1
  rw [hy] at e1
  simp only [DataW.lit.injEq, Lit.string.injEq] at e1
  rw [(List.cons.inj hs).1, List.getElem_map, ← e1]
theorem sgV_is : (B.sgV.toList) = (B.SIGNS.map B.u8).map fun z => Value.string ⟨z.toArray⟩ := by kernel_rfl
set_option maxRecDepth 100000 in
theorem pair_of {w : World} {fuel : Nat} {a b : Value} {s : List UInt8} {k : Int} {p : List MemPlace}
    (h : DataW.trod (fun _ => ()) Tryz.prog w 0 (fun _ => true) false fuel 181 [a, b] = some (.agg [.lit (.string s), .lit (.int .i64 k)], p)) : a = .string ⟨s.toArray⟩ ∧ b = .int .i64 k := by
  obtain ⟨ys, n, _, hx, _, hyl, hf⟩ := DataW.trod_struct Tryz.underlying181 h
  have hy2 : ys.length = 2 := hyl
  match ys, hy2 with
  | [y0, y1], _ =>
    have g0 : DataW.trod (fun _ => ()) Tryz.prog w 0 (fun _ => true) false n 9 [a] = some y0 := hf 0 _ rfl
    have g1 : DataW.trod (fun _ => ()) Tryz.prog w 0 (fun _ => true) false n 3 [b] = some y1 := hf 1 _ rfl
    obtain ⟨s', e0, f0, _⟩ := DataW.trod_string Tryz.underlying9 g0
    obtain ⟨k', e1, f1, _⟩ := DataW.trod_int Tryz.underlying3 g1
    subst f0 f1
    have hx := congrArg Prod.fst hx
    simp only [List.map_cons, List.map_nil, DataW.agg.injEq, List.cons.injEq, DataW.lit.injEq, Lit.string.injEq, Lit.int.injEq, and_true, true_and] at hx
    injection e0 with e0
    injection e1 with e1
    exact ⟨by rw [e0, hx.1], by rw [e1, hx.2]⟩
set_option maxRecDepth 100000 in
theorem plains_of {w : World} {fuel : Nat} {cs : Array Value} {p : List MemPlace}
    (h : DataW.trod (fun _ => ()) Tryz.prog w 0 (fun _ => true) false fuel 182 cs.toList = some (Rows.laid_marquetry_ptype_plain, p)) : cs.toList = plV.toList := by
  obtain ⟨xs, m, _, hx, hlen, hxl, hel⟩ := DataW.trod_array Tryz.underlying182 h
  have h6 : Tryz.prog.cellsOf 182 = 6 := by kernel_rfl
  have h2 : Tryz.prog.cellsOf 181 = 2 := by kernel_rfl
  rw [h6] at hlen
  rw [h2] at hel
  have e0 := hel 0 (by omega)
  have e1 := hel 1 (by omega)
  have e2 := hel 2 (by omega)
  have hx := congrArg Prod.fst hx
  generalize cs.toList = l at *
  match l, hlen, xs, hxl with
  | [a, b, c, d, e, f], _, [x0, x1, x2], _ =>
    have hx : Rows.laid_marquetry_ptype_plain = DataW.agg [x0.1, x1.1, x2.1] := hx
    unfold Rows.laid_marquetry_ptype_plain at hx
    simp only [DataW.agg.injEq, List.cons.injEq, and_true] at hx
    obtain ⟨q0, q1, q2⟩ := hx
    obtain ⟨y0, p0⟩ := x0
    obtain ⟨y1, p1⟩ := x1
    obtain ⟨y2, p2⟩ := x2
    simp only at q0 q1 q2
    subst q0 q1 q2
    obtain ⟨r0, r1⟩ := pair_of e0
    obtain ⟨r2, r3⟩ := pair_of e1
    obtain ⟨r4, r5⟩ := pair_of e2
    rw [r0, r1, r2, r3, r4, r5]
    rfl
set_option maxRecDepth 100000 in
theorem vx_of {W : World} {l : List (String × DataW Unit)} (h : laidMetH Tryz.prog l W) (hl : l = laidL) (hsh : W.ShapedOpen Tryz.prog) : Vx W := by
  subst hl
  have h : laidMet Tryz.prog laidL W := h
  have rd : ∀ n d, (n, d) ∈ laidL → VarReads Tryz.prog W n d := fun n d hm => Lib.laidMet.reads h hm
  have h1 := rd "unicode/utf8.first" Rows.laid_unicode_utf8_first (by simp [laidL, Rows.ptypeParsesRow])
  have h2 := rd "unicode/utf8.acceptRanges" Rows.laid_unicode_utf8_acceptRanges (by simp [laidL, Rows.ptypeParsesRow])
  have h3 := rd "internal/strconv.uint64pow10" Rows.laid_internal_strconv_uint64pow10 (by simp [laidL, Rows.ptypeParsesRow])
  have h4 := rd "strconv.ErrSyntax" Rows.laid_strconv_ErrSyntax (by simp [laidL, Rows.ptypeParsesRow])
  have h5 := rd "strconv.ErrRange" Rows.laid_strconv_ErrRange (by simp [laidL, Rows.ptypeParsesRow])
  have h7 := rd "marquetry/ptype.plain" Rows.laid_marquetry_ptype_plain (by simp [laidL, Rows.ptypeParsesRow])
  have h6 := rd "marquetry/lexer.signs" Rows.laid_marquetry_lexer_signs (by simp [laidL, Rows.ptypeParsesRow])
  rw [first_is] at h1
  rw [accept_is] at h2
  rw [pow_is] at h3
  rw [signs_is] at h6
  refine ⟨⟨utf8Tabs_of_readsT (U8Types.of260 Tryz.lays260) ⟨by kernel_rfl, by kernel_rfl, by kernel_rfl, by kernel_rfl, by kernel_rfl, by kernel_rfl, by kernel_rfl⟩ h1 h2, ?_, Tryz.laysM143.s1_3 W hsh,
    err_of h4 (g := 6) (by kernel_rfl) (by kernel_rfl) Tryz.underlying142, err_of h5 (g := 7) (by kernel_rfl) (by kernel_rfl) Tryz.underlying142, ?_⟩, ?_⟩
  · obtain ⟨cs, fuel, p, k1, _, k3⟩ := reads_cells h3 (g := 8) (t := 274) (by kernel_rfl) (by kernel_rfl)
    unfold TabIs
    rw [k1, ← Lib.cells_of_tab (t := 274) (n := 20) (e := 248) (by kernel_rfl) (by kernel_rfl) (by kernel_rfl) (by kernel_rfl) k3]
  · obtain ⟨cs, fuel, p, _, ⟨e, z, k2⟩, k3⟩ := reads_cells h6 (g := 1) (t := 192) (by kernel_rfl) (by kernel_rfl)
    refine ⟨e, z, ?_⟩
    have hm : (B.SIGNS.map fun x => (DataW.lit (.string (B.u8 x)) : DataW Unit)) = (B.SIGNS.map B.u8).map fun z => .lit (.string z) := by rw [List.map_map]; rfl
    rw [hm] at k3
    have k4 := strs_of (t := 192) (e := 9) (by kernel_rfl) (by kernel_rfl) (by kernel_rfl) (by kernel_rfl) k3
    rw [k2]
    congr 2
    apply Array.ext'
    rw [k4, sgV_is]
  · obtain ⟨cs, fuel, p, _, ⟨e, z, k2⟩, k3⟩ := reads_cells h7 (g := 0) (t := 182) (by kernel_rfl) (by kernel_rfl)
    refine ⟨e, z, ?_⟩
    rw [k2]
    congr 2
    apply Array.ext'
    exact plains_of k3

def litV : DataW Unit → Value
  | .lit (.int k z) => .int k z
  | .lit (.string l) => .string ⟨l.toArray⟩
  | _ => undef
def rowV : DataW Unit → Array Value
  | .agg ds => (ds.map litV).toArray
  | _ => #[]
def txtV : DataW Unit → Value
  | .iface _ (.ptr (.agg [d])) => litV d
  | _ => undef
noncomputable def laidWorld (os : Os) : World :=
  let w0 := World.holding Tryz.prog os ⟨#[], #[], []⟩
  let put (h : Array Obj) (g : Nat) (cs : Array Value) : Array Obj := h.modify g fun
    | .cells _ t frozen => .cells cs t frozen
    | o => o
  let h1 := put w0.heap 4 (Lib.firstTab.map fun z => Value.int .u8 z).toArray
  let h2 := put h1 5 ((List.range 16).flatMap fun i => [Value.int .u8 (Lib.accLo i), Value.int .u8 (Lib.accHi i)]).toArray
  let h3 := put h2 8 (rowV Rows.laid_internal_strconv_uint64pow10)
  let h4 := put h3 9 (rowV Rows.laid_math_bits_deBruijn32tab)
  let h5 := put h4 10 (rowV Rows.laid_math_bits_deBruijn64tab)
  let h6 := put h5 1 (rowV Rows.laid_marquetry_lexer_signs)
  let h6 := put h6 0 plV
  let n := h6.size
  let h7 := put h6 7 #[.iface 266 (.pointer (some ⟨n, 0, none⟩))]
  let h8 := put h7 6 #[.iface 266 (.pointer (some ⟨n + 1, 0, none⟩))]
  let h9 := (h8.push (.cells #[txtV Rows.laid_strconv_ErrRange] 268 (0, 0))).push (.cells #[txtV Rows.laid_strconv_ErrSyntax] 268 (0, 0))
  { w0 with heap := h9 }
end Go.Proofs.YthonaeigacfmbaaGreatDoor
