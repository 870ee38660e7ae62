/-
  Layer 6, the program's writer: constructors, mu; every type.
-/
import Derived.Test.YthonaeigacfmbaaGreatDoorGq24
import Derived.Laws.AppendOwnNone
import Derived.Laws.CopyOwn
import Derived.Lib.AppendZeros
namespace Go.Proofs.YthonaeigacfmbaaGreatDoor
open Go.RowKit

theorem bars_snoc : ∀ (l : List (List Tk)) (a : List Tk), bars (l ++ [a]) = if l = [] then a else bars l ++ ky kBar :: a
  | [], a => rfl
  | [x], a => rfl
  | x :: y :: r, a => by
    show x ++ ky kBar :: bars ((y :: r) ++ [a]) = _
    rw [bars_snoc (y :: r) a, if_neg (by simp), if_neg (by simp)]
    show _ = (x ++ ky kBar :: bars (y :: r)) ++ ky kBar :: a
    simp
def segF (f : Fr) : List (List Tk) := (tkF f).map (·.2)
theorem segF_len : ∀ (f : Fr), (segF f).length = f.len
  | .nil => rfl
  | .cons x k r => by show (segF r).length + 1 = r.len + 1; rw [segF_len r]
theorem segF_get : ∀ {f : Fr} {j : Nat} {t : Tr}, f.get j = some t → (segF f)[j]? = some (tkT t)
  | .nil, _, _, h => by cases h
  | .cons x k r, 0, t, h => by
    have h : (x, k) = t := Option.some.inj h
    subst h
    rfl
  | .cons x k r, j + 1, t, h => segF_get (f := r) (j := j) h
theorem bars_take {f : Fr} {j : Nat} {t : Tr} (h : f.get j = some t) : bars ((segF f).take (j + 1)) = if j = 0 then tkT t else bars ((segF f).take j) ++ ky kBar :: tkT t := by
  have hs := segF_get h
  have hl : j < (segF f).length := by rw [segF_len]; exact Fr.get_lt h
  have e : (segF f).take (j + 1) = (segF f).take j ++ [tkT t] := by rw [List.take_add_one, hs]; rfl
  rw [e, bars_snoc]
  cases j with
  | zero => rfl
  | succ j =>
    rw [if_neg, if_neg (by omega)]
    intro h0
    have := congrArg List.length h0
    rw [List.length_take] at this
    simp only [List.length_nil] at this
    omega
theorem bars_mono : ∀ (l : List (List Tk)) (j : Nat), (bars (l.take j)).length ≤ (bars l).length
  | [], _ => by simp [bars]
  | [a], j => by cases j with
    | zero => simp [bars]
    | succ j => simp [bars]
  | a :: b :: r, 0 => by simp [bars]
  | a :: b :: r, 1 => by simp [bars]
  | a :: b :: r, j + 2 => by
    have ih := bars_mono (b :: r) (j + 1)
    show (a ++ ky kBar :: bars ((b :: r).take (j + 1))).length ≤ (a ++ ky kBar :: bars (b :: r)).length
    simp only [List.length_append, List.length_cons]
    omega
section
variable {W : World} {bw : Nat}
theorem put_2 {w : World} {ts : List ByteArray} (x y : ByteArray) (hB : W.heap.size ≤ bw) (hu : Up W w) (hw : Wr bw w ts) (hts : ts.length ≤ 1000000) :
    Calls Tryz.prog 105 #[.pointer (some ⟨bw, 0, none⟩), .slice (some ⟨w.heap.size, 0, none⟩) 2 2] (w.alloc (.cells #[.string x, .string y] 9)) (WrP W bw (ts ++ [x, y])) := put_lit [x, y] hB hu hw hts (by show 2 ≤ 10; omega) (by show 0 < 2; omega)
theorem put_3 {w : World} {ts : List ByteArray} (x y z : ByteArray) (hB : W.heap.size ≤ bw) (hu : Up W w) (hw : Wr bw w ts) (hts : ts.length ≤ 1000000) :
    Calls Tryz.prog 105 #[.pointer (some ⟨bw, 0, none⟩), .slice (some ⟨w.heap.size, 0, none⟩) 3 3] (w.alloc (.cells #[.string x, .string y, .string z] 9)) (WrP W bw (ts ++ [x, y, z])) := put_lit [x, y, z] hB hu hw hts (by show 3 ≤ 10; omega) (by show 0 < 3; omega)
set_option maxHeartbeats 12800000 in
set_option maxRecDepth 100000 in
theorem writeCons_any (f : Fr) (hB : W.heap.size ≤ bw) (hc : ∀ (j : Nat) t, f.get j = some t → ∃ s u, t = nd 8 s (fr1 u) ∧ WriAt W bw u 0) (kb ko c : Nat) (hf : InF W (fun q => q < W.heap.size) f kb ko) (w : World) (ts : List ByteArray) (hu : Up W w) (hw : Wr bw w ts) (hz : ts.length + (bars (segF f)).length ≤ 1000000) (hl : f.len ≤ 100000) :
    Calls Tryz.prog 106 #[.pointer (some ⟨bw, 0, none⟩), .slice (some ⟨kb, ko, none⟩) f.len c] w (WrP W bw (ts ++ txt (bars (segF f)))) := by
  obtain ⟨n, hn⟩ : ∃ n, f.len = n := ⟨_, rfl⟩
  have HN := Lib.hid hn
  have HC := Lib.hid hc
  have HF := Lib.hid hf
  have HU := Lib.hid hu
  have HW := Lib.hid hw
  have HZ := Lib.hid hz
  rw [hn] at hl ⊢
  have hend : Hid (bars ((segF f).take n) = bars (segF f)) := Lib.hid (by rw [List.take_of_length_le (by rw [segF_len]; omega)])
  obtain ⟨Z, hZ⟩ : ∃ Z, ts ++ txt (bars (segF f)) = Z := ⟨_, rfl⟩
  rw [hZ]
  have HZZ := Lib.hid hZ
  clear hn hc hf hu hw hz hZ
  go_enter Tryz.func106, Tryz.ntmps106
  go_wp2_with fail
  go_loopw [8] (fun x wr => ∃ j : Nat, j ≤ n ∧ x = .int .i64 (j : Int) ∧ Up W wr ∧ Wr bw wr (ts ++ txt (bars ((segF f).take j)))) (fun x _ => n + 1 - (intOf x).toNat)
  case atStart => exact ⟨0, Nat.zero_le _, rfl, HU.out, by show Wr bw w (ts ++ txt []); rw [show txt [] = [] from rfl, List.append_nil]; exact HW.out⟩
  case round =>
    obtain ⟨j, hj, rfl, hur, hwr⟩ := hrel
    have HUR := Lib.hid hur
    have HWR := Lib.hid hwr
    clear hur hwr
    by_cases hlt : j < n
    · have hjz : (j : Int) < (n : Int) := by omega
      have hw1 : IntKind.i64.wrap ((j : Int) + 1) = ((j + 1 : Nat) : Int) := by rw [IntKind.wrap_i64]; omega
      obtain ⟨t, ht⟩ := Fr.get_some (f := f) (i := j) (by rw [HN.out]; exact hlt)
      obtain ⟨s, u, rfl, cU⟩ := HC.out j t ht
      obtain ⟨vc, hvc, hTc⟩ := HF.out.at ht
      obtain ⟨q, p, A, c', rfl, hq, k0, k1, k2, k3, k4, hcc, hkid⟩ := InT.open hTc
      obtain ⟨kb2, ko2, rfl, hkb2, ⟨va, ka, ia⟩, -⟩ := hkid (by show 0 < 1; omega)
      obtain ⟨qa, pa, rfl⟩ := InT.ptr ia
      have hb1 : (bars ((segF f).take (j + 1))).length ≤ (bars (segF f)).length := bars_mono _ _
      have hb0 : (bars ((segF f).take j)).length ≤ (bars (segF f)).length := bars_mono _ _
      have hbt := bars_take ht
      have ka : W.cell? ⟨kb2, ko2, none⟩ = some (.pointer (some ⟨qa, pa, none⟩)) := ka
      have k2 : W.cell? ⟨q, p + 2, none⟩ = some (.string s) := k2
      have k4 : W.cell? ⟨q, p + 4, none⟩ = some (.slice (some ⟨kb2, ko2, none⟩) 1 c') := k4
      have HVC := Lib.hid hvc
      have HK2 := Lib.hid k2
      have HK4 := Lib.hid k4
      have HKA := Lib.hid ka
      have HIA : Hid (HasT W (.pointer (some ⟨qa, pa, none⟩)) (some u)) := Lib.hid ia
      have HBT := Lib.hid hbt
      have HB0 := Lib.hid hb0
      have HB1 := Lib.hid hb1
      have HCU := Lib.hid cU
      have hvr := HUR.out.cell hvc
      clear ht hTc k0 k1 k2 k3 k4 hkid ka ia hbt hb0 hb1 cU hvc
      by_cases hj0 : 0 < j
      · have hj1 : (0 : Int) < (j : Int) := by omega
        have cP := put_1 (W := W) kBar hB HUR.out HWR.out (by rw [List.length_append, txt_len]; have := HB0.out; have := HZ.out; omega)
        go_wp2_with fail
        refine cP.mono ?_
        rintro en w2 ⟨⟨x2, rfl⟩, u2, h2⟩
        have k2 := u2.cell HK2.out
        have cQ := put_2 (W := W) s kOf hB u2 h2 (by have h9 := congrArg List.length HBT.out; rw [if_neg (by omega)] at h9; simp only [List.length_append, List.length_cons] at h9; simp only [List.length_append, txt_len, List.length_cons, List.length_nil]; have := HB1.out; have := HZ.out; omega)
        clear u2 h2 cP hvr
        go_wp2_with fail
        refine cQ.mono ?_
        rintro en w3 ⟨⟨x3, rfl⟩, u3, h3⟩
        have k4 := u3.cell HK4.out
        have ka := u3.cell HKA.out
        have hlen := HBT.out
        rw [if_neg (by omega)] at hlen
        have hln := congrArg List.length hlen
        simp only [List.length_append, List.length_cons, tk_con] at hln
        have cW := HCU.out w3 _ _ HIA.out u3 h3 (by rw [wiR_0]; simp only [List.length_append, txt_len, List.length_cons, List.length_nil]; have := HB1.out; have := HZ.out; omega)
        have HLEN := Lib.hid hlen
        clear u3 h3 cQ k2 hlen hln
        go_wp2_with fail
        refine cW.mono ?_
        rintro en w4 ⟨⟨x4, rfl⟩, u4, h4⟩
        have H4 := Lib.hid h4
        clear h4
        go_wp2_with fail
        go_roundw
        case rel =>
          refine ⟨j + 1, by omega, rfl, u4, ?_⟩
          have h := H4.out
          rw [HLEN.out, txt_app]
          rw [wiR_0] at h
          have e : ((ts ++ txt (bars ((segF f).take j)) ++ [kBar]) ++ [s, kOf]) ++ txt (tkT u) = ts ++ (txt (bars ((segF f).take j)) ++ txt (ky kBar :: tkT (nd 8 s (fr1 u)))) := by rw [tk_con]; simp [txt, ky, nmT]
          rw [e] at h
          exact h
        case measure => simp [intOf]; omega
      · obtain rfl : j = 0 := by omega
        have hvr : wr.cell? ⟨kb, ko, none⟩ = some (.pointer (some ⟨q, p, none⟩)) := hvr
        have k2 := HUR.out.cell HK2.out
        have h0 : Wr bw wr ts := by have h := HWR.out; simpa [bars, txt] using h
        have cQ := put_2 (W := W) s kOf hB HUR.out h0 (by have := HZ.out; omega)
        clear h0
        go_wp2_with fail
        refine cQ.mono ?_
        rintro en w3 ⟨⟨x3, rfl⟩, u3, h3⟩
        have k4 := u3.cell HK4.out
        have ka := u3.cell HKA.out
        have hlen := HBT.out
        rw [if_pos trivial] at hlen
        have hln := congrArg List.length hlen
        simp only [List.length_cons, tk_con] at hln
        have cW := HCU.out w3 _ _ HIA.out u3 h3 (by rw [wiR_0]; simp only [List.length_append, List.length_cons, List.length_nil]; have := HB1.out; have := HZ.out; omega)
        have HLEN := Lib.hid hlen
        clear u3 h3 cQ k2 hlen hln hvr
        go_wp2_with fail
        refine cW.mono ?_
        rintro en w4 ⟨⟨x4, rfl⟩, u4, h4⟩
        have H4 := Lib.hid h4
        clear h4
        go_wp2_with fail
        go_roundw
        case rel =>
          refine ⟨1, by omega, rfl, u4, ?_⟩
          have h := H4.out
          rw [HLEN.out]
          rw [wiR_0] at h
          have e : (ts ++ [s, kOf]) ++ txt (tkT u) = ts ++ txt (tkT (nd 8 s (fr1 u))) := by rw [tk_con]; simp [txt, ky, nmT]
          rw [e] at h
          exact h
        case measure => first | (simp [intOf]; omega) | simp [intOf]
    · obtain rfl : j = n := by omega
      have hjz : ¬ (j : Int) < (j : Int) := by omega
      go_wp2_with fail
      go_end0
      have h := HWR.out
      rw [hend.out, HZZ.out] at h
      exact ⟨⟨_, rfl⟩, HUR.out, h⟩
set_option maxHeartbeats 12800000 in
set_option maxRecDepth 100000 in
theorem write_mu (s : ByteArray) (f : Fr) (r : Int) (hB : W.heap.size ≤ bw) (hr : ¬ (2 : Int) < r) (h0 : 0 < f.len) (hl : f.len ≤ 100000) (hc : ∀ (j : Nat) t, f.get j = some t → ∃ s u, t = nd 8 s (fr1 u) ∧ WriAt W bw u 0) : WriAt W bw (nd 7 s f) r := fun w ts v hv hu hw hz => by
  have he : wiR r (nd 7 s f) = ky kMu :: nmT s :: ky kLeft :: (bars (segF f) ++ [ky kRight]) := by rw [wiR_no (t := nd 7 s f) hr, tk_mu]; rfl
  have HE : Hid (ts ++ txt (wiR r (nd 7 s f)) = ((ts ++ [kMu, s, kLeft]) ++ txt (bars (segF f))) ++ [kRight]) := Lib.hid (by rw [he]; show ts ++ kMu :: s :: kLeft :: txt (bars (segF f) ++ [ky kRight]) = _; rw [txt_app]; simp [txt, ky])
  have hzl : ts.length + (bars (segF f)).length + 4 ≤ 1000000 := by rw [he] at hz; simp only [List.length_cons, List.length_append, List.length_nil] at hz; omega
  rw [HE.out]
  obtain ⟨Z, hZ⟩ : ∃ Z, ((ts ++ [kMu, s, kLeft]) ++ txt (bars (segF f))) ++ [kRight] = Z := ⟨_, rfl⟩
  rw [hZ]
  have HZZ := Lib.hid hZ
  clear hZ
  have cR : Calls Tryz.prog 104 #[v] w fun e w' => e = .returned (.int .i64 2) ∧ Up w w' := ruleOf_any hv hu
  obtain ⟨q, p, A, c, rfl, hq, k0, k1, k2, k3, k4, hcc, hkid⟩ := InT.open hv
  obtain ⟨kb, ko, rfl, hkb, hf⟩ := hkid h0
  have k4 : W.cell? ⟨q, p + 4, none⟩ = some (.slice (some ⟨kb, ko, none⟩) f.len c) := k4
  have k2 : W.cell? ⟨q, p + 2, none⟩ = some (.string s) := k2
  have HF := Lib.hid hf
  have HU := Lib.hid hu
  have HW := Lib.hid hw
  have HK := Lib.hid k0
  have HK2 := Lib.hid k2
  have HK4 := Lib.hid k4
  have HZ := Lib.hid hzl
  have HC := Lib.hid hc
  clear hv hu hw he hz k0 k1 k2 k3 k4 hkid hf hzl hc HE
  go_enter Tryz.func66, Tryz.ntmps66
  go_wp2_with fail
  refine cR.mono ?_
  rintro en w1 ⟨rfl, u1⟩
  have k0 := (HU.out.trans u1).cell HK.out
  have k2 := (HU.out.trans u1).cell HK2.out
  have cP := put_3 (W := W) kMu s kLeft hB (HU.out.trans u1) (HW.out.up u1) (by have := HZ.out; omega)
  clear u1 cR
  go_wp2_with fail
  refine cP.mono ?_
  rintro en w2 ⟨⟨u, rfl⟩, u2, h2⟩
  have k4 := u2.cell HK4.out
  have cC := writeCons_any f hB HC.out kb ko c HF.out w2 _ u2 h2 (by simp only [List.length_append, List.length_cons, List.length_nil]; have := HZ.out; omega) hl
  clear u2 h2 cP k0 k2
  go_wp2_with fail
  refine cC.mono ?_
  rintro en w3 ⟨⟨u, rfl⟩, u3, h3⟩
  have cP := put_1 (W := W) kRight hB u3 h3 (by simp only [List.length_append, txt_len, List.length_cons, List.length_nil]; have := HZ.out; omega)
  clear u3 h3 cC k4
  go_wp2_with fail
  refine cP.mono ?_
  rintro en w4 ⟨⟨u, rfl⟩, u4, h4⟩
  have H4 := Lib.hid h4
  clear h4
  go_wp2_with fail
  go_end0
  exact ⟨⟨_, rfl⟩, u4, by rw [← HZZ.out]; exact H4.out⟩
end
end Go.Proofs.YthonaeigacfmbaaGreatDoor
namespace Go.Proofs.YthonaeigacfmbaaGreatDoor
open Go.RowKit

def muB (s : ByteArray) (ts : List Tk) : ByteArray := if ts = [] then ⟨#[109, 117, 32]⟩ ++ s ++ ⟨#[32, 123, 32]⟩ else ⟨#[109, 117, 32]⟩ ++ s ++ ⟨#[32, 123, 32]⟩ ++ tB ts
theorem muB_more {s : ByteArray} {ts : List Tk} (h : ts ≠ []) (x : ByteArray) {us : List Tk} (hu : us ≠ []) : muB s (ts ++ ky kBar :: (nmT x :: ky kOf :: us)) = muB s ts ++ ⟨#[32, 124, 32]⟩ ++ x ++ ⟨#[32, 111, 102, 32]⟩ ++ tB us := by
  unfold muB
  rw [if_neg h, if_neg (by simp)]
  have e1 : ts ++ ky kBar :: (nmT x :: ky kOf :: us) = ts ++ ([ky kBar] ++ ([nmT x] ++ ([ky kOf] ++ us))) := rfl
  rw [e1, tB_app h (by simp), tB_app (by simp) (by simp), tB_app (by simp) (by simp), tB_app (by simp) hu, tB_one, tB_one, tB_one]
  refine ba_list _ _ ?_
  simp only [app_list, List.append_assoc]
  rfl
theorem muB_first (s x : ByteArray) {us : List Tk} (hu : us ≠ []) : muB s (nmT x :: ky kOf :: us) = muB s [] ++ x ++ ⟨#[32, 111, 102, 32]⟩ ++ tB us := by
  unfold muB
  rw [if_neg (by simp), if_pos rfl]
  have e1 : nmT x :: ky kOf :: us = [nmT x] ++ ([ky kOf] ++ us) := rfl
  rw [e1, tB_app (by simp) (by simp), tB_app (by simp) hu, tB_one, tB_one]
  refine ba_list _ _ ?_
  simp only [app_list, List.append_assoc]
  rfl
theorem muB_end {s : ByteArray} {ts : List Tk} (h : ts ≠ []) : muB s ts ++ ⟨#[32, 125]⟩ = tB (ky kMu :: nmT s :: ky kLeft :: (ts ++ [ky kRight])) := by
  unfold muB
  rw [if_neg h]
  have e1 : ky kMu :: nmT s :: ky kLeft :: (ts ++ [ky kRight]) = [ky kMu] ++ ([nmT s] ++ ([ky kLeft] ++ (ts ++ [ky kRight]))) := rfl
  rw [e1, tB_app (by simp) (by simp), tB_app (by simp) (by simp), tB_app (by simp) (by simp [h]), tB_app h (by simp), tB_one, tB_one, tB_one, tB_one]
  refine ba_list _ _ ?_
  simp only [app_list, List.append_assoc]
  rfl
set_option maxHeartbeats 12800000 in
set_option maxRecDepth 100000 in
theorem text_mu (s : ByteArray) (f : Fr) (h0 : 0 < f.len) (hl : f.len ≤ 100000) (hc : ∀ (j : Nat) t, f.get j = some t → ∃ s u, t = nd 8 s (fr1 u) ∧ TxtAt u ∧ tkT u ≠ []) (hz : (tB (tkT (nd 7 s f))).size ≤ 100000000) (hm : ∀ j, j ≤ f.len → (muB s (bars ((segF f).take j))).size ≤ 100000000) : TxtAt (nd 7 s f) := fun W w v hv hu => by
  obtain ⟨q, p, A, c, rfl, hq, c0, c1, c2, c3, c4, hcc, hkid⟩ := InT.open hv
  obtain ⟨kb, ko, rfl, hkb, hf⟩ := hkid h0
  have hqw : q < w.heap.size := Nat.lt_of_lt_of_le hq hu.size
  have c4 : W.cell? ⟨q, p + 4, none⟩ = some (.slice (some ⟨kb, ko, none⟩) f.len c) := c4
  have c2 : W.cell? ⟨q, p + 2, none⟩ = some (.string s) := c2
  have c0 : W.cell? ⟨q, p, none⟩ = some (.int .i64 7) := c0
  have e7 : tkT (nd 7 s f) = ky kMu :: nmT s :: ky kLeft :: (bars (segF f) ++ [ky kRight]) := tk_mu s f
  have HM := Lib.hid hm
  have HC := Lib.hid hc
  have HF := Lib.hid hf
  have HK0 := Lib.hid c0
  have HK2 := Lib.hid c2
  have HK4 := Lib.hid c4
  have HU := Lib.hid hu
  have HE7 := Lib.hid e7
  have HHZ := Lib.hid hz
  obtain ⟨n, hn⟩ : ∃ n, f.len = n := ⟨_, rfl⟩
  have HN := Lib.hid hn
  rw [hn] at h0 hl
  obtain ⟨Z, hZ⟩ : ∃ Z, tB (tkT (nd 7 s f)) = Z := ⟨_, rfl⟩
  rw [hZ]
  have HZ := Lib.hid hZ
  have k0 : w.cell? ⟨q, p, none⟩ = some (.int .i64 7) := hu.cell c0
  have k2 : w.cell? ⟨q, p + 2, none⟩ = some (.string s) := hu.cell c2
  have hs0 : (⟨#[109, 117, 32]⟩ ++ s ++ ⟨#[32, 123, 32]⟩ : ByteArray) = muB s [] := (if_pos rfl).symm
  have hsz : s.size ≤ 100000000 := by
    have h := hm 0 (Nat.zero_le _)
    rw [show bars ((segF f).take 0) = [] from rfl, ← hs0] at h
    simp only [ByteArray.size_append] at h
    omega
  have HS0 := Lib.hid hs0
  clear c0 c1 c2 c3 c4 hkid hv hf hc hu hn hZ hm hz e7 hs0
  go_enter Tryz.func69, Tryz.ntmps69
  go_wp2_with fail
  obtain ⟨W0, hW0⟩ : ∃ W0, w.alloc (.cells #[.string ⟨#[]⟩, .string kInt, .string kBool, .string kUnit] 9) = W0 := ⟨_, rfl⟩
  have uA : Up W W0 := by rw [← hW0]; exact HU.out.alloc _
  have UA := Lib.hid uA
  first
    | rw [hW0]
    | (rw [show w.alloc (.cells #[.string ⟨#[]⟩, .string ⟨#[105, 110, 116]⟩, .string ⟨#[98, 111, 111, 108]⟩, .string ⟨#[117, 110, 105, 116]⟩] 9) = W0 from hW0])
  first
    | rw [HS0.out]
    | skip
  clear uA hW0 k0 k2
  go_loopw [6, 7] (fun x y wr => ∃ j : Nat, j ≤ n ∧ y = .int .i64 (j : Int) ∧ x = .string (muB s (bars ((segF f).take j))) ∧ Up W wr) (fun _ y _ => n + 1 - (intOf y).toNat)
  case atStart => exact ⟨0, Nat.zero_le _, rfl, by first | rfl | (rw [← HS0.out]; rfl) | (show Value.string _ = Value.string (muB s []); rw [← HS0.out]), UA.out⟩
  case round =>
    obtain ⟨j, hj, rfl, rfl, hur⟩ := hrel
    have HUR := Lib.hid hur
    have k4r : wr.cell? ⟨q, p + 4, none⟩ = some (.slice (some ⟨kb, ko, none⟩) n c) := by rw [← HN.out]; exact hur.cell HK4.out
    have hqr : q < wr.heap.size := cell_lt k4r
    by_cases hlt : j < n
    · have hjz : (j : Int) < (n : Int) := by omega
      have hw1 : IntKind.i64.wrap ((j : Int) + 1) = ((j + 1 : Nat) : Int) := by rw [IntKind.wrap_i64]; omega
      obtain ⟨t, ht⟩ := Fr.get_some (f := f) (i := j) (by rw [HN.out]; exact hlt)
      obtain ⟨xs, u, rfl, cU, hne⟩ := HC.out j t ht
      obtain ⟨vc, hvc, hTc⟩ := HF.out.at ht
      obtain ⟨q1, p1, A1, c', rfl, hq1, m0, m1, m2, m3, m4, hcc1, hkid1⟩ := InT.open hTc
      obtain ⟨kb2, ko2, rfl, hkb2, ⟨va, ka, ia⟩, -⟩ := hkid1 (by show 0 < 1; omega)
      obtain ⟨qa, pa, rfl⟩ := InT.ptr ia
      have hbt := bars_take ht
      have hm1 := HM.out (j + 1) (by rw [HN.out]; omega)
      have hm0 := HM.out j (by rw [HN.out]; omega)
      have k4u : ∀ u : Upw W, u.w.cell? ⟨q, p + 4, none⟩ = some (.slice (some ⟨kb, ko, none⟩) n c) := Upw.cell (by rw [← HN.out]; exact HK4.out)
      have kcu : ∀ u : Upw W, u.w.cell? ⟨kb, ko + j, none⟩ = some (.pointer (some ⟨q1, p1, none⟩)) := Upw.cell hvc
      have knu : ∀ u : Upw W, u.w.cell? ⟨q1, p1 + 2, none⟩ = some (.string xs) := Upw.cell m2
      have kku : ∀ u : Upw W, u.w.cell? ⟨q1, p1 + 4, none⟩ = some (.slice (some ⟨kb2, ko2, none⟩) 1 c') := Upw.cell m4
      have kau : ∀ u : Upw W, u.w.cell? ⟨kb2, ko2, none⟩ = some (.pointer (some ⟨qa, pa, none⟩)) := Upw.cell ka
      obtain ⟨T, hT⟩ : ∃ T, tB (tkT u) = T := ⟨_, rfl⟩
      have cT : ∀ x : Upw W, Calls Tryz.prog 69 #[.pointer (some ⟨qa, pa, none⟩)] x.w fun e w' => e = .returned (.string T) ∧ Up W w' := fun x => by rw [← hT]; exact cU W x.w _ ia x.h
      have HT := Lib.hid cT
      obtain ⟨X, hX⟩ : ∃ X, muB s (bars ((segF f).take j)) = X := ⟨_, rfl⟩
      obtain ⟨Y, hY⟩ : ∃ Y, muB s (bars ((segF f).take (j + 1))) = Y := ⟨_, rfl⟩
      rw [hX] at hm0 ⊢
      have hYX : Y = (if j = 0 then X else X ++ ⟨#[32, 124, 32]⟩) ++ xs ++ ⟨#[32, 111, 102, 32]⟩ ++ T := by
        rw [← hY, ← hX, hbt, ← hT, tk_con]
        by_cases hj0 : j = 0
        · subst hj0
          rw [if_pos rfl, if_pos rfl]
          exact muB_first s xs hne
        · rw [if_neg hj0, if_neg hj0]
          refine muB_more ?_ xs hne
          intro h0
          have e := bars_mono (segF f) j
          have hne2 : bars ((segF f).take j) ≠ [] := by
            obtain ⟨j', rfl⟩ : ∃ j', j = j' + 1 := ⟨j - 1, by omega⟩
            obtain ⟨t', ht'⟩ := Fr.get_some (f := f) (i := j') (by rw [HN.out]; omega)
            obtain ⟨s', u', rfl, _, _⟩ := HC.out j' t' ht'
            rw [bars_take ht', tk_con]
            split <;> simp
          exact hne2 h0
      rw [hY, hYX] at hm1
      have hsz2 : xs.size ≤ 100000000 ∧ T.size ≤ 100000000 := by simp only [ByteArray.size_append] at hm1; omega
      obtain ⟨hxs, hTs⟩ := hsz2
      have HYX := Lib.hid hYX
      have HY := Lib.hid hY
      clear ht cU hne hvc hTc m0 m1 m2 m3 m4 hkid1 ka ia hbt hm1 hT cT hX hY hYX hur
      by_cases hj0 : 0 < j
      · have hj1 : (0 : Int) < (j : Int) := by omega
        go_wp2_with fail
        refine wp_region_up (W := W) HUR.out (by kernel_rfl) (by kernel_rfl) ?_
        repeat (go_big_quiet_step (first
          | (go_at_call 69; exact Calls.upw (HT.out _))))
        refine wpQuiet_nil ?_
        rintro w9 ⟨⟨_, u9⟩, rfl⟩
        have U9 := Lib.hid u9
        clear u9
        go_wp2_with fail
        go_roundw
        case rel => exact ⟨j + 1, by omega, rfl, by rw [HY.out, HYX.out, if_neg (by omega)], U9.out⟩
        case measure => simp [intOf]; omega
      · obtain rfl : j = 0 := by omega
        have kcu : ∀ u : Upw W, u.w.cell? ⟨kb, ko, none⟩ = some (.pointer (some ⟨q1, p1, none⟩)) := kcu
        go_wp2_with fail
        refine wp_region_up (W := W) HUR.out (by kernel_rfl) (by kernel_rfl) ?_
        repeat (go_big_quiet_step (first
          | (go_at_call 69; exact Calls.upw (HT.out _))))
        refine wpQuiet_nil ?_
        rintro w9 ⟨⟨_, u9⟩, rfl⟩
        have U9 := Lib.hid u9
        clear u9
        go_wp2_with fail
        go_roundw
        case rel => exact ⟨1, by omega, rfl, by rw [HY.out, HYX.out, if_pos trivial], U9.out⟩
        case measure => first | (simp [intOf]; omega) | simp [intOf]
    · obtain rfl : j = n := by omega
      have hjz : ¬ (j : Int) < (j : Int) := by omega
      have hend : bars ((segF f).take j) = bars (segF f) := by rw [List.take_of_length_le (by rw [segF_len, HN.out]; omega)]
      have hm0 := HM.out j (by rw [HN.out]; omega)
      have hnz : bars (segF f) ≠ [] := by
        obtain ⟨j', rfl⟩ : ∃ j', j = j' + 1 := ⟨j - 1, by omega⟩
        obtain ⟨t', ht'⟩ := Fr.get_some (f := f) (i := j') (by rw [HN.out]; omega)
        obtain ⟨s', u', rfl, _, _⟩ := HC.out j' t' ht'
        rw [← hend, bars_take ht', tk_con]
        split <;> simp
      have hfin : muB s (bars ((segF f).take j)) ++ ⟨#[32, 125]⟩ = Z := by rw [hend, muB_end hnz, ← HE7.out, HZ.out]
      obtain ⟨X, hX⟩ : ∃ X, muB s (bars ((segF f).take j)) = X := ⟨_, rfl⟩
      rw [hX] at hfin hm0 ⊢
      have HFI := Lib.hid hfin
      clear hend hnz hfin hX hur
      go_wp2_with fail
      go_ret
      exact sr_ret HFI.out.symm HUR.out
end Go.Proofs.YthonaeigacfmbaaGreatDoor
namespace Go.Proofs.YthonaeigacfmbaaGreatDoor
open Go.RowKit

theorem infoCk : (Tryz.prog.info? 159).map (fun i => (i.zero, i.size, i.bytes)) = some (some .nilFunc, 1, 8) := by kernel_rfl
def OwnCk (w : World) (B : Nat) (v : Value) (vs : List Value) : Prop := w.ownsRow B 159 1 v vs.length vs
def RowPost (vs : List Value) (w : World) (e : Ending) (w' : World) : Prop := ∃ v, e = .returned v ∧ OwnCk w' w.heap.size v vs ∧ Below w.heap.size w w'
set_option maxHeartbeats 3200000 in
set_option maxRecDepth 100000 in
theorem grow_any (n : Nat) (w : World) (hn : n ≤ 1000000) : Calls Tryz.prog 236 #[.slice none 0 0, .int .i64 (n : Int)] w (RowPost [] w) := by
  by_cases h0 : n = 0
  · subst h0
    go_enter Tryz.func236, Tryz.ntmps236
    go_wp2_with fail
    go_ret
    exact ⟨_, rfl, World.ownsRow_nil _ _ _ _, Below.refl _ _⟩
  · obtain ⟨i0, hi, hz0, hz1, hz2⟩ := info_parts infoCk
    have hrun := Lib.run_append_nil_zeros (P := Tryz.prog) w 196 3 196 159 i0 _ .i64 .i64 Tryz.underlying196 Tryz.underlying3 hi hz0 n (by omega) (by omega) (by omega) (by rw [hz2]; omega)
    obtain ⟨C, hC⟩ : ∃ C, Go.grownCap w n 0 159 = C := ⟨_, rfl⟩
    have hge : n ≤ C := by rw [← hC]; exact grownCap_ge _ _ _ _
    have hle : C ≤ maxLen := by rw [← hC]; exact grownCap_le_maxLen _ _ _ _ (by unfold maxLen; omega)
    rw [hC] at hrun
    obtain ⟨cs, hcs⟩ : ∃ cs, Go.Builtin.zeroCells Value.nilFunc.cells n ++ Go.Builtin.zeroCells Value.nilFunc.cells (C - n) = cs := ⟨_, rfl⟩
    have hsz : cs.size = C * 1 := by rw [← hcs, Array.size_append, size_zeroCells, size_zeroCells]; show n * 1 + (C - n) * 1 = C * 1; omega
    rw [hcs] at hrun
    have h1 : ¬ (n : Int) < 0 := by omega
    have h2 : 0 < (n : Int) := by omega
    have hb : Below w.heap.size w (w.drew.alloc (.cells cs 159)) := (Below.refl w.heap.size w).drew.alloc (Nat.le_refl _) _
    have ho := World.ownsRow_made (base := w.heap.size) (e := 159) (size := 1) w.drew cs C (Nat.le_refl _) hle hsz
    have HO := Lib.hid ho
    have HB := Lib.hid hb
    clear hi hz0 hz1 hz2 hC hcs hsz ho hb
    go_enter Tryz.func236, Tryz.ntmps236
    go_wp2_with (at_builtin; refine Lib.wpList_append_run _ rfl _ _ _ _ rfl _ _ rfl rfl _ _ hrun ?_)
    go_ret
    exact ⟨_, rfl, HO.out, HB.out⟩
def Rds (w : World) (v : Value) (vs : List Value) : Prop := (v = .slice none 0 0 ∧ vs = []) ∨ ∃ g o c, v = .slice (some ⟨g, o, none⟩) vs.length c ∧ g < w.heap.size ∧ ∀ (j : Nat) u, vs[j]? = some u → w.cell? ⟨g, o + j, none⟩ = some u
theorem Rds.below {w w' : World} {v : Value} {vs : List Value} (h : Rds w v vs) (hb : Below w.heap.size w w') : Rds w' v vs := by
  rcases h with h | ⟨g, o, c, rfl, hg, h⟩
  · exact .inl h
  · exact .inr ⟨g, o, c, rfl, Nat.lt_of_lt_of_le hg hb.size, fun j u hu => hb.cell hg |>.trans (h j u hu)⟩
def Fv (vs : List Value) : Prop := ∀ u ∈ vs, u.oneCell' = true
theorem wpList_appC {w : World} {ops : Array Oper} {rest : List Oper} {o : Oper} {a : Act} {Q : Exit → Act → World → Prop} (hgd : o.guard = none) (s x : Operand)
    (ho : o.op = .call { callee := .builtin .append, args := #[s, x], argTypes := #[196, 196] }) {B : Nat} {v u : Value} {vs us : List Value} (hs : a.eval s = v) (hown : OwnCk w B v vs)
    (hx : a.eval x = u) (hr : Rds w u us) (h1 : Fv us) (hl : vs.length + us.length ≤ 2000000) (hB : B ≤ w.heap.size)
    (h : ∀ v' w', OwnCk w' B v' (vs ++ us) → w.grownBy w' v.ownBlock → wpList Tryz.prog ops Q rest (a.put o.dst v') w') : wpList Tryz.prog ops Q (o :: rest) a w := by
  obtain ⟨i0, hi, hz0, hz1, hz2⟩ := info_parts infoCk
  rcases hr with ⟨rfl, rfl⟩ | ⟨g, p, c, rfl, hg, hc⟩
  · refine wpList_append_own_none hgd s x 196 ho B 159 i0 1 Tryz.underlying196 hi v vs.length vs hs hown hx (h v w ?_ (gb_refl _ _))
    rw [List.append_nil]
    exact hown
  · refine wpList_append_own w hgd s x 196 ho B 159 i0 _ 1 8 Tryz.underlying196 hi hz0 hz1 hz2 rfl (by omega) v vs.length vs hs hown ⟨g, p, none⟩ us.length c us hx (by omega) (fun j u hu => ?_) h1 (by unfold maxLen; omega) (by omega) hB ?_
    · rw [addAt]
      exact hc j u hu
    · intro v' w' ho' hg' _
      refine h v' w' ?_ hg'
      unfold OwnCk
      rw [List.length_append]
      exact ho'
theorem own_ge {w : World} {B : Nat} {v : Value} {vs : List Value} (h : OwnCk w B v vs) : ∀ g, v.ownBlock = some g → B ≤ g := fun g hg => (World.ownsRow.lt h g hg).1
set_option maxHeartbeats 3200000 in
set_option maxRecDepth 100000 in
theorem concat_any (g0 : Nat) (u1 u2 : Value) (n1 n2 c1 c2 : Nat) (A1 A2 : Option Addr) (l1 l2 : List Value) (w : World) (h1 : u1 = .slice A1 n1 c1) (h2 : u2 = .slice A2 n2 c2) (hn1 : l1.length = n1) (hn2 : l2.length = n2)
    (hg : w.heap[g0]? = some (.cells #[u1, u2] 196 (0, 0))) (r1 : Rds w u1 l1) (r2 : Rds w u2 l2) (f1 : Fv l1) (f2 : Fv l2) (hl1 : n1 ≤ 400000) (hl2 : n2 ≤ 400000) :
    Calls Tryz.prog 212 #[.slice (some ⟨g0, 0, none⟩) 2 2] w (RowPost (l1 ++ l2) w) := by
  have k1 : w.cell? ⟨g0, 0, none⟩ = some u1 := cell_of_row w g0 0 _ _ _ hg
  have k2 : w.cell? ⟨g0, 1, none⟩ = some u2 := cell_of_row w g0 1 _ _ _ hg
  have hgl := heap_lt hg
  obtain ⟨N, hN⟩ : ∃ N, n1 + n2 = N := ⟨_, rfl⟩
  have cG := fun W => grow_any N W (by omega)
  have R1 := Lib.hid r1
  have R2 := Lib.hid r2
  have K1 := Lib.hid k1
  have K2 := Lib.hid k2
  have U1 := Lib.hid h1
  have U2 := Lib.hid h2
  have F1 := Lib.hid f1
  have F2 := Lib.hid f2
  have CG := Lib.hid cG
  clear r1 r2 hg h1 h2 f1 f2 cG k1 k2
  go_enter Tryz.func212, Tryz.ntmps212
  go_wp2_with fail
  go_loopw [3, 5, 11] (fun sz _ i wr => ∃ k : Nat, k ≤ 2 ∧ i = .int .i64 k ∧ sz = .int .i64 ((if k = 0 then 0 else if k = 1 then n1 else N : Nat) : Int) ∧ wr = w) (fun _ _ i _ => 2 - (intOf i).toNat)
  case atStart => exact ⟨0, by omega, rfl, rfl, rfl⟩
  case round =>
    obtain ⟨k, hk, rfl, rfl, rfl⟩ := hrel
    rcases (by omega : k = 0 ∨ k = 1 ∨ k = 2) with rfl | rfl | rfl
    · have e1 := K1.out
      rw [U1.out] at e1
      have e2 : ¬ (n1 : Int) < 0 := by omega
      go_wp2_with fail
      go_roundw
      case rel => exact ⟨1, by omega, by go_num, by simp, by trivial⟩
      case measure => simp [intOf]
    · have e1 := K2.out
      rw [U2.out] at e1
      have e2 : ¬ (n1 : Int) + (n2 : Int) < 0 := by omega
      go_wp2_with fail
      go_roundw
      case rel => exact ⟨2, by omega, by go_num, i64_eq (by simp; omega), by trivial⟩
      case measure => simp [intOf]
    · go_wp2_with fail
      refine (CG.out _).mono ?_
      rintro e w1 ⟨v1, rfl, o1, b1⟩
      have O1 := Lib.hid o1
      have B1 := Lib.hid b1
      clear o1 b1
      go_wp2_with fail
      obtain ⟨L, hL⟩ : ∃ L : Nat → List Value, L = fun k => if k = 0 then [] else if k = 1 then l1 else l1 ++ l2 := ⟨_, rfl⟩
      have L0 : L 0 = [] := by rw [hL]; rfl
      have L1 : L 1 = l1 := by rw [hL]; rfl
      have L2 : L 2 = l1 ++ l2 := by rw [hL]; rfl
      clear hL
      go_loopw [6, 8, 27] (fun nv _ i w2 => ∃ k : Nat, k ≤ 2 ∧ i = .int .i64 k ∧ OwnCk w2 wr.heap.size nv (L k) ∧ Below wr.heap.size wr w2) (fun _ _ i _ => 2 - (intOf i).toNat)
      case atStart => exact ⟨0, by omega, rfl, by rw [L0]; exact O1.out, B1.out⟩
      case round =>
        obtain ⟨k, hk2, rfl, ho, hb⟩ := hrel
        have HO := Lib.hid ho
        have HB := Lib.hid hb
        have hbs := hb.size
        clear ho hb hk
        rename_i w2
        rcases (by omega : k = 0 ∨ k = 1 ∨ k = 2) with rfl | rfl | rfl
        · have e1 := HB.out.cell (p := ⟨g0, 0, none⟩) hgl |>.trans K1.out
          go_wp2_with (at_builtin; refine wpList_appC rfl _ _ rfl rfl HO.out rfl (R1.out.below HB.out) F1.out (by rw [L0, hn1]; simp; omega) hbs ?_; intro v3 w3 o3 g3)
          go_roundw
          case rel => exact ⟨1, by omega, by go_num, by rw [L1]; rw [L0] at o3; exact o3, HB.out.grown g3 hbs (own_ge HO.out)⟩
          case measure => simp [intOf]
        · have e1 := HB.out.cell (p := ⟨g0, 1, none⟩) hgl |>.trans K2.out
          go_wp2_with (at_builtin; refine wpList_appC rfl _ _ rfl rfl HO.out rfl (R2.out.below HB.out) F2.out (by rw [L1, hn1, hn2]; omega) hbs ?_; intro v3 w3 o3 g3)
          go_roundw
          case rel => exact ⟨2, by omega, by go_num, by rw [L2]; rw [L1] at o3; exact o3, HB.out.grown g3 hbs (own_ge HO.out)⟩
          case measure => simp [intOf]
        · go_wp2_with fail
          go_ret
          exact ⟨_, rfl, by rw [← L2]; exact HO.out, HB.out⟩
end Go.Proofs.YthonaeigacfmbaaGreatDoor
