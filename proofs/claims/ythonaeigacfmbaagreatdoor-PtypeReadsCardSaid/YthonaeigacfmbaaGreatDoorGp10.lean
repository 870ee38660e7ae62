/-
  The document's Check, pieces, Long, Split, Head and Rest: what they tell.
-/
import Derived.Test.YthonaeigacfmbaaGreatDoorGp09
import Derived.IntWalk
import Derived.Laws.Cover4
namespace Go.Proofs.YthonaeigacfmbaaGreatDoor.B
open Go.RowKit

set_option maxHeartbeats 1600000 in
set_option maxRecDepth 100000 in
theorem refCk (s : ByteArray) (w : World) (hs : s.size ≤ 1000000000) : Calls Tryz.prog 55 #[.string s] w (NmPost (nck s) w) := by
  have cN := fun W => refName s W hs
  have cW := fun W => refWord s W
  obtain ⟨a, ha⟩ : ∃ a, nm s = a := ⟨_, rfl⟩
  obtain ⟨b, hb⟩ : ∃ b, wrd s = b := ⟨_, rfl⟩
  have HA := Lib.hid (nck_of ha hb)
  rw [ha] at cN
  rw [hb] at cW
  clear ha hb
  cases a
  · go_enter Tryz.func55, Tryz.ntmps55
    go_wp2_with fail
    refine (cN _).mono ?_
    rintro e w1 ⟨rfl, hb1⟩
    go_wp2
    go_ret
    exact nm_ret HA.out hb1
  · go_enter Tryz.func55, Tryz.ntmps55
    go_wp2_with fail
    refine (cN _).mono ?_
    rintro e w1 ⟨rfl, hb1⟩
    have HB1 := Lib.hid hb1
    clear hb1
    go_wp2_with fail
    refine (cW _).mono ?_
    rintro e w2 ⟨rfl, hb2⟩
    have hb3 := chn HB1.out hb2
    clear hb2
    go_wp2
    go_ret
    exact nm_ret (by rw [HA.out]; rfl) hb3

/-! ### pieces, place by place -/
def frm (s : ByteArray) (i : Nat) : List UInt8 := s.data.toList.drop i
def PcRel (s : ByteArray) (out : List ByteArray) (a i : Nat) : Prop :=
  a ≤ i ∧ i ≤ s.size ∧ pc s = out ++ (pcl (frm s a)).map tx ∧ (46 : UInt8) ∉ (frm s a).take (i - a)
theorem pc_start (s : ByteArray) : PcRel s [] 0 0 := ⟨Nat.le_refl _, Nat.zero_le _, by simp [frm, pc], by simp⟩
theorem frm_at (s : ByteArray) (a i : Nat) (h1 : a ≤ i) (h2 : i < s.size) : frm s a = (frm s a).take (i - a) ++ s[i] :: frm s (i + 1) := by
  unfold frm
  have e : s[i] = s.data.toList[i]'(by rw [← Lib.size_eq]; exact h2) := by simp; rfl
  have h3 : i < s.data.toList.length := by rw [← Lib.size_eq]; exact h2
  rw [e]
  conv => lhs; rw [← List.take_append_drop (i - a) (s.data.toList.drop a)]
  rw [List.drop_drop, show a + (i - a) = i by omega, List.drop_eq_getElem_cons h3]
theorem ext_at (s : ByteArray) (a i : Nat) (_ : i ≤ s.size) : s.extract a i = tx ((frm s a).take (i - a)) := by
  apply ba_ext
  rw [Lib.extract_data, tx_list]
  rfl
theorem pc_dot {s : ByteArray} {out : List ByteArray} {a i : Nat} (h : PcRel s out a i) (hi : i < s.size) (hd : s[i] = 46) : PcRel s (out ++ [s.extract a i]) (i + 1) (i + 1) := by
  obtain ⟨h1, h2, h3, h4⟩ := h
  refine ⟨Nat.le_refl _, hi, ?_, by simp⟩
  rw [h3, ext_at s a i h2, List.append_assoc]
  congr 1
  have e := frm_at s a i h1 hi
  rw [hd] at e
  conv => lhs; rw [e, pcl_at h4]
  rfl
theorem pc_step {s : ByteArray} {out : List ByteArray} {a i : Nat} (h : PcRel s out a i) (hi : i < s.size) (hd : s[i] ≠ 46) : PcRel s out a (i + 1) := by
  obtain ⟨h1, h2, h3, h4⟩ := h
  refine ⟨by omega, hi, h3, ?_⟩
  have e := frm_at s a i h1 hi
  rw [e]
  rw [List.take_append, List.mem_append]
  have hl : ((frm s a).take (i - a)).length = i - a := by
    unfold frm
    rw [List.length_take, List.length_drop, ← Lib.size_eq]
    omega
  rintro (hm | hm)
  · exact h4 (List.mem_of_mem_take hm)
  · rw [hl, show i + 1 - a - (i - a) = 1 by omega, List.take_succ_cons, List.take_zero, List.mem_singleton] at hm
    exact hd hm.symm
theorem pc_end {s : ByteArray} {out : List ByteArray} {a : Nat} (h : PcRel s out a s.size) : pc s = out ++ [s.extract a s.size] := by
  obtain ⟨h1, h2, h3, h4⟩ := h
  rw [h3, ext_at s a s.size (Nat.le_refl _)]
  congr 1
  have : (frm s a).take (s.size - a) = frm s a := by
    apply List.take_of_length_le
    unfold frm
    rw [List.length_drop, ← Lib.size_eq]
    exact Nat.le_refl _
  rw [this] at h4 ⊢
  rw [pcl_none h4]
  rfl
def PiRel (s : ByteArray) (W : World) (v a i : Value) (wr : World) : Prop :=
  ∃ (out : List ByteArray) (x k : Nat), a = .int .i64 x ∧ i = .int .i64 k ∧ out.length ≤ k ∧ PcRel s out x k ∧ wr.ownsRow W.heap.size 9 1 v out.length (sv out) ∧ Below W.heap.size W wr
set_option maxHeartbeats 3200000 in
set_option maxRecDepth 100000 in
theorem pieces_any (s : ByteArray) (w : World) (hs : s.size ≤ 1000000) : Calls Tryz.prog 99 #[.string s] w (SsPost (pc s) w) := by
  obtain ⟨i0, hi, hz0, hz1, hz2⟩ := info_parts infoStr
  go_enter Tryz.func99, Tryz.ntmps99
  go_wp2
  go_loopw [3, 4, 5] (fun v a i wr => PiRel s w v a i wr) (fun _ _ i _ => s.size - (intOf i).toNat)
  case atStart => exact ⟨[], 0, 0, rfl, rfl, Nat.le_refl _, pc_start s, World.ownsRow_nil _ _ _ _, Below.refl _ _⟩
  case round =>
    obtain ⟨out, x, k, rfl, rfl, hok, hpc, hown, hbel⟩ := hrel
    have hxk := hpc.1
    have hks := hpc.2.1
    have hbs := hbel.size
    have HPC := Lib.hid hpc
    have HOWN := Lib.hid hown
    have HBEL := Lib.hid hbel
    clear hpc hown hbel
    by_cases hlt : k < s.size
    · by_cases hd : s[k] = 46
      · have hde : ((s[k].toNat : Int) == 46) = true := by rw [hd]; rfl
        have HD := Lib.hid hd
        clear hd
        go_wp2_with (at_builtin; (refine wpList_append_own _ rfl _ _ 91 rfl w.heap.size 9 i0 (.string ⟨#[]⟩) 1 16 Tryz.underlying91 hi hz0 hz1 hz2 rfl (by decide) _ _ _ rfl (HOWN.out.alloc _) ⟨wr.heap.size, 0, none⟩ 1 1 [.string (s.extract x k)] rfl rfl (cell_one_new _ _ _) (fun x hx => by simp at hx; subst hx; rfl) (by unfold maxLen; omega) (by omega) (by simp; omega) ?_); intro v' w4 hown4 hgrow4 _)
        have hbel := (HBEL.out.alloc hbs _).grown hgrow4 (by simp; omega) (fun g hg => (HOWN.out.lt g hg).1)
        have HBEL4 := Lib.hid hbel
        have HOWN4 := Lib.hid hown4
        clear hown4 hgrow4 hbel
        go_roundw
        case rel => exact ⟨out ++ [s.extract x k], k + 1, k + 1, by go_num, by go_num, by simp; omega, pc_dot HPC.out hlt HD.out, by simpa [sv] using HOWN4.out, HBEL4.out⟩
        case measure => simp [intOf]; omega
      · have hde : ((s[k].toNat : Int) == 46) = false := by
          rw [beq_eq_false_iff_ne]
          intro e
          apply hd
          apply UInt8.toNat.inj
          show s[k].toNat = 46
          omega
        have HD := Lib.hid hd
        clear hd
        go_wp2
        go_roundw
        case rel => exact ⟨out, x, k + 1, rfl, by go_num, by omega, pc_step HPC.out hlt HD.out, HOWN.out, HBEL.out⟩
        case measure => simp [intOf]; omega
    · have hks2 : k = s.size := by omega
      subst hks2
      go_wp2_with (at_builtin; (refine wpList_append_own _ rfl _ _ 91 rfl w.heap.size 9 i0 (.string ⟨#[]⟩) 1 16 Tryz.underlying91 hi hz0 hz1 hz2 rfl (by decide) _ _ _ rfl (HOWN.out.alloc _) ⟨wr.heap.size, 0, none⟩ 1 1 [.string (s.extract x s.size)] rfl rfl (cell_one_new _ _ _) (fun x hx => by simp at hx; subst hx; rfl) (by unfold maxLen; omega) (by omega) (by simp; omega) ?_); intro v' w4 hown4 hgrow4 _)
      have hbel := (HBEL.out.alloc hbs _).grown hgrow4 (by simp; omega) (fun g hg => (HOWN.out.lt g hg).1)
      have HBEL4 := Lib.hid hbel
      have HOWN4 := Lib.hid hown4
      clear hown4 hgrow4 hbel
      go_ret
      exact ss_own (pc_end HPC.out) (by simpa [sv] using HOWN4.out) HBEL4.out
end Go.Proofs.YthonaeigacfmbaaGreatDoor.B
namespace Go.Proofs.YthonaeigacfmbaaGreatDoor.B
open Go.RowKit

set_option maxHeartbeats 3200000 in
set_option maxRecDepth 100000 in
theorem refLong (s : ByteArray) (w : World) (hs : s.size ≤ 1000000000) : Calls Tryz.prog 57 #[.string s] w (NmPost (long s) w) := by
  by_cases hbig : s.size ≤ 128
  · have hz : ¬ (128 : Int) < (s.size : Int) := by omega
    have cP := pieces_any s w (by omega)
    have hlen := pc_len s
    have hpz := pc_sz s
    have hlg : ∀ b, (pc s).all nck = b → long s = b := fun b h => by unfold long; rw [decide_eq_true hbig, h]; rfl
    obtain ⟨l, hl⟩ : ∃ l, pc s = l := ⟨_, rfl⟩
    rw [hl] at cP hlen hpz hlg
    have HLG := Lib.hid hlg
    have HPZ := Lib.hid hpz
    clear hl hlg hpz
    go_enter Tryz.func57, Tryz.ntmps57
    go_wp2_with fail
    refine cP.mono ?_
    rintro e w1 ⟨v, rfl, hv, hb1⟩
    obtain ⟨b, o, c, rfl, hlc, hblt, hcl⟩ := hv.form (by omega)
    have HCL := Lib.hid hcl
    have HB1 := Lib.hid hb1
    have hs1 := hb1.size
    clear hv hcl hb1
    go_wp2
    obtain ⟨n, hn⟩ : ∃ n, l.length = n := ⟨_, rfl⟩
    rw [hn] at hlen hlc ⊢
    have HN := Lib.hid hn
    clear hn
    go_loopw [4] (fun i wr => ∃ k : Nat, k ≤ n ∧ i = .int .i64 k ∧ Below w1.heap.size w1 wr ∧ (∀ (j : Nat) y, j < k → l[j]? = some y → nck y = true)) (fun i _ => n - (intOf i).toNat)
    case atStart => exact ⟨0, Nat.zero_le _, rfl, Below.refl _ _, fun j y hj => absurd hj (Nat.not_lt_zero _)⟩
    case round =>
      obtain ⟨k, hk, rfl, hbw, hall⟩ := hrel
      have HALL := Lib.hid hall
      clear hall
      by_cases hlt : k < n
      · obtain ⟨y, hy⟩ : ∃ y, l[k]? = some y := ⟨_, List.getElem?_eq_getElem (by rw [HN.out]; exact hlt)⟩
        have hcell := (hbw.cell (p := ⟨b, o + k, none⟩) hblt).trans (HCL.out k y hy)
        have hyz := HPZ.out y (List.mem_of_getElem? hy)
        have cK := fun W => refCk y W (by omega)
        have HY := Lib.hid hy
        have HBW := Lib.hid hbw
        have hbs := hbw.size
        obtain ⟨a, ha⟩ : ∃ a, nck y = a := ⟨_, rfl⟩
        rw [ha] at cK
        have HA := Lib.hid ha
        clear hy hyz ha hbw
        cases a
        · go_wp2_with fail
          refine (cK _).mono ?_
          rintro e w2 ⟨rfl, hb2⟩
          have hfin := HB1.out.trans ((HBW.out.trans (hb2.mono hbs)).mono hs1)
          clear hb2
          go_wp2
          go_ret
          exact nm_ret (HLG.out _ (all_not HY.out HA.out)) hfin
        · go_wp2_with fail
          refine (cK _).mono ?_
          rintro e w2 ⟨rfl, hb2⟩
          have hbw2 := HBW.out.trans (hb2.mono hbs)
          clear hb2
          go_wp2
          go_roundw
          case rel => exact ⟨k + 1, by omega, by go_num, hbw2, upto_next HALL.out HY.out HA.out⟩
          case measure => simp [intOf]; omega
      · have hkn : k = n := by omega
        subst hkn
        have hfin := HB1.out.trans (hbw.mono hs1)
        clear hbw
        go_wp2
        go_ret
        exact nm_ret (HLG.out _ (all_upto fun j y hj hy => HALL.out j y (by rw [← HN.out]; exact hj) hy)) hfin
  · have hz : (128 : Int) < (s.size : Int) := by omega
    go_enter Tryz.func57, Tryz.ntmps57
    go_wp2
    go_ret
    exact nm_ret (by unfold long; rw [decide_eq_false hbig]; rfl) (Below.refl _ _)
end Go.Proofs.YthonaeigacfmbaaGreatDoor.B
namespace Go.Proofs.YthonaeigacfmbaaGreatDoor.B
open Go.RowKit

set_option maxHeartbeats 1600000 in
set_option maxRecDepth 100000 in
theorem inner_any (n : Nat) (w : World) : Calls Tryz.prog 172 #[.int .i32 (n : Int)] w fun e w' => e = .returned (.bool (inr n)) ∧ w = w' := by
  obtain ⟨c, hc⟩ : ∃ c, inr n = c := ⟨_, rfl⟩
  have cC : ∀ W, Calls Tryz.prog 62 #[.int .i32 (n : Int)] W _ := fun W => refClass (n : Int) W
  obtain ⟨k, hk⟩ : ∃ k, cls (n : Int) = k := ⟨_, rfl⟩
  have hin : decide (k = 1 ∨ k = 2 ∨ (n : Int) = 39) = c := by
    rw [← hc, ← hk]
    unfold inr
    rw [decide_eq_decide]
    omega
  rw [hk] at cC
  rw [hc]
  have HC := Lib.hid hin
  clear hc hk hin
  obtain ⟨r, hr⟩ : ∃ r : Int, (n : Int) = r := ⟨_, rfl⟩
  rw [hr] at cC HC ⊢
  clear hr
  go_enter Tryz.func172, Tryz.ntmps172
  go_wp2_with (go_at_call 62; refine (cC _).mono ?_; rintro e w' ⟨rfl, rfl⟩)
  all_goals go_ret
  all_goals
    refine ⟨ret_b (HC.out.symm.trans ?_), rfl⟩
    first
      | (rw [decide_eq_true_iff]; omega)
      | (rw [Bool.eq_iff_iff]; simp only [decide_eq_true_iff, Bool.or_eq_true, beq_iff_eq]; omega)

def IntSame (n : Nat) (W : World) (e : Ending) (w' : World) : Prop := e = .returned (.int .i64 (n : Int)) ∧ W = w'
theorem int_same {n : Nat} {z : Int} {W : World} (h : z = (n : Int)) : IntSame n W (.returned (.int .i64 z)) W := ⟨by rw [h], rfl⟩
theorem cnt_at {f : Nat → Bool} {l : List Nat} {i r : Nat} (h : l[i]? = some r) : cnt f (l.drop i) = if f r then cnt f (l.drop (i + 1)) + 1 else 0 := by
  have hi : i < l.length := (List.getElem?_eq_some_iff.1 h).1
  have hr := (List.getElem?_eq_some_iff.1 h).2
  rw [List.drop_eq_getElem_cons hi, hr]
  rfl

set_option maxHeartbeats 1600000 in
set_option maxRecDepth 100000 in
theorem headR_any (v : Value) (l : List Nat) (B i : Nat) (w : World) (h : Sl w B v l) (hi : i ≤ l.length) (hl : l.length ≤ 1000000) :
    Calls Tryz.prog 171 #[v, .int .i64 (i : Int)] w (IntSame (cnt inr (l.drop i)) w) := by
  obtain ⟨A, c, rfl, hlc, hA⟩ := h
  have HA := Lib.hid hA
  obtain ⟨ANS, hans⟩ : ∃ n, cnt inr (l.drop i) = n := ⟨_, rfl⟩
  rw [hans]
  have HANS := Lib.hid hans
  obtain ⟨n, hn⟩ : ∃ n, l.length = n := ⟨_, rfl⟩
  rw [hn] at hl hi hlc ⊢
  have HN := Lib.hid hn
  clear hA hans hn
  go_enter Tryz.func171, Tryz.ntmps171
  go_wp2
  go_loop [5] (fun x => ∃ k : Nat, x = .int .i64 k ∧ i + k ≤ n ∧ k + cnt inr (l.drop (i + k)) = ANS) (fun x => n - (intOf x).toNat)
  case atStart => exact ⟨0, rfl, hi, by rw [Nat.zero_add]; exact HANS.out⟩
  case round =>
    obtain ⟨k, rfl, hk, hc⟩ := hrel
    have HC := Lib.hid hc
    clear hc
    by_cases hlt : i + k < n
    · obtain ⟨r, hr⟩ : ∃ r, l[i + k]? = some r := ⟨_, List.getElem?_eq_getElem (by rw [HN.out]; exact hlt)⟩
      obtain ⟨ad, rfl, _, hcell⟩ := HA.out _ _ hr
      have HAT := Lib.hid (cnt_at (f := inr) hr)
      have hz : (i : Int) + (k : Int) < (n : Int) := by omega
      have cI := fun W => inner_any r W
      obtain ⟨b, hb⟩ : ∃ b, inr r = b := ⟨_, rfl⟩
      rw [hb] at cI HAT
      clear hr hb
      cases b
      · go_wp2_with (go_at_call 172; refine (cI _).mono ?_; rintro e w' ⟨rfl, rfl⟩)
        go_ret
        exact int_same (by have h1 := HC.out; have h2 := HAT.out; simp at h2; omega)
      · go_wp2_with (go_at_call 172; refine (cI _).mono ?_; rintro e w' ⟨rfl, rfl⟩)
        go_round
        case rel => exact ⟨k + 1, by go_num, by omega, by have h1 := HC.out; have h2 := HAT.out; simp at h2; rw [← Nat.add_assoc]; omega⟩
        case measure => simp [intOf]; omega
    · have hz : ¬ (i : Int) + (k : Int) < (n : Int) := by omega
      go_wp2
      go_ret
      exact int_same (by
        have h1 := HC.out
        rw [List.drop_eq_nil_of_le (by rw [HN.out]; omega)] at h1
        have h2 : cnt inr [] = 0 := rfl
        omega)
def StrSame (s : ByteArray) (W : World) (e : Ending) (w' : World) : Prop := e = .returned (.string s) ∧ W = w'
theorem str_same {s t : ByteArray} {W : World} (h : t = s) : StrSame s W (.returned (.string t)) W := ⟨by rw [h], rfl⟩
theorem enc_one {r : Nat} (h : ok r) : ByteArray.empty ++ Utf8.encode (r : Int) = T [r] := by
  have h' : r < 55296 ∨ (57343 < r ∧ r ≤ 1114111) := h
  rw [enc_eq r h']
  apply ba_ext
  rw [ByteArray.data_append, Array.toList_append, T_list]
  show [] ++ Lib.encodeRune (r : Int) = en r ++ []
  rw [List.append_nil]
  rfl

theorem sz_le (l : List Nat) : sz l ≤ 4 * l.length := by
  induction l with
  | nil => exact Nat.le_refl _
  | cons r t ih =>
    have := (wd_pos r).2
    rw [sz_cons, List.length_cons]
    omega

set_option maxHeartbeats 1600000 in
set_option maxRecDepth 100000 in
theorem text_any (v : Value) (l : List Nat) (B i j : Nat) (w : World) (h : Sl w B v l) (ho : okl l) (hi : i ≤ j) (hj : j ≤ l.length) (hl : l.length ≤ 1000000) :
    Calls Tryz.prog 61 #[v, .int .i64 (i : Int), .int .i64 (j : Int)] w (StrSame (T ((l.drop i).take (j - i))) w) := by
  obtain ⟨A, c, rfl, hlc, hA⟩ := h
  have HA := Lib.hid hA
  obtain ⟨n, hn⟩ : ∃ n, l.length = n := ⟨_, rfl⟩
  rw [hn] at hl hj hlc ⊢
  have HN := Lib.hid hn
  obtain ⟨ANS, hans⟩ : ∃ s, T ((l.drop i).take (j - i)) = s := ⟨_, rfl⟩
  rw [hans]
  have HANS := Lib.hid hans
  clear hA hn hans
  go_enter Tryz.func61, Tryz.ntmps61
  go_wp2
  go_loop [7, 8] (fun s x => ∃ k : Nat, x = .int .i64 (i + k : Nat) ∧ i + k ≤ j ∧ s = .string (T ((l.drop i).take k))) (fun _ x => j - (intOf x).toNat)
  case atStart => exact ⟨0, by simp, by omega, rfl⟩
  case round =>
    obtain ⟨k, rfl, hk, rfl⟩ := hrel
    obtain ⟨p, hp⟩ : ∃ p, i + k = p := ⟨_, rfl⟩
    have HP := Lib.hid hp
    rw [hp] at hk ⊢
    have hpi : i ≤ p := by omega
    clear hp
    by_cases hlt : p < j
    · obtain ⟨r, hr⟩ : ∃ r, l[p]? = some r := ⟨_, List.getElem?_eq_getElem (by rw [HN.out]; omega)⟩
      obtain ⟨ad, rfl, _, hcell⟩ := HA.out _ _ hr
      have hor : ok r := ho r (List.mem_of_getElem? hr)
      have hcv : ∀ (cap : Nat) (W : World), w = W → (convert 79 9 (.slice (some (ad.add p)) 1 cap)).run Tryz.prog W = .ok (.string (T [r])) W := by
        intro cap W hW
        subst hW
        have := run_convert_runes (P := Tryz.prog) w 79 9 21 (ad.add p) 1 cap [(r : Int)] (Nat.le_refl _) Tryz.underlying79 Tryz.underlying21 Tryz.underlying9 (fun q hq => by
          have : q = 0 := by simp at hq; exact hq
          subst this
          rw [addAdd]
          exact hcell)
        rw [this]
        have e : runesBytes (List.take 1 [(r : Int)]) = ByteArray.empty ++ Utf8.encode (r : Int) := rfl
        rw [e, enc_one hor]
      have hcw := fun cap => hcv cap w rfl
      have HST : Hid (T ((l.drop i).take k) ++ T [r] = T ((l.drop i).take (k + 1))) := Lib.hid (by
        rw [← T_app, List.take_add_one, List.getElem?_drop, HP.out, hr]
        rfl)
      have b1 : (T ((l.drop i).take k)).size ≤ 4000000 := by
        rw [T_size]
        have h1 := sz_le ((l.drop i).take k)
        have h2 : ((l.drop i).take k).length ≤ l.length := by rw [List.length_take, List.length_drop]; omega
        have h3 := HN.out
        omega
      have b2 : (T [r]).size ≤ 4 := by rw [T_size, sz_cons, sz_nil]; exact (wd_pos r).2
      obtain ⟨S1, hS1⟩ : ∃ S, T ((l.drop i).take k) = S := ⟨_, rfl⟩
      obtain ⟨S2, hS2⟩ : ∃ S, T [r] = S := ⟨_, rfl⟩
      rw [hS1] at b1 HST ⊢
      rw [hS2] at b2 HST hcw
      clear hr hcv hcell hS1 hS2
      go_wp2
      go_round
      case rel => exact ⟨k + 1, by rw [← Nat.add_assoc, HP.out]; go_num, by rw [← Nat.add_assoc, HP.out]; omega, by rw [HST.out]⟩
      case measure => simp [intOf]; omega
    · go_wp2
      go_ret
      exact str_same (by rw [← HANS.out]; have := HP.out; rw [show k = j - i by omega])

theorem cell_succ {w : World} {ad : Addr} {p : Nat} {v : Value} (h : w.cell? (ad.add (p + 1)) = some v) : w.cell? ⟨ad.block, ad.off + (p + 1), none⟩ = some v := by
  unfold Addr.add at h
  rw [if_neg (by omega)] at h
  exact h
/-! ### comments, by pairs -/
theorem cm_one (d : Int) {l : List Nat} (h : l.length ≤ 1) : cm d 32 l = none := by
  match l, h with
  | [], _ => rfl
  | [r], _ => simp [cm]
theorem cm_open (d : Int) (hd : d + 1 ≠ 0) (t : List Nat) : cm d 32 (40 :: 42 :: t) = (cm (d + 1) 32 t).map (· + 2) := by
  rw [cm, if_neg (by decide), if_neg (by decide), cm, if_pos (by decide), if_neg hd, Option.map_map]
  rfl
theorem cm_close (d : Int) (t : List Nat) : cm d 32 (42 :: 41 :: t) = if d - 1 = 0 then some 2 else (cm (d - 1) 32 t).map (· + 2) := by
  rw [cm, if_neg (by decide), if_neg (by decide), cm, if_neg (by decide), if_pos (by decide)]
  split
  · rfl
  · rw [Option.map_map]; rfl
theorem cm_pass (d : Int) {r q : Nat} (t : List Nat) (h1 : ¬ (r = 40 ∧ q = 42)) (h2 : ¬ (r = 42 ∧ q = 41)) : cm d 32 (r :: q :: t) = (cm d 32 (q :: t)).map (· + 1) := by
  rw [cm, if_neg (by omega), if_neg (by omega), cm, if_neg h1, if_neg h2]
  conv => rhs; rw [cm]
  rw [if_neg (by omega), if_neg (by omega)]
theorem drop_two {l : List Nat} {p r q : Nat} (h : l[p]? = some r) (h' : l[p + 1]? = some q) : l.drop p = r :: q :: l.drop (p + 2) := by
  have h1 := (List.getElem?_eq_some_iff.1 h).1
  have h2 := (List.getElem?_eq_some_iff.1 h).2
  have h3 := (List.getElem?_eq_some_iff.1 h').1
  have h4 := (List.getElem?_eq_some_iff.1 h').2
  rw [List.drop_eq_getElem_cons h1, h2, List.drop_eq_getElem_cons h3, h4]
theorem drop_succ {l : List Nat} {p r : Nat} (h : l[p]? = some r) : l.drop p = r :: l.drop (p + 1) := by
  have h1 := (List.getElem?_eq_some_iff.1 h).1
  have h2 := (List.getElem?_eq_some_iff.1 h).2
  rw [List.drop_eq_getElem_cons h1, h2]
def cmAt (l : List Nat) (i : Nat) : Nat := match cm 0 32 (l.drop i) with | none => 0 | some k => i + k
def CmRel (l : List Nat) (i : Nat) (d : Int) (p : Nat) : Prop := cm 0 32 (l.drop i) = (cm d 32 (l.drop p)).map (· + (p - i))
theorem cmrel_next {l : List Nat} {i p : Nat} {d d' : Int} {m : Nat} (h : CmRel l i d p) (hp : i ≤ p) (e : cm d 32 (l.drop p) = (cm d' 32 (l.drop (p + m))).map (· + m)) : CmRel l i d' (p + m) := by
  unfold CmRel at h ⊢
  rw [h, e, Option.map_map]
  congr 1
  funext x
  show x + m + (p - i) = x + (p + m - i)
  omega

set_option maxHeartbeats 3200000 in
set_option maxRecDepth 100000 in
theorem comment_ref (v : Value) (l : List Nat) (B i : Nat) (w : World) (h : Sl w B v l) (hl : l.length ≤ 1000000) (hi : i ≤ l.length) (hop : opens (l.drop i) = true) :
    Calls Tryz.prog 63 #[v, .int .i64 (i : Int)] w (IntSame (cmAt l i) w) := by
  obtain ⟨A, c, rfl, hlc, hA⟩ := h
  have HA := Lib.hid hA
  obtain ⟨n, hn⟩ : ∃ n, l.length = n := ⟨_, rfl⟩
  rw [hn] at hl hlc hi ⊢
  have HN := Lib.hid hn
  obtain ⟨ANS, hans⟩ : ∃ s, cmAt l i = s := ⟨_, rfl⟩
  rw [hans]
  have HANS := Lib.hid hans
  clear hA hn hans
  go_enter Tryz.func63, Tryz.ntmps63
  go_wp2
  go_loop [1, 5] (fun x y => ∃ (p : Nat) (d : Int), x = .int .i64 p ∧ y = .int .i64 d ∧ i ≤ p ∧ p ≤ n ∧ d ≤ p ∧ CmRel l i d p ∧ (1 ≤ d ∨ (p = i ∧ d = 0))) (fun x _ => n - (intOf x).toNat)
  case atStart => exact ⟨i, 0, rfl, rfl, Nat.le_refl _, hi, by omega, by unfold CmRel; rw [Nat.sub_self]; cases cm 0 32 (l.drop i) <;> rfl, .inr ⟨rfl, rfl⟩⟩
  case round =>
    obtain ⟨p, d, rfl, rfl, hip, hpn, hd2, hr, hd0⟩ := hrel
    have HR := Lib.hid hr
    have HD0 := Lib.hid hd0
    clear hr hd0
    by_cases hlt : p + 1 < n
    · have hz : (p : Int) + 1 < (n : Int) := by omega
      obtain ⟨r, hr⟩ : ∃ r, l[p]? = some r := ⟨_, List.getElem?_eq_getElem (by rw [HN.out]; omega)⟩
      obtain ⟨q, hq⟩ : ∃ q, l[p + 1]? = some q := ⟨_, List.getElem?_eq_getElem (by rw [HN.out]; omega)⟩
      obtain ⟨ad, rfl, _, hc1⟩ := HA.out _ _ hr
      obtain ⟨ad', had, _, hc2'⟩ := HA.out _ _ hq
      injection had with had
      subst had
      have hc2 := cell_succ hc2'
      clear hc2'
      have HOP : Hid (p = i → r = 40 ∧ q = 42) := Lib.hid (fun hpi => by
        subst hpi
        rw [drop_two hr hq] at hop
        obtain ⟨t, ht⟩ := List.isPrefixOf_iff_prefix.1 hop
        injection ht with h1 h2
        injection h2 with h2 h3
        exact ⟨h1.symm, h2.symm⟩)
      have HD2 := Lib.hid (drop_two hr hq)
      have HD1 := Lib.hid (drop_succ hq)
      clear hr hq
      by_cases c1 : r = 40 ∧ q = 42
      · obtain ⟨rfl, rfl⟩ := c1
        have hdge : 0 ≤ d := by have := HD0.out; omega
        have HE := Lib.hid (cm_open d (by omega) (l.drop (p + 2)))
        go_wp2
        go_round
        case rel => exact ⟨p + 2, d + 1, by go_num, by go_num, by omega, by omega, by omega, cmrel_next HR.out hip (by rw [HD2.out]; exact HE.out), .inl (by omega)⟩
        case measure => simp [intOf]; omega
      · have hdge : 1 ≤ d := by
          rcases HD0.out with h | ⟨h, _⟩
          · exact h
          · exact absurd (HOP.out h) c1
        have b1 : (((r : Int) == 40) && ((q : Int) == 42)) = false := by
          rw [Bool.and_eq_false_iff, beq_eq_false_iff_ne, beq_eq_false_iff_ne]; omega
        by_cases c2 : r = 42 ∧ q = 41
        · obtain ⟨rfl, rfl⟩ := c2
          have HE := Lib.hid (cm_close d (l.drop (p + 2)))
          clear b1 c1
          by_cases hd1 : d = 1
          · subst hd1
            go_wp2
            go_ret
            exact int_same (by
              have h1 := HR.out
              unfold CmRel at h1
              rw [HD2.out, HE.out, if_pos (by omega)] at h1
              rw [← HANS.out]
              unfold cmAt
              rw [h1]
              show _ = ((i + (2 + (p - i)) : Nat) : Int)
              omega)
          · have hd1' : (d - 1 == 0) = false := by rw [beq_eq_false_iff_ne]; omega
            have HD1N := Lib.hid hd1
            clear hd1
            go_wp2
            go_round
            case rel => exact ⟨p + 2, d - 1, by go_num, by go_num, by omega, by omega, by omega, cmrel_next HR.out hip (by rw [HD2.out, HE.out, if_neg (by have := HD1N.out; omega)]), .inl (by have := HD1N.out; omega)⟩
            case measure => simp [intOf]; omega
        · have HE := Lib.hid (cm_pass d (l.drop (p + 2)) c1 c2)
          have b2 : (((r : Int) == 42) && ((q : Int) == 41)) = false := by
            rw [Bool.and_eq_false_iff, beq_eq_false_iff_ne, beq_eq_false_iff_ne]; omega
          have CA := Lib.hid c1
          have CB := Lib.hid c2
          clear c1 c2
          go_wp2
          all_goals first
            | (exfalso; have ca := CA.out; have cb := CB.out; simp only [beq_iff_eq, beq_eq_false_iff_ne, ne_eq] at *; omega)
            | (go_round
               case rel => exact ⟨p + 1, d, by go_num, rfl, by omega, by omega, by omega, cmrel_next HR.out hip (by rw [HD2.out, HD1.out, HE.out]), .inl hdge⟩
               case measure => simp [intOf]; omega)
            | trace_state
    · have hz : ¬ (p : Int) + 1 < (n : Int) := by omega
      go_wp2
      go_ret
      exact int_same (by
        have h1 := HR.out
        unfold CmRel at h1
        rw [cm_one d (by rw [List.length_drop, HN.out]; omega)] at h1
        rw [← HANS.out]
        unfold cmAt
        rw [h1]
        rfl)
end Go.Proofs.YthonaeigacfmbaaGreatDoor.B
namespace Go.Proofs.YthonaeigacfmbaaGreatDoor.B
open Go.RowKit

def StrDrew (s : ByteArray) (W : World) (e : Ending) (w' : World) : Prop := e = .returned (.string s) ∧ ∃ m, w' = W.drewN m
theorem str_drew {s t : ByteArray} {W : World} (m : Nat) (h : t = s) : StrDrew s W (.returned (.string t)) (W.drewN m) := ⟨by rw [h], m, rfl⟩
theorem str_drew0 {s t : ByteArray} {W : World} (h : t = s) : StrDrew s W (.returned (.string t)) W := ⟨by rw [h], 0, rfl⟩
def DG : ByteArray := ⟨#[48, 49, 50, 51, 52, 53, 54, 55, 56, 57]⟩
theorem dg_at (d : Nat) (h : d < 10) : DG.extract d (d + 1) = T [48 + d] := by
  have h' : d = 0 ∨ d = 1 ∨ d = 2 ∨ d = 3 ∨ d = 4 ∨ d = 5 ∨ d = 6 ∨ d = 7 ∨ d = 8 ∨ d = 9 := by omega
  rcases h' with rfl | rfl | rfl | rfl | rfl | rfl | rfl | rfl | rfl | rfl
  all_goals (apply ba_ext; rw [Lib.extract_data]; rfl)
theorem dgs_small {u : Nat} (h : u < 10) : dgs u = [48 + u] := by
  unfold dgs
  rw [Lib.decDigits_one h]
  show [(UInt8.ofNat (48 + u)).toNat] = _
  rw [u8n _ (by omega)]
theorem dgs_big {u : Nat} (h : ¬ u < 10) : dgs u = dgs (u / 10) ++ [48 + u % 10] := by
  unfold dgs
  rw [Lib.decDigits, dif_neg h, List.map_append]
  show _ ++ [(UInt8.ofNat (48 + u % 10)).toNat] = _
  rw [u8n _ (by omega)]

theorem numb_size (v : Int) (h0 : -9223372036854775808 ≤ v) (h1 : v ≤ 9223372036854775807) : (T (numb v)).size ≤ 21 := by
  have h2 := Lib.itoa_length_le v h0 h1
  rw [T_size, sz_ascii (numb_ascii v)]
  unfold numb dgs
  unfold Lib.itoa at h2
  split
  · rename_i hn
    rw [if_pos hn] at h2
    simpa using h2
  · rename_i hn
    rw [if_neg hn] at h2
    simpa using h2
theorem dg_size (d : Nat) (h : d < 10) : ((⟨#[48, 49, 50, 51, 52, 53, 54, 55, 56, 57]⟩ : ByteArray).extract d (1 + d)).size ≤ 10 := by
  show (DG.extract d (1 + d)).size ≤ 10
  rw [Nat.add_comm, dg_at d h, T_size, sz_cons, sz_nil]
  have := (wd_pos (48 + d)).2
  omega

set_option maxHeartbeats 3200000 in
set_option maxRecDepth 100000 in
theorem refNumber : ∀ (k : Nat) (n : Int), n.natAbs ≤ k → -9223372036854775808 ≤ n → n ≤ 9223372036854775807 → ∀ w : World,
    Calls Tryz.prog 155 #[.int .i64 n] w (StrDrew (T (numb n)) w)
  | k, n, hk, h0, h1, w => by
    by_cases hn : n < 0
    · by_cases hs : -10 < n
      · obtain ⟨u, hu⟩ : ∃ u : Nat, n = -(u : Int) := ⟨n.natAbs, by omega⟩
        have hu1 : 1 ≤ u ∧ u < 10 := by omega
        have HA : Hid ((⟨#[126]⟩ : ByteArray) ++ DG.extract u (1 + u) = T (numb n)) := Lib.hid (by
          rw [Nat.add_comm 1 u, dg_at u hu1.2]
          have : numb n = [126] ++ [48 + u] := by
            unfold numb
            rw [if_pos hn, show n.natAbs = u by omega, dgs_small hu1.2]
            rfl
          rw [this, T_app]
          rfl)
        obtain ⟨X, hX⟩ : ∃ X, T (numb n) = X := ⟨_, rfl⟩
        rw [hX] at HA ⊢
        subst hu
        clear hX
        go_enter Tryz.func155, Tryz.ntmps155
        go_wp2
        go_ret
        exact str_drew0 HA.out
      · obtain ⟨u, hu⟩ : ∃ u : Nat, n = -(u : Int) := ⟨n.natAbs, by omega⟩
        obtain ⟨k, rfl⟩ : ∃ k', k = k' + 1 := ⟨k - 1, by omega⟩
        obtain ⟨m, hm⟩ : ∃ m, u / 10 = m := ⟨_, rfl⟩
        obtain ⟨d, hd⟩ : ∃ d, u % 10 = d := ⟨_, rfl⟩
        have hd10 : d < 10 := by omega
        have hm1 : 1 ≤ m := by omega
        have hmu : m ≤ u := by omega
        have cI := fun W => refNumber k (-(m : Int)) (by omega) (by omega) (by omega) W
        have HA : Hid (T (numb (-(m : Int))) ++ DG.extract d (1 + d) = T (numb n)) := Lib.hid (by
          rw [Nat.add_comm 1 d, dg_at d hd10, ← T_app]
          congr 1
          have e1 : numb n = 126 :: dgs u := by unfold numb; rw [if_pos hn, show n.natAbs = u by omega]
          have e2 : numb (-(m : Int)) = 126 :: dgs m := by unfold numb; rw [if_pos (by omega), show (-(m : Int)).natAbs = m by omega]
          rw [e1, e2, dgs_big (u := u) (by omega), hm, hd]
          rfl)
        have q1 : (-(u : Int)).tdiv 10 = -(m : Int) := by rw [Int.neg_tdiv, ← hm]; rfl
        have q2 : (-(u : Int)).tmod 10 = -(d : Int) := by rw [Int.neg_tmod, ← hd]; rfl
        have q3 : IntKind.i64.wrap (-(m : Int)) = -(m : Int) := IntWalk.i64_in _ (by omega)
        have q4 : IntKind.i64.wrap (d : Int) = (d : Int) := IntWalk.i64_in _ (by omega)
        have q5 : IntKind.i64.wrap (1 + (d : Int)) = 1 + (d : Int) := IntWalk.i64_in _ (by omega)
        have q6 : (1 + (d : Int)).toNat = 1 + d := by omega
        have q7 : (0 : Int) ≤ 1 + (d : Int) := by omega
        have q8 : 1 + d ≤ 10 := by omega
        have q9 : (1 : Int) + (d : Int) ≤ 10 := by omega
        obtain ⟨X, hX⟩ : ∃ X, T (numb n) = X := ⟨_, rfl⟩
        obtain ⟨Y, hY⟩ : ∃ Y, T (numb (-(m : Int))) = Y := ⟨_, rfl⟩
        rw [hX] at HA ⊢
        have b1 : Y.size ≤ 21 := by rw [← hY]; exact numb_size _ (by omega) (by omega)
        have b2 := dg_size d hd10
        rw [hY] at HA cI
        subst hu
        clear hX hY hm hd
        have hlt10 : ¬ -10 < -(u : Int) := hs
        have hlt0 : -(u : Int) < 0 := hn
        go_enter Tryz.func155, Tryz.ntmps155
        go_wp2
        go_quiet ((go_at_call 155; exact Calls.quiet_of (cI _)))
        go_wp2
        go_ret
        exact str_drew _ HA.out
    · by_cases hs : n < 10
      · obtain ⟨u, hu⟩ : ∃ u : Nat, n = (u : Int) := ⟨n.natAbs, by omega⟩
        have hu1 : u < 10 := by omega
        have HA : Hid (DG.extract u (u + 1) = T (numb n)) := Lib.hid (by
          rw [dg_at u hu1]
          unfold numb
          rw [if_neg hn, show n.toNat = u by omega, dgs_small hu1])
        obtain ⟨X, hX⟩ : ∃ X, T (numb n) = X := ⟨_, rfl⟩
        rw [hX] at HA ⊢
        subst hu
        clear hX
        go_enter Tryz.func155, Tryz.ntmps155
        go_wp2
        go_ret
        exact str_drew0 HA.out
      · obtain ⟨u, hu⟩ : ∃ u : Nat, n = (u : Int) := ⟨n.natAbs, by omega⟩
        obtain ⟨k, rfl⟩ : ∃ k', k = k' + 1 := ⟨k - 1, by omega⟩
        obtain ⟨m, hm⟩ : ∃ m, u / 10 = m := ⟨_, rfl⟩
        obtain ⟨d, hd⟩ : ∃ d, u % 10 = d := ⟨_, rfl⟩
        have hd10 : d < 10 := by omega
        have hmu : m ≤ u := by omega
        have cI := fun W => refNumber k (m : Int) (by omega) (by omega) (by omega) W
        have HA : Hid (T (numb (m : Int)) ++ DG.extract d (d + 1) = T (numb n)) := Lib.hid (by
          rw [dg_at d hd10, ← T_app]
          congr 1
          have e1 : numb n = dgs u := by unfold numb; rw [if_neg hn, show n.toNat = u by omega]
          have e2 : numb (m : Int) = dgs m := by unfold numb; rw [if_neg (by omega), show (m : Int).toNat = m by omega]
          rw [e1, e2, dgs_big (u := u) (by omega), hm, hd])
        have q1 : (u : Int).tdiv 10 = (m : Int) := by rw [← hm]; rfl
        have q2 : (u : Int).tmod 10 = (d : Int) := by rw [← hd]; rfl
        have q1' : (u : Int) / 10 = (m : Int) := by omega
        have q2' : (u : Int) % 10 = (d : Int) := by omega
        have q3 : IntKind.i64.wrap (m : Int) = (m : Int) := IntWalk.i64_in _ (by omega)
        have q4 : IntKind.i64.wrap (d : Int) = (d : Int) := IntWalk.i64_in _ (by omega)
        have q5 : IntKind.i64.wrap ((d : Int) + 1) = (d : Int) + 1 := IntWalk.i64_in _ (by omega)
        have q6 : ((d : Int) + 1).toNat = d + 1 := by omega
        have q7 : (0 : Int) ≤ (d : Int) + 1 := by omega
        have q8 : d + 1 ≤ 10 := by omega
        have q9 : (d : Int) + 1 ≤ 10 := by omega
        obtain ⟨X, hX⟩ : ∃ X, T (numb n) = X := ⟨_, rfl⟩
        obtain ⟨Y, hY⟩ : ∃ Y, T (numb (m : Int)) = Y := ⟨_, rfl⟩
        rw [hX] at HA ⊢
        have b1 : Y.size ≤ 21 := by rw [← hY]; exact numb_size _ (by omega) (by omega)
        have b2 := dg_size d hd10
        rw [Nat.add_comm 1 d] at b2
        rw [hY] at HA cI
        subst hu
        clear hX hY hm hd
        have hlt10 : ¬ (u : Int) < 10 := hs
        have hlt0 : ¬ (u : Int) < 0 := hn
        go_enter Tryz.func155, Tryz.ntmps155
        go_wp2
        go_quiet ((go_at_call 155; exact Calls.quiet_of (cI _)))
        go_wp2
        go_ret
        exact str_drew _ HA.out
end Go.Proofs.YthonaeigacfmbaaGreatDoor.B
