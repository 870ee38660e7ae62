/-
  The document's Name: what it tells.
-/
import Derived.Test.YthonaeigacfmbaaGreatDoorGq14
import Derived.IntWalk
import Derived.Laws.Cover4
namespace Go.Proofs.YthonaeigacfmbaaGreatDoor.B
open Go.RowKit

def nmr (s : ByteArray) : Bool := vls s 0 && decide (1 ≤ s.size ∧ s.size ≤ 32) && nmL (rns s 0)
theorem nmr_eq (s : ByteArray) : nmr s = nm s := by
  unfold nmr nm
  rw [nm_list]
  cases hv : vls s 0
  · have := nm_bad s 0 hv
    rw [nm_list] at this
    simp [this]
  · simp
theorem all_get {l : List Nat} {f : Nat → Bool} : (∀ (j x : Nat), l[j]? = some x → f x = true) → l.all f = true := by
  intro h
  rw [List.all_eq_true]
  intro x hx
  obtain ⟨j, hj⟩ := List.getElem?_of_mem hx
  exact h j x hj
def okUp (l : List Nat) (k : Nat) : Prop := ∀ (j x : Nat), j < k → l[j]? = some x → mst x (decide (j = 0)) = true
theorem okUp_next {l : List Nat} {k x : Nat} (h : okUp l k) (hx : l[k]? = some x) (hm : mst x (decide (k = 0)) = true) : okUp l (k + 1) := by
  intro j y hj hy
  by_cases e : j = k
  · subst e
    rw [hx] at hy
    cases hy
    exact hm
  · exact h j y (by omega) hy
theorem nmL_of {l : List Nat} (h : okUp l l.length) : nmL l = true := by
  cases l with
  | nil => rfl
  | cons r t =>
    unfold nmL
    rw [Bool.and_eq_true]
    refine ⟨h 0 r (by simp) rfl, all_get fun j x hx => ?_⟩
    have hj : j < t.length := by
      rcases Nat.lt_or_ge j t.length with h' | h'
      · exact h'
      · rw [List.getElem?_eq_none h'] at hx; cases hx
    exact h (j + 1) x (by simp; omega) (by simpa using hx)
theorem nmL_not {l : List Nat} {k x : Nat} (hx : l[k]? = some x) (hm : mst x (decide (k = 0)) = false) : nmL l = false := by
  cases l with
  | nil => simp at hx
  | cons r t =>
    cases k with
    | zero =>
      simp at hx
      subst hx
      show (mst r true && _) = false
      rw [show mst (r : Int) true = false from hm, Bool.false_and]
    | succ k =>
      have hx' : t[k]? = some x := by simpa using hx
      have hm' : mst (x : Int) false = false := hm
      show (_ && t.all _) = false
      rw [Bool.and_eq_false_iff]
      right
      rw [List.all_eq_false]
      exact ⟨x, List.mem_of_getElem? hx', by rw [hm']; simp⟩
set_option maxHeartbeats 3200000 in
set_option maxRecDepth 100000 in
theorem refName (s : ByteArray) (w : World) (hs : s.size ≤ 1000000000) :
    Calls Tryz.prog 96 #[.string s] w (NmPost (nm s) w) := by
  rw [← nmr_eq]
  obtain ⟨ANS, hans⟩ : ∃ b, nmr s = b := ⟨_, rfl⟩
  rw [hans]
  have cD := refDecode s w hs
  unfold DecPost at cD
  by_cases hgo : vls s 0 = true ∧ 1 ≤ s.size ∧ s.size ≤ 32
  · obtain ⟨hv, h1, h2⟩ := hgo
    rw [er_true hv, rl_true hv] at cD
    have hA : nmL (rns s 0) = ANS := by rw [← hans]; unfold nmr; rw [hv, decide_eq_true ⟨h1, h2⟩]; simp
    have HA := Lib.hid hA
    clear hA hans hv
    have hlen := rns_len_le s 0
    generalize rns s 0 = l at HA cD hlen
    have hz1 : ¬ (s.size : Int) < 1 := by omega
    have hz2 : ¬ (32 : Int) < (s.size : Int) := by omega
    go_enter Tryz.func96, Tryz.ntmps96
    go_wp2_with (go_at_call 60; refine cD.mono ?_; rintro e w' ⟨v, rfl, hsl, hb⟩)
    obtain ⟨A, c, rfl, hc⟩ := hsl
    have HSL := Lib.hid hc
    clear hc cD
    go_loopw [5] (fun i wr => ∃ k : Nat, i = .int .i64 k ∧ k ≤ l.length ∧ okUp l k ∧ ∃ q, wr = w'.drewN q) (fun i _ => l.length - (intOf i).toNat)
    case atStart => exact ⟨0, rfl, Nat.zero_le _, fun j x h => by omega, 0, rfl⟩
    case round =>
      obtain ⟨k, rfl, hk, hok, q, rfl⟩ := hrel
      have HOK := Lib.hid hok
      clear hok
      by_cases hlt : k < l.length
      · obtain ⟨x, hx⟩ : ∃ x, l[k]? = some x := ⟨_, List.getElem?_eq_getElem hlt⟩
        obtain ⟨a1, rfl, _, hc1⟩ := HSL.out.2 k x hx
        have HX := Lib.hid hx
        clear hx
        obtain ⟨cx, hcx⟩ : ∃ cx, cls x = cx := ⟨_, rfl⟩
        have cC : ∀ W, Calls Tryz.prog 62 #[.int .i32 x] W _ := fun W => refClass x W
        rw [hcx] at cC
        have HCX := Lib.hid hcx
        clear hcx
        have hlz : (k : Int) < (l.length : Int) := by omega
        by_cases k0 : k = 0
        · have hk0 : ((k : Int) == 0) = true := by simp [k0]
          have HK : Hid (decide (k = 0) = true) := Lib.hid (by simp [k0])
          clear k0
          go_wp2_with (go_at_call 62; refine (cC _).mono ?_; rintro e w1 ⟨rfl, rfl⟩)
          all_goals first
            | (go_ret
               have e1 : cx ≠ 1 := by first | omega | (simp only [bne_iff_ne, ne_eq] at *; omega)
               exact ⟨ret_b (by rw [← HA.out]; exact nmL_not HX.out (mst_false HCX.out ⟨e1, .inl HK.out⟩)), below_drewN' hb _⟩)
            | (go_roundw
               case rel =>
                 have e1 : cx = 1 := by first | omega | (simp only [bne_iff_ne, bne_eq_false_iff_eq, ne_eq] at *; omega)
                 exact ⟨k + 1, by go_num, hlt, okUp_next HOK.out HX.out (mst_true HCX.out (.inl e1)), _, rfl⟩
               case measure => simp [intOf]; omega)
        · have hk0 : ((k : Int) == 0) = false := by simp; omega
          have HK : Hid (decide (k = 0) = false) := Lib.hid (by simp [k0])
          clear k0
          go_wp2_with (go_at_call 62; refine (cC _).mono ?_; rintro e w1 ⟨rfl, rfl⟩)
          all_goals first
            | (go_ret
               have e1 : cx ≠ 1 ∧ (cx ≠ 2 ∧ (x : Int) ≠ 39) := by first | omega | (simp only [bne_iff_ne, ne_eq] at *; omega)
               exact ⟨ret_b (by rw [← HA.out]; exact nmL_not HX.out (mst_false HCX.out ⟨e1.1, .inr e1.2⟩)), below_drewN' hb _⟩)
            | (go_roundw
               case rel =>
                 have e1 : cx = 1 ∨ (cx = 2 ∨ (x : Int) = 39) := by first | omega | (simp only [bne_eq_false_iff_eq] at *; omega)
                 exact ⟨k + 1, by go_num, hlt, okUp_next HOK.out HX.out (mst_true HCX.out (e1.imp id fun h => ⟨h, HK.out⟩)), _, rfl⟩
               case measure => simp [intOf]; omega)
      · have hlz : ¬ (k : Int) < (l.length : Int) := by omega
        have HN := Lib.hid (nmL_of (l := l))
        obtain rfl : k = l.length := by omega
        go_wp2
        go_ret
        exact ⟨ret_b (by rw [← HA.out]; exact HN.out HOK.out), below_drewN' hb _⟩
  · have HA : Hid (ANS = false) := Lib.hid (by
      rw [← hans]
      unfold nmr
      by_cases hv : vls s 0 = true
      · rw [decide_eq_false (fun h => hgo ⟨hv, h⟩)]; simp
      · simp [hv])
    clear hans
    cases hv : vls s 0
    · rw [er_false hv] at cD
      clear hgo hv
      go_enter Tryz.func96, Tryz.ntmps96
      go_wp2_with (go_at_call 60; refine cD.mono ?_; rintro e w' ⟨v, rfl, hsl, hb⟩)
      go_ret
      exact ⟨ret_b HA.out, hb⟩
    · rw [er_true hv] at cD
      have hsz : s.size < 1 ∨ (1 ≤ s.size ∧ 32 < s.size) := by
        rcases Nat.lt_or_ge s.size 1 with h | h
        · exact .inl h
        · rcases Nat.lt_or_ge 32 s.size with h' | h'
          · exact .inr ⟨h, h'⟩
          · exact absurd ⟨hv, h, h'⟩ hgo
      clear hgo hv
      rcases hsz with h1 | ⟨h1, h2⟩
      · have hz1 : (s.size : Int) < 1 := by omega
        go_enter Tryz.func96, Tryz.ntmps96
        go_wp2_with (go_at_call 60; refine cD.mono ?_; rintro e w' ⟨v, rfl, hsl, hb⟩)
        go_ret
        exact ⟨ret_b HA.out, hb⟩
      · have hz1 : ¬ (s.size : Int) < 1 := by omega
        have hz2 : (32 : Int) < (s.size : Int) := by omega
        go_enter Tryz.func96, Tryz.ntmps96
        go_wp2_with (go_at_call 60; refine cD.mono ?_; rintro e w' ⟨v, rfl, hsl, hb⟩)
        go_ret
        exact ⟨ret_b HA.out, hb⟩
end Go.Proofs.YthonaeigacfmbaaGreatDoor.B
namespace Go.Proofs.YthonaeigacfmbaaGreatDoor.B
open Go.RowKit

def wdV : Array Value := (WORDS.map fun x => Value.string (T x)).toArray
def wdk (k : Nat) : List Nat := WORDS.getD k []
theorem wdV_at (k : Nat) (h : k < 29) : wdV[k]? = some (.string (T (wdk k))) := by
  unfold wdV wdk
  rw [List.getElem?_toArray, List.getElem?_map, List.getD_eq_getElem?_getD, List.getElem?_eq_getElem (show k < WORDS.length from h)]
  rfl
theorem words_any (w : World) : Calls Tryz.prog 168 #[] w fun e w' => e = .returned (.slice (some ⟨w.heap.size, 0, none⟩) 29 29) ∧ w' = w.alloc (.cells wdV 9) := by
  have hv : wdV = #[.string ⟨#[118, 97, 108]⟩] ++ wdV.extract 1 29 := by kernel_rfl
  clear hv
  go_enter Tryz.func168, Tryz.ntmps168
  go_wp2
  go_ret
  refine ⟨rfl, ?_⟩
  exact congrArg (fun c => w.alloc (.cells c 9)) (by kernel_rfl)
theorem wrd_hit {s : ByteArray} {k : Nat} (h : k < 29) (e : T (wdk k) = s) : wrd s = true := by
  unfold wrd
  rw [List.any_eq_true]
  refine ⟨wdk k, ?_, by rw [e]; simp⟩
  unfold wdk
  rw [List.getD_eq_getElem?_getD, List.getElem?_eq_getElem (show k < WORDS.length from h)]
  exact List.getElem_mem _
theorem wrd_miss {s : ByteArray} (h : ∀ k, k < 29 → T (wdk k) ≠ s) : wrd s = false := by
  unfold wrd
  rw [List.any_eq_false]
  intro x hx
  obtain ⟨k, hk, rfl⟩ := List.getElem_of_mem hx
  have := h k hk
  unfold wdk at this
  rw [List.getD_eq_getElem?_getD, List.getElem?_eq_getElem hk] at this
  simp only [Option.getD_some] at this
  rw [decide_eq_true_iff]
  exact fun e => this e.symm

set_option maxHeartbeats 3200000 in
set_option maxRecDepth 100000 in
theorem refWord (s : ByteArray) (w : World) : Calls Tryz.prog 97 #[.string s] w (NmPost (wrd s) w) := by
  have c1 := words_any w
  obtain ⟨V, hV⟩ : ∃ V, wdV = V := ⟨_, rfl⟩
  rw [hV] at c1
  have HV := Lib.hid hV
  clear hV
  go_enter Tryz.func97, Tryz.ntmps97
  go_wp2_with fail
  refine c1.mono ?_
  rintro e w1 ⟨rfl, rfl⟩
  go_wp2
  have hb0 : Below w.heap.size w (w.alloc (.cells V 9)) := (Below.refl _ _).alloc (Nat.le_refl _) _
  have hblk : (w.alloc (.cells V 9)).heap[w.heap.size]? = some (.cells V 9 (0, 0)) := heap_alloc_new w _
  generalize w.alloc (.cells V 9) = W0 at hb0 hblk ⊢
  go_loop [4] (fun i => ∃ k : Nat, k ≤ 29 ∧ i = .int .i64 k ∧ ∀ j, j < k → T (wdk j) ≠ s) (fun i => 29 - (intOf i).toNat)
  case atStart => exact ⟨0, Nat.zero_le _, rfl, fun j hj => absurd hj (Nat.not_lt_zero _)⟩
  case round =>
    obtain ⟨k, hk, rfl, hno⟩ := hrel
    have HNO := Lib.hid hno
    clear hno
    by_cases hlt : k < 29
    · have hcell : W0.cell? ⟨w.heap.size, k, none⟩ = some (.string (T (wdk k))) := by
        rw [cell_of_row W0 _ k _ _ _ hblk, ← HV.out]
        exact wdV_at k hlt
      obtain ⟨X, hX⟩ : ∃ X, T (wdk k) = X := ⟨_, rfl⟩
      rw [hX] at hcell
      have HX := Lib.hid hX
      clear hX
      by_cases he : X = s
      · have e1 : (X.toList == s.toList) = true := by rw [he]; simp
        have HE := Lib.hid he
        clear he
        go_wp2
        go_ret
        exact ⟨ret_b (wrd_hit hlt (HX.out.trans HE.out)), hb0⟩
      · have e1 : (X.toList == s.toList) = false := by
          rw [beq_eq_false_iff_ne]
          intro h
          rw [Lib.toList_data, Lib.toList_data] at h
          exact he (ba_ext h)
        have HE := Lib.hid he
        clear he
        go_wp2
        go_round
        case rel => exact ⟨k + 1, by omega, by go_num, fun j hj => by
          rcases Nat.lt_or_ge j k with h | h
          · exact HNO.out j h
          · rw [show j = k by omega, HX.out]; exact HE.out⟩
        case measure => simp [intOf]; omega
    · go_wp2
      go_ret
      exact ⟨ret_b (wrd_miss fun j hj => HNO.out j (by omega)), hb0⟩
end Go.Proofs.YthonaeigacfmbaaGreatDoor.B
namespace Go.Proofs.YthonaeigacfmbaaGreatDoor.B
open Go.RowKit

set_option maxHeartbeats 1600000 in
set_option maxRecDepth 100000 in
theorem refCk (s : ByteArray) (w : World) (hs : s.size ≤ 1000000000) : Calls Tryz.prog 55 #[.string s] w (NmPost (nck s) w) := by
  have cN := fun W => refName s W hs
  have cW := fun W => refWord s W
  obtain ⟨a, ha⟩ : ∃ a, nm s = a := ⟨_, rfl⟩
  obtain ⟨b, hb⟩ : ∃ b, wrd s = b := ⟨_, rfl⟩
  have HA := Lib.hid (nck_of ha hb)
  rw [ha] at cN
  rw [hb] at cW
  clear ha hb
  cases a
  · go_enter Tryz.func55, Tryz.ntmps55
    go_wp2_with fail
    refine (cN _).mono ?_
    rintro e w1 ⟨rfl, hb1⟩
    go_wp2
    go_ret
    exact nm_ret HA.out hb1
  · go_enter Tryz.func55, Tryz.ntmps55
    go_wp2_with fail
    refine (cN _).mono ?_
    rintro e w1 ⟨rfl, hb1⟩
    have HB1 := Lib.hid hb1
    clear hb1
    go_wp2_with fail
    refine (cW _).mono ?_
    rintro e w2 ⟨rfl, hb2⟩
    have hb3 := chn HB1.out hb2
    clear hb2
    go_wp2
    go_ret
    exact nm_ret (by rw [HA.out]; rfl) hb3

/-! ### pieces, place by place -/
def frm (s : ByteArray) (i : Nat) : List UInt8 := s.data.toList.drop i
def PcRel (s : ByteArray) (out : List ByteArray) (a i : Nat) : Prop :=
  a ≤ i ∧ i ≤ s.size ∧ pc s = out ++ (pcl (frm s a)).map tx ∧ (46 : UInt8) ∉ (frm s a).take (i - a)
theorem pc_start (s : ByteArray) : PcRel s [] 0 0 := ⟨Nat.le_refl _, Nat.zero_le _, by simp [frm, pc], by simp⟩
theorem frm_at (s : ByteArray) (a i : Nat) (h1 : a ≤ i) (h2 : i < s.size) : frm s a = (frm s a).take (i - a) ++ s[i] :: frm s (i + 1) := by
  unfold frm
  have e : s[i] = s.data.toList[i]'(by rw [← Lib.size_eq]; exact h2) := by simp; rfl
  have h3 : i < s.data.toList.length := by rw [← Lib.size_eq]; exact h2
  rw [e]
  conv => lhs; rw [← List.take_append_drop (i - a) (s.data.toList.drop a)]
  rw [List.drop_drop, show a + (i - a) = i by omega, List.drop_eq_getElem_cons h3]
theorem ext_at (s : ByteArray) (a i : Nat) (_ : i ≤ s.size) : s.extract a i = tx ((frm s a).take (i - a)) := by
  apply ba_ext
  rw [Lib.extract_data, tx_list]
  rfl
theorem pc_dot {s : ByteArray} {out : List ByteArray} {a i : Nat} (h : PcRel s out a i) (hi : i < s.size) (hd : s[i] = 46) : PcRel s (out ++ [s.extract a i]) (i + 1) (i + 1) := by
  obtain ⟨h1, h2, h3, h4⟩ := h
  refine ⟨Nat.le_refl _, hi, ?_, by simp⟩
  rw [h3, ext_at s a i h2, List.append_assoc]
  congr 1
  have e := frm_at s a i h1 hi
  rw [hd] at e
  conv => lhs; rw [e, pcl_at h4]
  rfl
theorem pc_step {s : ByteArray} {out : List ByteArray} {a i : Nat} (h : PcRel s out a i) (hi : i < s.size) (hd : s[i] ≠ 46) : PcRel s out a (i + 1) := by
  obtain ⟨h1, h2, h3, h4⟩ := h
  refine ⟨by omega, hi, h3, ?_⟩
  have e := frm_at s a i h1 hi
  rw [e]
  rw [List.take_append, List.mem_append]
  have hl : ((frm s a).take (i - a)).length = i - a := by
    unfold frm
    rw [List.length_take, List.length_drop, ← Lib.size_eq]
    omega
  rintro (hm | hm)
  · exact h4 (List.mem_of_mem_take hm)
  · rw [hl, show i + 1 - a - (i - a) = 1 by omega, List.take_succ_cons, List.take_zero, List.mem_singleton] at hm
    exact hd hm.symm
theorem pc_end {s : ByteArray} {out : List ByteArray} {a : Nat} (h : PcRel s out a s.size) : pc s = out ++ [s.extract a s.size] := by
  obtain ⟨h1, h2, h3, h4⟩ := h
  rw [h3, ext_at s a s.size (Nat.le_refl _)]
  congr 1
  have : (frm s a).take (s.size - a) = frm s a := by
    apply List.take_of_length_le
    unfold frm
    rw [List.length_drop, ← Lib.size_eq]
    exact Nat.le_refl _
  rw [this] at h4 ⊢
  rw [pcl_none h4]
  rfl
def PiRel (s : ByteArray) (W : World) (v a i : Value) (wr : World) : Prop :=
  ∃ (out : List ByteArray) (x k : Nat), a = .int .i64 x ∧ i = .int .i64 k ∧ out.length ≤ k ∧ PcRel s out x k ∧ wr.ownsRow W.heap.size 9 1 v out.length (sv out) ∧ Below W.heap.size W wr
set_option maxHeartbeats 3200000 in
set_option maxRecDepth 100000 in
theorem pieces_any (s : ByteArray) (w : World) (hs : s.size ≤ 1000000) : Calls Tryz.prog 99 #[.string s] w (SsPost (pc s) w) := by
  obtain ⟨i0, hi, hz0, hz1, hz2⟩ := info_parts infoStr
  go_enter Tryz.func99, Tryz.ntmps99
  go_wp2
  go_loopw [3, 4, 5] (fun v a i wr => PiRel s w v a i wr) (fun _ _ i _ => s.size - (intOf i).toNat)
  case atStart => exact ⟨[], 0, 0, rfl, rfl, Nat.le_refl _, pc_start s, World.ownsRow_nil _ _ _ _, Below.refl _ _⟩
  case round =>
    obtain ⟨out, x, k, rfl, rfl, hok, hpc, hown, hbel⟩ := hrel
    have hxk := hpc.1
    have hks := hpc.2.1
    have hbs := hbel.size
    have HPC := Lib.hid hpc
    have HOWN := Lib.hid hown
    have HBEL := Lib.hid hbel
    clear hpc hown hbel
    by_cases hlt : k < s.size
    · by_cases hd : s[k] = 46
      · have hde : ((s[k].toNat : Int) == 46) = true := by rw [hd]; rfl
        have HD := Lib.hid hd
        clear hd
        go_wp2_with (at_builtin; (refine wpList_append_own _ rfl _ _ 91 rfl w.heap.size 9 i0 (.string ⟨#[]⟩) 1 16 Tryz.underlying91 hi hz0 hz1 hz2 rfl (by decide) _ _ _ rfl (HOWN.out.alloc _) ⟨wr.heap.size, 0, none⟩ 1 1 [.string (s.extract x k)] rfl rfl (cell_one_new _ _ _) (fun x hx => by simp at hx; subst hx; rfl) (by unfold maxLen; omega) (by omega) (by simp; omega) ?_); intro v' w4 hown4 hgrow4 _)
        have hbel := (HBEL.out.alloc hbs _).grown hgrow4 (by simp; omega) (fun g hg => (HOWN.out.lt g hg).1)
        have HBEL4 := Lib.hid hbel
        have HOWN4 := Lib.hid hown4
        clear hown4 hgrow4 hbel
        go_roundw
        case rel => exact ⟨out ++ [s.extract x k], k + 1, k + 1, by go_num, by go_num, by simp; omega, pc_dot HPC.out hlt HD.out, by simpa [sv] using HOWN4.out, HBEL4.out⟩
        case measure => simp [intOf]; omega
      · have hde : ((s[k].toNat : Int) == 46) = false := by
          rw [beq_eq_false_iff_ne]
          intro e
          apply hd
          apply UInt8.toNat.inj
          show s[k].toNat = 46
          omega
        have HD := Lib.hid hd
        clear hd
        go_wp2
        go_roundw
        case rel => exact ⟨out, x, k + 1, rfl, by go_num, by omega, pc_step HPC.out hlt HD.out, HOWN.out, HBEL.out⟩
        case measure => simp [intOf]; omega
    · have hks2 : k = s.size := by omega
      subst hks2
      go_wp2_with (at_builtin; (refine wpList_append_own _ rfl _ _ 91 rfl w.heap.size 9 i0 (.string ⟨#[]⟩) 1 16 Tryz.underlying91 hi hz0 hz1 hz2 rfl (by decide) _ _ _ rfl (HOWN.out.alloc _) ⟨wr.heap.size, 0, none⟩ 1 1 [.string (s.extract x s.size)] rfl rfl (cell_one_new _ _ _) (fun x hx => by simp at hx; subst hx; rfl) (by unfold maxLen; omega) (by omega) (by simp; omega) ?_); intro v' w4 hown4 hgrow4 _)
      have hbel := (HBEL.out.alloc hbs _).grown hgrow4 (by simp; omega) (fun g hg => (HOWN.out.lt g hg).1)
      have HBEL4 := Lib.hid hbel
      have HOWN4 := Lib.hid hown4
      clear hown4 hgrow4 hbel
      go_ret
      exact ss_own (pc_end HPC.out) (by simpa [sv] using HOWN4.out) HBEL4.out
end Go.Proofs.YthonaeigacfmbaaGreatDoor.B
namespace Go.Proofs.YthonaeigacfmbaaGreatDoor.B
open Go.RowKit

set_option maxHeartbeats 3200000 in
set_option maxRecDepth 100000 in
theorem refLong (s : ByteArray) (w : World) (hs : s.size ≤ 1000000000) : Calls Tryz.prog 57 #[.string s] w (NmPost (long s) w) := by
  by_cases hbig : s.size ≤ 128
  · have hz : ¬ (128 : Int) < (s.size : Int) := by omega
    have cP := pieces_any s w (by omega)
    have hlen := pc_len s
    have hpz := pc_sz s
    have hlg : ∀ b, (pc s).all nck = b → long s = b := fun b h => by unfold long; rw [decide_eq_true hbig, h]; rfl
    obtain ⟨l, hl⟩ : ∃ l, pc s = l := ⟨_, rfl⟩
    rw [hl] at cP hlen hpz hlg
    have HLG := Lib.hid hlg
    have HPZ := Lib.hid hpz
    clear hl hlg hpz
    go_enter Tryz.func57, Tryz.ntmps57
    go_wp2_with fail
    refine cP.mono ?_
    rintro e w1 ⟨v, rfl, hv, hb1⟩
    obtain ⟨b, o, c, rfl, hlc, hblt, hcl⟩ := hv.form (by omega)
    have HCL := Lib.hid hcl
    have HB1 := Lib.hid hb1
    have hs1 := hb1.size
    clear hv hcl hb1
    go_wp2
    obtain ⟨n, hn⟩ : ∃ n, l.length = n := ⟨_, rfl⟩
    rw [hn] at hlen hlc ⊢
    have HN := Lib.hid hn
    clear hn
    go_loopw [4] (fun i wr => ∃ k : Nat, k ≤ n ∧ i = .int .i64 k ∧ Below w1.heap.size w1 wr ∧ (∀ (j : Nat) y, j < k → l[j]? = some y → nck y = true)) (fun i _ => n - (intOf i).toNat)
    case atStart => exact ⟨0, Nat.zero_le _, rfl, Below.refl _ _, fun j y hj => absurd hj (Nat.not_lt_zero _)⟩
    case round =>
      obtain ⟨k, hk, rfl, hbw, hall⟩ := hrel
      have HALL := Lib.hid hall
      clear hall
      by_cases hlt : k < n
      · obtain ⟨y, hy⟩ : ∃ y, l[k]? = some y := ⟨_, List.getElem?_eq_getElem (by rw [HN.out]; exact hlt)⟩
        have hcell := (hbw.cell (p := ⟨b, o + k, none⟩) hblt).trans (HCL.out k y hy)
        have hyz := HPZ.out y (List.mem_of_getElem? hy)
        have cK := fun W => refCk y W (by omega)
        have HY := Lib.hid hy
        have HBW := Lib.hid hbw
        have hbs := hbw.size
        obtain ⟨a, ha⟩ : ∃ a, nck y = a := ⟨_, rfl⟩
        rw [ha] at cK
        have HA := Lib.hid ha
        clear hy hyz ha hbw
        cases a
        · go_wp2_with fail
          refine (cK _).mono ?_
          rintro e w2 ⟨rfl, hb2⟩
          have hfin := HB1.out.trans ((HBW.out.trans (hb2.mono hbs)).mono hs1)
          clear hb2
          go_wp2
          go_ret
          exact nm_ret (HLG.out _ (all_not HY.out HA.out)) hfin
        · go_wp2_with fail
          refine (cK _).mono ?_
          rintro e w2 ⟨rfl, hb2⟩
          have hbw2 := HBW.out.trans (hb2.mono hbs)
          clear hb2
          go_wp2
          go_roundw
          case rel => exact ⟨k + 1, by omega, by go_num, hbw2, upto_next HALL.out HY.out HA.out⟩
          case measure => simp [intOf]; omega
      · have hkn : k = n := by omega
        subst hkn
        have hfin := HB1.out.trans (hbw.mono hs1)
        clear hbw
        go_wp2
        go_ret
        exact nm_ret (HLG.out _ (all_upto fun j y hj hy => HALL.out j y (by rw [← HN.out]; exact hj) hy)) hfin
  · have hz : (128 : Int) < (s.size : Int) := by omega
    go_enter Tryz.func57, Tryz.ntmps57
    go_wp2
    go_ret
    exact nm_ret (by unfold long; rw [decide_eq_false hbig]; rfl) (Below.refl _ _)
end Go.Proofs.YthonaeigacfmbaaGreatDoor.B
namespace Go.Proofs.YthonaeigacfmbaaGreatDoor.B
open Go.RowKit

theorem cnt_at {f : Nat → Bool} {l : List Nat} {i r : Nat} (h : l[i]? = some r) : cnt f (l.drop i) = if f r then cnt f (l.drop (i + 1)) + 1 else 0 := by
  have hi : i < l.length := (List.getElem?_eq_some_iff.1 h).1
  have hr := (List.getElem?_eq_some_iff.1 h).2
  rw [List.drop_eq_getElem_cons hi, hr]
  rfl

/-! ### comments, by pairs -/
theorem drop_succ {l : List Nat} {p r : Nat} (h : l[p]? = some r) : l.drop p = r :: l.drop (p + 1) := by
  have h1 := (List.getElem?_eq_some_iff.1 h).1
  have h2 := (List.getElem?_eq_some_iff.1 h).2
  rw [List.drop_eq_getElem_cons h1, h2]
end Go.Proofs.YthonaeigacfmbaaGreatDoor.B
namespace Go.Proofs.YthonaeigacfmbaaGreatDoor.B
open Go.RowKit

def vv (a : Nat) (e : List Nat) : Nat := val a (e.take (cnt dig e))
theorem vv_dig {a r : Nat} {t : List Nat} (h : dig r = true) : vv a (r :: t) = vv (10 * a + (r - 48)) t := by
  unfold vv; simp [cnt, h]; rfl
theorem vv_stop {a : Nat} {e : List Nat} (h : cnt dig e = 0) : vv a e = a := by
  unfold vv; rw [h]; rfl
structure NumRel (l : List Nat) (f0 p v : Nat) : Prop where
  lo : f0 ≤ p
  hi : p ≤ l.length
  cn : cnt dig (l.drop f0) = (p - f0) + cnt dig (l.drop p)
  va : vv v (l.drop p) = vv 0 (l.drop f0)
theorem NumRel.next {l : List Nat} {f0 p v r : Nat} (h : NumRel l f0 p v) (hr : l[p]? = some r) (hd : dig r = true) : NumRel l f0 (p + 1) (10 * v + (r - 48)) := by
  have hp : p < l.length := (List.getElem?_eq_some_iff.1 hr).1
  refine ⟨by have := h.lo; omega, hp, ?_, ?_⟩
  · have h1 := h.cn
    have h2 := h.lo
    rw [cnt_at hr, hd] at h1
    simp at h1
    omega
  · have h1 := h.va
    rw [drop_succ hr, vv_dig hd] at h1
    exact h1
theorem NumRel.fin {l : List Nat} {f0 p v : Nat} (h : NumRel l f0 p v) (he : cnt dig (l.drop p) = 0) : cnt dig (l.drop f0) = p - f0 ∧ (l.drop f0).drop (cnt dig (l.drop f0)) = l.drop p ∧ val 0 ((l.drop f0).take (cnt dig (l.drop f0))) = v := by
  have h1 := h.cn
  have h2 := h.va
  have h3 := h.lo
  rw [vv_stop he] at h2
  refine ⟨by omega, ?_, h2.symm⟩
  rw [h1, he, List.drop_drop]
  congr 1
  omega
end Go.Proofs.YthonaeigacfmbaaGreatDoor.B
namespace Go.Proofs.YthonaeigacfmbaaGreatDoor.B
open Go.RowKit

def RS : List (List Nat) := [[40], [41], [123], [125], [44], [58], [58, 62], [61], [61, 62], [45, 62], [42], [43], [45], [60], [124], [35, 49], [35, 50]]
def rs (k : Nat) : List Nat := RS.getD k []
end Go.Proofs.YthonaeigacfmbaaGreatDoor.B
namespace Go.Proofs.YthonaeigacfmbaaGreatDoor.B
open Go.Lib

/-! ### where blanks and comments end -/
theorem cnt_app {f : Nat → Bool} {l : List Nat} (h : cnt f l < l.length) (y : List Nat) : cnt f (l ++ y) = cnt f l := by
  induction l with
  | nil => simp at h
  | cons r t ih =>
    cases hr : f r
    · simp [cnt, hr]
    · simp [cnt, hr] at h ⊢
      exact ih h
theorem cnt_all {f : Nat → Bool} {l : List Nat} (h : ∀ r ∈ l, f r = true) (y : List Nat) : cnt f (l ++ y) = l.length + cnt f y := by
  induction l with
  | nil => simp
  | cons r t ih =>
    have hr := h r (by simp)
    have := ih (fun x hx => h x (by simp [hx]))
    simp [cnt, hr, this]
    omega
theorem cnt_full {f : Nat → Bool} {l : List Nat} (h : cnt f l = l.length) : ∀ r ∈ l, f r = true := by
  have := cnt_take (f := f) l
  rw [h, List.take_length] at this
  exact this
theorem btw_zero {d : List Nat} (h1 : cnt blk d = 0) (h2 : cmt d = 0) : btw d = 0 := by
  rw [btw_end (by rw [h1]; exact h2), h1]
theorem pre_app {x l y : List Nat} (h : x.isPrefixOf l = true) : x.isPrefixOf (l ++ y) = true := by
  rw [List.isPrefixOf_iff_prefix] at h ⊢
  exact h.trans (List.prefix_append _ _)
theorem cm_app {d : Int} {last : Nat} {l : List Nat} {k : Nat} (h : cm d last l = some k) (y : List Nat) : cm d last (l ++ y) = some k := by
  induction l generalizing d last k with
  | nil => cases h
  | cons r t ih =>
    have key : ∀ {d' : Int} {last' : Nat}, (cm d' last' t).map (· + 1) = some k → (cm d' last' (t ++ y)).map (· + 1) = some k := by
      intro d' last' h
      obtain ⟨j, hj, rfl⟩ := Option.map_eq_some_iff.1 h
      rw [ih hj]
      rfl
    rw [List.cons_append]
    unfold cm at h ⊢
    by_cases c1 : last = 40 ∧ r = 42
    · rw [if_pos c1] at h ⊢
      by_cases c2 : d + 1 = 0
      · rw [if_pos c2] at h ⊢; exact h
      · rw [if_neg c2] at h ⊢; exact key h
    · rw [if_neg c1] at h ⊢
      by_cases c3 : last = 42 ∧ r = 41
      · rw [if_pos c3] at h ⊢
        by_cases c2 : d - 1 = 0
        · rw [if_pos c2] at h ⊢; exact h
        · rw [if_neg c2] at h ⊢; exact key h
      · rw [if_neg c3] at h ⊢; exact key h
theorem cmt_some {l : List Nat} (h : cmt l ≠ 0) : opens l = true ∧ cm 0 32 l = some (cmt l) := by
  unfold cmt at h ⊢
  cases ho : opens l
  · rw [ho] at h; exact absurd rfl h
  · refine ⟨rfl, ?_⟩
    rw [if_pos rfl]
    rw [ho, if_pos rfl] at h
    cases hc : cm 0 32 l with
    | none => rw [hc] at h; exact absurd rfl h
    | some k => rfl
theorem cmt_app {l : List Nat} (h : cmt l ≠ 0) (y : List Nat) : cmt (l ++ y) = cmt l := by
  obtain ⟨h1, h2⟩ := cmt_some h
  have h3 : opens (l ++ y) = true := pre_app h1
  have h4 := cm_app h2 y
  conv => lhs; unfold cmt
  rw [h3, if_pos rfl, h4]
  rfl
theorem btw_absorb : ∀ (n : Nat) (z y : List Nat), z.length ≤ n → btw z = z.length → btw (z ++ y) = z.length + btw y
  | n, z, y, hn, hz => by
    by_cases hc : cnt blk z = z.length
    · have hall := cnt_full hc
      have h1 : cnt blk (z ++ y) = z.length + cnt blk y := cnt_all hall y
      have h2 : (z ++ y).drop (cnt blk (z ++ y)) = y.drop (cnt blk y) := by
        rw [h1, ← List.drop_drop, List.drop_left]
      by_cases h : cmt (y.drop (cnt blk y)) = 0
      · rw [btw_end h, btw_end (by rw [h2]; exact h), h1]
      · rw [btw_step h, btw_step (by rw [h2]; exact h), h2, h1]
        have h3 : (z ++ y).drop (z.length + cnt blk y + cmt (y.drop (cnt blk y))) = y.drop (cnt blk y + cmt (y.drop (cnt blk y))) := by
          rw [Nat.add_assoc, ← List.drop_drop, List.drop_left]
        rw [h3]
        omega
    · have hl := cnt_le blk z
      have hlt : cnt blk z < z.length := by omega
      have h1 := cnt_app hlt y
      have h2 : (z ++ y).drop (cnt blk z) = z.drop (cnt blk z) ++ y := List.drop_append_of_le_length hl
      by_cases h : cmt (z.drop (cnt blk z)) = 0
      · rw [btw_end h] at hz
        omega
      · have h3 := cmt_le (z.drop (cnt blk z))
        simp only [List.length_drop] at h3
        have h4 := btw_step h
        have h5 := cmt_app h y
        have h6 : (z ++ y).drop (cnt blk z + cmt (z.drop (cnt blk z))) = z.drop (cnt blk z + cmt (z.drop (cnt blk z))) ++ y := List.drop_append_of_le_length (by omega)
        have h7 : btw (z ++ y) = cnt blk z + cmt (z.drop (cnt blk z)) + btw (z.drop (cnt blk z + cmt (z.drop (cnt blk z))) ++ y) := by
          rw [btw_step (by rw [h1, h2, h5]; exact h), h1, h2, h5, h6]
        have h8 : btw (z.drop (cnt blk z + cmt (z.drop (cnt blk z)))) = (z.drop (cnt blk z + cmt (z.drop (cnt blk z)))).length := by
          rw [List.length_drop]; omega
        cases n with
        | zero => omega
        | succ n =>
          have ih := btw_absorb n (z.drop (cnt blk z + cmt (z.drop (cnt blk z)))) y (by rw [List.length_drop]; omega) h8
          rw [h7, ih, List.length_drop]
          omega
/-! ### places -/
theorem lex_absorb {z : List Nat} (h : btw z = z.length) (y : List Nat) (p : Nat) : lexL (z ++ y) p = lexL y (p + sz z) := by
  have hb := btw_absorb z.length z y (Nat.le_refl _) h
  have hd : (z ++ y).drop (btw (z ++ y)) = y.drop (btw y) := by rw [hb, ← List.drop_drop, List.drop_left]
  have ht : sz ((z ++ y).take (btw (z ++ y))) = sz z + sz (y.take (btw y)) := by
    rw [hb, List.take_append, List.take_of_length_le (by omega), show z.length + btw y - z.length = btw y by omega, sz_app]
  by_cases he : y.drop (btw y) = []
  · rw [lex_end he, lex_end (by rw [hd]; exact he)]
  · cases e : tokT (y.drop (btw y)) with
    | none => rw [lex_bad he e, lex_bad (by rw [hd]; exact he) (by rw [hd]; exact e), ht, Nat.add_assoc]
    | some tn =>
      obtain ⟨t, k⟩ := tn
      rw [lex_next he e, lex_next (by rw [hd]; exact he) (by rw [hd]; exact e), ht, hd, ← Nat.add_assoc p (sz z) (sz (y.take (btw y)))]
end Go.Proofs.YthonaeigacfmbaaGreatDoor.B
namespace Go.Proofs.YthonaeigacfmbaaGreatDoor.B
open Go.Lib

theorem spl_noD {l : List Nat} (h : 46 ∉ l) : spl l = [l] := by
  induction l with
  | nil => rfl
  | cons r t ih =>
    have h1 : ¬ r = 46 := fun e => h (by rw [e]; exact List.mem_cons_self ..)
    have h2 : 46 ∉ t := fun e => h (List.mem_cons_of_mem _ e)
    unfold spl
    rw [if_neg h1, ih h2]
theorem spl_atD {a r : List Nat} (h : 46 ∉ a) : spl (a ++ 46 :: r) = a :: spl r := by
  induction a with
  | nil =>
    show spl (46 :: r) = _
    conv => lhs; unfold spl
    rw [if_pos rfl]
  | cons x t ih =>
    have h1 : ¬ x = 46 := fun e => h (by rw [e]; exact List.mem_cons_self ..)
    have h2 : 46 ∉ t := fun e => h (List.mem_cons_of_mem _ e)
    show spl (x :: (t ++ 46 :: r)) = _
    conv => lhs; unfold spl
    rw [if_neg h1, ih h2]
theorem lng_46 : lng 46 = true := by decide
theorem lng_mst {r : Nat} {b : Bool} (h : mst (r : Int) b = true) : lng r = true := by
  unfold mst at h
  unfold lng inr
  rw [Bool.or_eq_true] at h
  rw [Bool.or_eq_true, decide_eq_true_iff]
  left
  rcases h with h | h
  · exact .inl (of_decide_eq_true h)
  · rw [Bool.and_eq_true] at h
    rcases of_decide_eq_true h.1 with h | h
    · exact .inr (.inl h)
    · exact .inr (.inr (by omega))
theorem cnt_allW {f : Nat → Bool} : ∀ {l : List Nat}, (∀ r ∈ l, f r = true) → cnt f l = l.length
  | [], _ => rfl
  | r :: t, h => by
    unfold cnt
    rw [if_pos (h r (List.mem_cons_self ..)), cnt_allW fun x hx => h x (List.mem_cons_of_mem _ hx)]
    rfl
structure Lr (l : List UInt8) (x : List Nat) : Prop where
  en : enc x = l
  ok : okl x
  ln : ∀ r ∈ x, lng r = true
  fi : ∃ r t, x = r :: t ∧ cls (r : Int) = 1
  pi : (spl x).all (fun y => !wrd (T y) && nm (T y)) = true
  wo : (46 : UInt8) ∉ l → wrd (T x) = false
theorem one_Lr {l : List UInt8} (h : nck (tx l) = true) : ∃ x, Lr l x := by
  obtain ⟨hn, hw⟩ := nck_nm h
  obtain ⟨h1, h2, h3, h4⟩ := nck_runes hn
  have he : enc (rns (tx l) 0) = l := by
    have := congrArg (fun s => s.data.toList) h3
    rw [T_list] at this
    exact this
  have hd : 46 ∉ rns (tx l) 0 := fun hm => by
    obtain ⟨b, hb⟩ := nmL_all h4 46 hm
    have e : mst ((46 : Nat) : Int) b = false := mst_46 b
    rw [e] at hb
    cases hb
  refine ⟨rns (tx l) 0, he, h2, fun r hr => ?_, ?_, ?_, fun _ => by rw [h3]; exact hw⟩
  · obtain ⟨b, hb⟩ := nmL_all h4 r hr
    exact lng_mst hb
  · cases hx : rns (tx l) 0 with
    | nil => rw [hx] at h3; rw [← h3] at h1; simp [T, enc, ByteArray.size] at h1
    | cons r t =>
      refine ⟨r, t, rfl, ?_⟩
      rw [hx] at h4
      unfold nmL at h4
      rw [Bool.and_eq_true] at h4
      have h5 := h4.1
      unfold mst at h5
      simpa using h5
  · rw [spl_noD hd, List.all_cons, List.all_nil, h3, hw, hn]
    rfl
theorem all_Lr : ∀ (l : List UInt8), ((pcl l).map tx).all nck = true → ∃ x, Lr l x := by
  refine by_pieces _ (fun l h46 h => ?_) (fun a r ha ih h => ?_)
  · rw [pcl_none h46] at h
    simp only [List.map_cons, List.map_nil, List.all_cons, List.all_nil, Bool.and_true] at h
    exact one_Lr h
  · rw [pcl_at ha] at h
    simp only [List.map_cons, List.all_cons, Bool.and_eq_true] at h
    obtain ⟨x, hx⟩ := one_Lr h.1
    obtain ⟨y, hy⟩ := ih h.2
    have hd : 46 ∉ x := fun hm => by
      have := hx.pi
      have hwo := hx.wo ha
      have hm2 : (46 : UInt8) ∈ enc x := by
        obtain ⟨p, q, e⟩ := List.append_of_mem hm
        rw [e, enc_app]
        refine List.mem_append_right _ ?_
        show (46 : UInt8) ∈ enc (46 :: q)
        have e1 : enc (46 :: q) = enc [46] ++ enc q := enc_app [46] q
        rw [e1]
        exact List.mem_append_left _ (by decide)
      rw [hx.en] at hm2
      exact ha hm2
    have o46 : okl [46] := ok_ascii fun r hr => by rw [List.mem_singleton.1 hr]; omega
    refine ⟨x ++ 46 :: y, ?_, ?_, ?_, ?_, ?_, fun h46 => absurd (List.mem_append_right a (List.mem_cons_self ..)) h46⟩
    · have e1 : enc (46 :: y) = enc [46] ++ enc y := enc_app [46] y
      rw [enc_app, hx.en, e1, hy.en]
      rfl
    · exact okl_app.2 ⟨hx.ok, okl_app (a := [46]).2 ⟨o46, hy.ok⟩⟩
    · intro r hr
      rcases List.mem_append.1 hr with hr | hr
      · exact hx.ln r hr
      · rcases List.mem_cons.1 hr with rfl | hr
        · exact lng_46
        · exact hy.ln r hr
    · obtain ⟨r, t, e, hc⟩ := hx.fi
      exact ⟨r, t ++ 46 :: y, by rw [e]; rfl, hc⟩
    · rw [spl_atD hd, List.all_cons, hy.pi, Bool.and_true]
      have := hx.pi
      rw [spl_noD hd, List.all_cons, List.all_nil, Bool.and_true] at this
      exact this
theorem words_dot : ∀ x ∈ WORDS, 46 ∉ x := by decide
theorem words_ok : ∀ x ∈ WORDS, ∀ r ∈ x, r < 128 := by decide
theorem lng_rdb {r : Nat} (h : lng r = true) : rdb (r : Int) = true := by
  refine rdb_is _ _ ⟨fun _ => ?_, fun _ => rfl⟩
  unfold lng inr at h
  rw [Bool.or_eq_true] at h
  rcases h with h | h
  · have h := of_decide_eq_true h
    unfold cls at h
    omega
  · have h := of_decide_eq_true h
    omega
theorem long_tok {s : ByteArray} (h : long s = true) : ∃ x, T x = s ∧ okl x ∧ tokT x = some (⟨1, x, 0⟩, x.length) ∧ ∀ r ∈ x, rdb (r : Int) = true := by
  obtain ⟨h1, h2⟩ := long_is.1 h
  obtain ⟨x, hx⟩ := all_Lr s.data.toList h2
  have hT : T x = s := ba_ext (by rw [T_list, hx.en])
  have hc := cnt_allW hx.ln
  have hw : wrd (T x) = false := by
    by_cases h46 : (46 : UInt8) ∈ s.data.toList
    · cases hq : wrd (T x) with
      | false => rfl
      | true =>
        unfold wrd at hq
        obtain ⟨y, hy, he⟩ := List.any_eq_true.1 hq
        have he := of_decide_eq_true he
        have oy : okl y := ok_ascii fun r hr => words_ok y hy r hr
        have := T_inj hx.ok oy he
        rw [← hx.en, this] at h46
        exfalso
        have hm : 46 ∈ y := mem_enc (c := 46) oy (by omega) h46
        exact words_dot y hy hm
    · exact hx.wo h46
  have hl : isLong x = true := by
    unfold isLong
    rw [hx.pi, Bool.and_true, decide_eq_true_iff]
    have : sz x = s.size := by rw [← hT]; rfl
    omega
  refine ⟨x, hT, hx.ok, ?_, fun r hr => lng_rdb (hx.ln r hr)⟩
  obtain ⟨r, t, e, hcl⟩ := hx.fi
  have e2 : tokT x = nameT x := by
    rw [e]
    show (if cls r = 1 then nameT (r :: t) else _) = _
    rw [if_pos hcl]
  rw [e2]
  unfold nameT
  rw [hc, List.take_length, hw, hl]
  rfl
def TKEYS : List (List Nat) := [[105, 110, 116], [98, 111, 111, 108], [117, 110, 105, 116], [40], [41], [109, 117], [123], [125], [111, 102], [124], [45, 62], [42]]
theorem keys_tok : ∀ x ∈ TKEYS, tokT x = some (⟨3, x, 0⟩, x.length) := by decide
end Go.Proofs.YthonaeigacfmbaaGreatDoor.B
