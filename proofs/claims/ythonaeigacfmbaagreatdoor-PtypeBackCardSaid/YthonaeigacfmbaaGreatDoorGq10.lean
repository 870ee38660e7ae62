/-
  Words for the walks of layers 1 and 2: small lemmas; what Check and Name leave.
-/
import Derived.Test.YthonaeigacfmbaaGreatDoorGq08
import Derived.Test.YthonaeigacfmbaaGreatDoorGq09
import Derived.BigQuiet
import Derived.Deep.AppendLies
import Derived.Deep.DeepMust
import Derived.Deep.QuietTactic
import Derived.Lib.Hide
import Derived.Lib.OthersKept
import Derived.Outline
import Derived.OwnWalk
import Derived.Test.YthonaeigacfmbaaGreatDoorRows
import Derived.WalkKit
import Derived.WalkLawsBesides
import Derived.WalkSmall
import Derived.WalkSpells
namespace Go.Proofs.YthonaeigacfmbaaGreatDoor.B
open Go.RowKit

theorem addBlock (a : Addr) (n : Nat) : (a.add n).block = a.block := by unfold Addr.add; split <;> rfl
theorem chn {w w1 w2 : World} (h : Below w.heap.size w w1) (h' : Below w1.heap.size w1 w2) : Below w.heap.size w w2 := h.trans (h'.mono h.size)
theorem i64_eq {a b : Int} (h : a = b) : Value.int .i64 a = .int .i64 b := by rw [h]
theorem ret_i64 {a b : Int} (h : a = b) : Ending.returned (.int .i64 b) = .returned (.int .i64 a) := by rw [h]
theorem ret_b {a b : Bool} (h : a = b) : Ending.returned (.bool b) = .returned (.bool a) := by rw [h]
theorem below_drewN' {B : Nat} {a w : World} (h : Below B a w) (n : Nat) : Below B a (w.drewN n) := h.trans ⟨rfl, rfl, rfl, Nat.le_refl _, fun _ _ => rfl⟩
def CkPost (s : ByteArray) (w : World) (e : Ending) (w' : World) : Prop :=
  e = .returned (.tuple #[.int .i64 (if 16384 < s.size then (0, 3) else ck s 0).1, .int .i64 (if 16384 < s.size then ((0 : Int), (3 : Int)) else ck s 0).2]) ∧ Below w.heap.size w w'
theorem ck_long {s : ByteArray} {w w' : World} (h : 16384 < s.size) (hb : Below w.heap.size w w') : CkPost s w (.returned (.tuple #[.int .i64 0, .int .i64 3])) w' := by
  unfold CkPost
  exact ⟨by simp only [if_pos h], hb⟩
theorem ck_ret {s : ByteArray} {w w' : World} {a b : Int} (h : ¬ 16384 < s.size) (hc : ck s 0 = (a, b)) (hb : Below w.heap.size w w') : CkPost s w (.returned (.tuple #[.int .i64 a, .int .i64 b])) w' := by
  unfold CkPost
  exact ⟨by simp only [if_neg h, hc], hb⟩
/-! ### Name -/
def NmPost (b : Bool) (W : World) (e : Ending) (w' : World) : Prop := e = .returned (.bool b) ∧ Below W.heap.size W w'
theorem mst_true {r c : Int} {f : Bool} (hc : cls r = c) (h : c = 1 ∨ ((c = 2 ∨ r = 39) ∧ f = false)) : mst r f = true := by
  unfold mst
  rw [hc]
  rcases h with h | ⟨h, hf⟩
  · simp [h]
  · simp [h, hf]
theorem mst_false {r c : Int} {f : Bool} (hc : cls r = c) (h : c ≠ 1 ∧ (f = true ∨ (c ≠ 2 ∧ r ≠ 39))) : mst r f = false := by
  unfold mst
  rw [hc]
  obtain ⟨h1, h2⟩ := h
  rcases h2 with hf | ⟨h2, h3⟩
  · simp [h1, hf]
  · simp [h1, h2, h3]
end Go.Proofs.YthonaeigacfmbaaGreatDoor.B
namespace Go.Proofs.YthonaeigacfmbaaGreatDoor.B
open Go.RowKit

set_option maxHeartbeats 1600000 in
set_option maxRecDepth 100000 in
theorem goodClass (r : Int) (w : World) : Calls Tryz.prog 119 #[.int .i32 r] w fun e w' => e = .returned (.int .i64 (cls r)) ∧ w = w' := by
  obtain ⟨c, hc⟩ : ∃ c, cls r = c := ⟨_, rfl⟩
  obtain ⟨b, hb⟩ : ∃ b, Lib.validRune r = b := ⟨_, rfl⟩
  have hb' : b = true ↔ ((0 ≤ r ∧ r < 55296) ∨ (57343 < r ∧ r ≤ 1114111)) := by rw [← hb]; simp [Lib.validRune]
  have cV : ∀ W, Calls Tryz.prog 182 #[.int .i32 r] W _ := fun W => Tryz.utf8_ValidRune r W
  rw [hb] at cV
  rw [hc]
  have HC := Lib.hid hc
  have HB := Lib.hid hb'
  clear hc hb hb'
  cases b
  all_goals
    go_enter Tryz.func119, Tryz.ntmps119
    go_wp2_with (go_at_call 182; refine (cV _).mono ?_; rintro e w' ⟨rfl, rfl⟩)
    all_goals go_ret
    all_goals
      refine ⟨ret_i64 (HC.out.symm.trans (cls_is r _ ?_)), rfl⟩
      have hB := HB.out
      simp only [beq_iff_eq, beq_eq_false_iff_ne, ne_eq, and_true, Bool.false_eq_true, false_iff, true_iff] at *
      omega

set_option maxHeartbeats 1600000 in
set_option maxRecDepth 100000 in
theorem readable_any (r : Int) (w : World) : Calls Tryz.prog 116 #[.int .i32 r] w fun e w' => e = .returned (.bool (rdb r)) ∧ w = w' := by
  obtain ⟨c, hc⟩ : ∃ c, rdb r = c := ⟨_, rfl⟩
  have cC : ∀ W, Calls Tryz.prog 119 #[.int .i32 r] W _ := fun W => goodClass r W
  have h3 := cls_three r
  obtain ⟨k, hk⟩ : ∃ k, cls r = k := ⟨_, rfl⟩
  rw [hk] at cC h3
  rw [hc]
  have HC := Lib.hid hc
  have H3 := Lib.hid h3
  clear hc hk h3
  go_enter Tryz.func116, Tryz.ntmps116
  go_wp2_with (go_at_call 119; refine (cC _).mono ?_; rintro e w' ⟨rfl, rfl⟩)
  all_goals go_ret
  all_goals
    refine ⟨ret_b (HC.out.symm.trans (rdb_is r _ ?_)), rfl⟩
    have h3 := H3.out
    simp only [beq_iff_eq, beq_eq_false_iff_ne, ne_eq, Bool.false_eq_true, false_iff, true_iff] at *
    omega

set_option maxHeartbeats 1600000 in
set_option maxRecDepth 100000 in
theorem goodCheck (s : ByteArray) (w : World) (hs : s.size ≤ 1000000000) :
    Calls Tryz.prog 71 #[.string s] w (CkPost s w) := by
  by_cases hbig : 16384 < s.size
  · have hz : (16384 : Int) < (s.size : Int) := by omega
    go_enter Tryz.func71, Tryz.ntmps71
    go_wp2
    go_ret2
    exact ck_long hbig (Below.refl _ _)
  · have hz : ¬ (16384 : Int) < (s.size : Int) := by omega
    go_enter Tryz.func71, Tryz.ntmps71
    go_wp2
    go_loopw [] (fun wr => ∃ p : Nat, wr.heap[w.heap.size]? = some (.stringIter s p) ∧ Below w.heap.size w wr ∧ ck s p = ck s 0) (fun wr => s.size - wr.iterPos w.heap.size)
    case atStart => exact ⟨0, World.iter_heap w s 0, (Below.refl _ _).alloc (Nat.le_refl _) _, rfl⟩
    case round =>
      obtain ⟨p, hit, hbw, hc⟩ := hrel
      have HC := Lib.hid hc
      clear hc
      have hpos0 := iterPos_of hit
      by_cases hlt : p < s.size
      · have hnx : ∀ ty, (Instr.next (.pointer (some ⟨w.heap.size, 0, none⟩)) true ty).run Tryz.prog wr = _ := fun ty => Lib.run_next_any_at wr w.heap.size s p ty hit hlt
        have hw1 := dc_pos s p
        have hit2 := Lib.iterAt_heap wr w.heap.size s p (p + (dc s p).2) hit
        have hbw2 := Lib.below_iterAt hbw (k := w.heap.size) (Nat.le_refl _) s (p + (dc s p).2)
        have HS := Lib.hid (ck_stop (s := s) hlt)
        have HN := Lib.hid (ck_next (s := s) hlt)
        obtain ⟨r, k, hrk⟩ : ∃ r k, dc s p = (r, k) := ⟨_, _, rfl⟩
        rw [show Utf8.decode s p = (r, k) from hrk] at hnx
        rw [hrk] at hw1 hit2 hbw2 HS HN
        dsimp only at hw1 hit2 hbw2 HS HN hnx
        clear hrk
        obtain ⟨W1, hW1⟩ : ∃ W1, W1 = wr.iterAt w.heap.size s (p + k) := ⟨_, rfl⟩
        rw [← hW1] at hnx hit2 hbw2
        have hpos2 := iterPos_of hit2
        have HP0 := Lib.hid hpos0
        have HP2 := Lib.hid hpos2
        clear hW1 hpos0 hpos2 hit hbw
        have cR : ∀ W, Calls Tryz.prog 116 #[.int .i32 r] W _ := fun W => readable_any r W
        obtain ⟨b, hb⟩ : ∃ b, rdb r = b := ⟨_, rfl⟩
        rw [hb] at cR
        have HB := Lib.hid hb
        clear hb
        cases b
        · go_wp2_with (go_at_call 116; refine (cR _).mono ?_; rintro e w' ⟨rfl, rfl⟩)
          go_ret2
          exact ck_ret hbig (by rw [← HC.out]; exact HS.out HB.out) hbw2
        · go_wp2_with (go_at_call 116; refine (cR _).mono ?_; rintro e w' ⟨rfl, rfl⟩)
          go_roundw
          case rel => exact ⟨p + k, hit2, hbw2, by rw [← HN.out HB.out]; exact HC.out⟩
          case measure => rw [HP0.out, HP2.out]; omega
      · have hnx : ∀ ty, (Instr.next (.pointer (some ⟨w.heap.size, 0, none⟩)) true ty).run Tryz.prog wr = _ := fun ty => Lib.run_next_end_at wr w.heap.size s p ty hit hlt
        have HE := Lib.hid (ck_end hlt)
        clear hpos0
        go_wp2
        go_ret2
        exact ck_ret hbig (by rw [← HC.out]; exact HE.out) hbw

set_option maxHeartbeats 1600000 in
set_option maxRecDepth 100000 in
theorem mayStand_any (r : Int) (b : Bool) (w : World) :
    Calls Tryz.prog 240 #[.int .i32 r, .bool b] w fun e w' => e = .returned (.bool (mst r b)) ∧ w = w' := by
  have cC : ∀ W, Calls Tryz.prog 119 #[.int .i32 r] W _ := fun W => goodClass r W
  obtain ⟨k, hk⟩ : ∃ k, cls r = k := ⟨_, rfl⟩
  rw [hk] at cC
  have HT : Hid (∀ f, (k = 1 ∨ ((k = 2 ∨ r = 39) ∧ f = false)) → mst r f = true) := Lib.hid fun f h => mst_true hk h
  have HF : Hid (∀ f, (k ≠ 1 ∧ (f = true ∨ (k ≠ 2 ∧ r ≠ 39))) → mst r f = false) := Lib.hid fun f h => mst_false hk h
  clear hk
  obtain ⟨c, hc⟩ : ∃ c, mst r b = c := ⟨_, rfl⟩
  rw [hc]
  have HC := Lib.hid hc
  clear hc
  cases b
  all_goals
    go_enter Tryz.func240, Tryz.ntmps240
    go_wp2_with (go_at_call 119; refine (cC _).mono ?_; rintro e w' ⟨rfl, rfl⟩)
    all_goals go_ret
    all_goals
      refine ⟨ret_b (HC.out.symm.trans ?_), rfl⟩
      first
        | exact HT.out _ (by simp only [beq_iff_eq, beq_eq_false_iff_ne, ne_eq, and_true] at *; omega)
        | exact HF.out _ (by simp only [beq_iff_eq, beq_eq_false_iff_ne, ne_eq, true_or, and_true] at *; omega)
        | trace_state

set_option maxHeartbeats 1600000 in
set_option maxRecDepth 100000 in
theorem goodName (s : ByteArray) (w : World) (hs : s.size ≤ 1000000000) :
    Calls Tryz.prog 222 #[.string s] w (NmPost (nm s) w) := by
  obtain ⟨ANS, hans⟩ : ∃ b, nm s = b := ⟨_, rfl⟩
  rw [hans]
  by_cases hsz : 1 ≤ s.size ∧ s.size ≤ 32
  · have HA := Lib.hid (hans.symm.trans (nm_of hsz))
    clear hans
    obtain ⟨h1, h2⟩ := hsz
    have hz2 : ¬ (32 : Int) < (s.size : Int) := by omega
    have hne : ¬ s.toList = [] := by
      intro e
      have h3 := Lib.size_eq s
      rw [← Lib.toList_data, e] at h3
      have h4 : ([] : List UInt8).length = 0 := rfl
      omega
    have hne2 : s.toList.isEmpty = false := by cases h : s.toList with
      | nil => exact absurd h hne
      | cons a t => rfl
    go_enter Tryz.func222, Tryz.ntmps222
    go_wp2
    have hit0 : (w.iter s 0).heap[w.heap.size]? = some (.stringIter s 0) := World.iter_heap w s 0
    have hbi : Below w.heap.size w (w.iter s 0) := (Below.refl _ _).alloc (Nat.le_refl _) _
    generalize w.iter s 0 = wq at hit0 hbi ⊢
    go_loopw [] (fun wr => ∃ (p : Nat), wr.heap[w.heap.size]? = some (.stringIter s p) ∧ Below w.heap.size w wr ∧ p ≤ s.size ∧ nmF s p = nmF s 0) (fun wr => s.size - wr.iterPos w.heap.size)
    case atStart => exact ⟨0, hit0, hbi, Nat.zero_le _, rfl⟩
    case round =>
      obtain ⟨p, hit, hbw, hp, hct⟩ := hrel
      have HC := Lib.hid hct
      clear hct hit0 hbi
      have hpos0 := iterPos_of hit
      by_cases hlt : p < s.size
      · have hnx : ∀ ty, (Instr.next (.pointer (some ⟨w.heap.size, 0, none⟩)) true ty).run Tryz.prog wr = _ := fun ty => Lib.run_next_any_at wr w.heap.size s p ty hit hlt
        have hw1 := dc_pos s p
        have hw2 := dc_le s p hlt
        have hit2 := Lib.iterAt_heap wr w.heap.size s p (p + (dc s p).2) hit
        have hbw2 := Lib.below_iterAt hbw (k := w.heap.size) (Nat.le_refl _) s (p + (dc s p).2)
        have HS := Lib.hid (nm_stop (s := s) hlt)
        have HN := Lib.hid (nm_next (s := s) hlt)
        obtain ⟨r, k, hrk⟩ : ∃ r k, dc s p = (r, k) := ⟨_, _, rfl⟩
        rw [show Utf8.decode s p = (r, k) from hrk] at hnx
        rw [hrk] at hw1 hw2 hit2 hbw2 HS HN
        dsimp only at hw1 hw2 hit2 hbw2 HS HN hnx
        clear hrk
        obtain ⟨W1, hW1⟩ : ∃ W1, W1 = wr.iterAt w.heap.size s (p + k) := ⟨_, rfl⟩
        rw [← hW1] at hnx hit2 hbw2
        have hpos2 := iterPos_of hit2
        have HP0 := Lib.hid hpos0
        have HP2 := Lib.hid hpos2
        have HIT := Lib.hid hit2
        clear hW1 hpos0 hpos2 hit hbw hit2
        obtain ⟨f0, hf0⟩ : ∃ f0, decide (p = 0) = f0 := ⟨_, rfl⟩
        rw [hf0] at HS HN
        have hf : ((p : Int) == 0) = f0 := by
          rw [← hf0, Bool.eq_iff_iff, beq_iff_eq, decide_eq_true_eq]
          omega
        clear hf0
        have cR : ∀ W, Calls Tryz.prog 240 #[.int .i32 r, .bool f0] W _ := fun W => mayStand_any r f0 W
        obtain ⟨b, hb⟩ : ∃ b, mst r f0 = b := ⟨_, rfl⟩
        rw [hb] at cR
        have HB := Lib.hid hb
        clear hb
        cases b
        · go_wp2_with (go_at_call 240; refine (cR _).mono ?_; rintro e w' ⟨rfl, rfl⟩)
          go_ret
          exact ⟨ret_b (by rw [HA.out, ← HC.out]; exact HS.out HB.out), hbw2⟩
        · go_wp2_with (go_at_call 240; refine (cR _).mono ?_; rintro e w' ⟨rfl, rfl⟩)
          go_roundw
          case rel => exact ⟨p + k, HIT.out, hbw2, hw2, by rw [← HN.out HB.out]; exact HC.out⟩
          case measure => rw [HP0.out, HP2.out]; omega
      · have hnx : ∀ ty, (Instr.next (.pointer (some ⟨w.heap.size, 0, none⟩)) true ty).run Tryz.prog wr = _ := fun ty => Lib.run_next_end_at wr w.heap.size s p ty hit hlt
        have HE := Lib.hid (nm_end hlt)
        clear hpos0
        go_wp2
        go_ret
        exact ⟨ret_b (by rw [HA.out, ← HC.out]; exact HE.out), hbw⟩
  · have HA := Lib.hid (hans.symm.trans (nm_size hsz))
    clear hans
    rcases (show s.size = 0 ∨ (1 ≤ s.size ∧ 32 < s.size) by omega) with h0 | ⟨h1, h2⟩
    · have hne : s.toList = [] := by
        rw [Lib.toList_data]
        exact List.eq_nil_of_length_eq_zero (by rw [← Lib.size_eq]; exact h0)
      have hne2 : s.toList.isEmpty = true := by rw [hne]; rfl
      clear h0 hsz
      go_enter Tryz.func222, Tryz.ntmps222
      go_wp2
      go_ret
      exact ⟨ret_b HA.out, Below.refl _ _⟩
    · have hne : ¬ s.toList = [] := by
        intro e
        have h3 := Lib.size_eq s
        rw [← Lib.toList_data, e] at h3
        have h4 : ([] : List UInt8).length = 0 := rfl
        omega
      have hne2 : s.toList.isEmpty = false := by cases h : s.toList with
        | nil => exact absurd h hne
        | cons a t => rfl
      have hz2 : (32 : Int) < (s.size : Int) := by omega
      clear hsz
      go_enter Tryz.func222, Tryz.ntmps222
      go_wp2
      go_ret
      exact ⟨ret_b HA.out, Below.refl _ _⟩
end Go.Proofs.YthonaeigacfmbaaGreatDoor.B
namespace Go.Proofs.YthonaeigacfmbaaGreatDoor.B
open Go.Lib

def rn (f : Nat → Bool) (s : ByteArray) (p : Nat) : Nat := along_ s (fun (_ : Unit) p => if f (dc s p).1 then none else some p) (fun u _ => u) (fun _ => s.size) () p
theorem rn_end {f : Nat → Bool} {s : ByteArray} {p : Nat} (h : ¬ p < s.size) : rn f s p = s.size := along_end h
theorem rn_stop {f : Nat → Bool} {s : ByteArray} {p : Nat} (h : p < s.size) (e : f (dc s p).1 = false) : rn f s p = p := along_stop h (by simp [e])
theorem rn_next {f : Nat → Bool} {s : ByteArray} {p : Nat} (h : p < s.size) (e : f (dc s p).1 = true) : rn f s p = rn f s (p + (dc s p).2) := along_next h (by simp [e])
theorem snoc_T (a : List Nat) (r : Nat) (t : List Nat) : a ++ r :: t = (a ++ [r]) ++ t ∧ sz a + wd r = sz (a ++ [r]) := by
  refine ⟨by simp, ?_⟩
  rw [sz_app, sz_cons, sz_nil, Nat.add_zero]
theorem lt_T (a : List Nat) (r : Nat) (t : List Nat) : sz a < (T (a ++ r :: t)).size := by
  have := wd_pos r
  rw [T_size, sz_app, sz_cons]; omega
theorem rn_T (f : Nat → Bool) : ∀ (b a : List Nat), okl b → rn f (T (a ++ b)) (sz a) = sz a + sz (b.take (cnt f b)) := by
  intro b
  induction b with
  | nil =>
    intro a _
    rw [List.append_nil, rn_end (by rw [T_size]; omega), T_size]
    simp [cnt, sz_nil]
  | cons r t ih =>
    intro a h
    obtain ⟨h1, h2⟩ := okl_cons.1 h
    obtain ⟨e1, e2⟩ := snoc_T a r t
    have hlt := lt_T a r t
    have k := ih (a ++ [r]) h2
    rw [← e1, ← e2] at k
    cases hf : f r
    · rw [rn_stop hlt (by rw [dc_T a h1 t]; exact hf)]
      simp [cnt, hf, sz_nil]
    · rw [rn_next hlt (by rw [dc_T a h1 t]; exact hf), dc_T a h1 t]
      show rn f _ (sz a + wd r) = _
      rw [k]
      simp only [cnt, hf, if_true, List.take_succ_cons, sz_cons]
      omega
theorem rn_T0 (f : Nat → Bool) {b : List Nat} (h : okl b) : rn f (T b) 0 = sz (b.take (cnt f b)) := by
  have := rn_T f b [] h
  rw [List.nil_append, sz_nil, Nat.zero_add] at this
  exact this

def cstep (st : Int × Nat) (r : Nat) : Int × Nat := if st.2 = 40 ∧ r = 42 then (st.1 + 1, 32) else if st.2 = 42 ∧ r = 41 then (st.1 - 1, 32) else (st.1, r)
def chit (st : Int × Nat) (r : Nat) : Bool := decide (((st.2 = 40 ∧ r = 42) ∨ (st.2 = 42 ∧ r = 41)) ∧ (cstep st r).1 = 0)
def cmp (s : ByteArray) (st : Int × Nat) (p : Nat) : Nat := along_ s (fun (st : Int × Nat) p => if chit st (dc s p).1 then some (p + 1) else none) (fun st p => cstep st (dc s p).1) (fun _ => 0) st p
theorem cmp_end {s : ByteArray} {st : Int × Nat} {p : Nat} (h : ¬ p < s.size) : cmp s st p = 0 := along_end h
theorem cmp_stop {s : ByteArray} {st : Int × Nat} {p : Nat} (h : p < s.size) (e : chit st (dc s p).1 = true) : cmp s st p = p + 1 := along_stop h (by simp [e])
theorem cmp_next {s : ByteArray} {st : Int × Nat} {p : Nat} (h : p < s.size) (e : chit st (dc s p).1 = false) : cmp s st p = cmp s (cstep st (dc s p).1) (p + (dc s p).2) := along_next h (by simp [e])
theorem cm_T : ∀ (b a : List Nat) (d : Int) (last : Nat), okl b → cmp (T (a ++ b)) (d, last) (sz a) = (match cm d last b with | none => 0 | some k => sz a + sz (b.take k)) := by
  intro b
  induction b with
  | nil =>
    intro a d last _
    rw [List.append_nil, cmp_end (by rw [T_size]; omega)]
    rfl
  | cons r t ih =>
    intro a d last h
    obtain ⟨h1, h2⟩ := okl_cons.1 h
    obtain ⟨e1, e2⟩ := snoc_T a r t
    have hlt := lt_T a r t
    have key : ∀ d' last', chit (d, last) r = false → cstep (d, last) r = (d', last') → cmp (T (a ++ r :: t)) (d, last) (sz a) = (match (cm d' last' t).map (· + 1) with | none => 0 | some k => sz a + sz ((r :: t).take k)) := by
      intro d' last' hc hs
      rw [cmp_next hlt (by rw [dc_T a h1 t]; exact hc), dc_T a h1 t]
      show cmp _ (cstep (d, last) r) (sz a + wd r) = _
      rw [hs]
      have k := ih (a ++ [r]) d' last' h2
      rw [← e1, ← e2] at k
      rw [k]
      cases cm d' last' t with
      | none => rfl
      | some j =>
        show _ = sz a + sz ((r :: t).take (j + 1))
        rw [List.take_succ_cons, sz_cons]
        simp only
        omega
    have stop : chit (d, last) r = true → r < 128 → cmp (T (a ++ r :: t)) (d, last) (sz a) = sz a + sz ((r :: t).take 1) := by
      intro hc hr
      rw [cmp_stop hlt (by rw [dc_T a h1 t]; exact hc)]
      have := (wd_ascii hr).1
      rw [List.take_succ_cons, List.take_zero, sz_cons, sz_nil, this]
    unfold cm
    by_cases c1 : last = 40 ∧ r = 42
    · have hs : cstep (d, last) r = (d + 1, 32) := by unfold cstep; rw [if_pos c1]
      rw [if_pos c1]
      by_cases hd : d + 1 = 0
      · rw [if_pos hd]
        exact stop (by unfold chit; rw [hs]; simp [c1, hd]) (by omega)
      · rw [if_neg hd]
        exact key _ _ (by unfold chit; rw [hs]; simp [hd]) hs
    · rw [if_neg c1]
      by_cases c2 : last = 42 ∧ r = 41
      · have hs : cstep (d, last) r = (d - 1, 32) := by unfold cstep; rw [if_neg c1, if_pos c2]
        rw [if_pos c2]
        by_cases hd : d - 1 = 0
        · rw [if_pos hd]
          exact stop (by unfold chit; rw [hs]; simp [c2, hd]) (by omega)
        · rw [if_neg hd]
          exact key _ _ (by unfold chit; rw [hs]; simp [hd]) hs
      · have hs : cstep (d, last) r = (d, r) := by unfold cstep; rw [if_neg c1, if_neg c2]
        rw [if_neg c2]
        refine key _ _ ?_ hs
        unfold chit
        rw [decide_eq_false_iff_not]
        rintro ⟨h | h, _⟩
        · exact c1 h
        · exact c2 h
def cmb (s : ByteArray) : Nat := if hasPrefix s.data.toList [40, 42] then cmp s (0, 32) 0 else 0
theorem opens_T {l : List Nat} (h : okl l) : hasPrefix (enc l) [40, 42] = opens l := pre_T (p := [40, 42]) (by decide) h
theorem cmb_T {l : List Nat} (h : okl l) : cmb (T l) = sz (l.take (cmt l)) := by
  unfold cmb cmt
  rw [T_list, opens_T h]
  cases ho : opens l
  · simp [sz_nil]
  · have k := cm_T l [] 0 32 h
    rw [List.nil_append, sz_nil] at k
    simp only [if_true]
    rw [k]
    cases cm 0 32 l with
    | none => simp [sz_nil]
    | some j => simp
end Go.Proofs.YthonaeigacfmbaaGreatDoor.B
namespace Go.Proofs.YthonaeigacfmbaaGreatDoor.B
open Go.RowKit

theorem hasPre {s p : ByteArray} {b : Bool} (h : Lib.hasPrefix s.data.toList p.data.toList = b) (w : World) :
    Calls Tryz.prog 124 #[.string s, .string p] w fun e w' => e = .returned (.bool b) ∧ w = w' :=
  (Tryz.strings_HasPrefix s p w).mono fun _ _ k => ⟨by rw [k.1, h], k.2.symm⟩
def NatPost (n : Nat) (W : World) (e : Ending) (w' : World) : Prop := e = .returned (.int .i64 (n : Int)) ∧ Below W.heap.size W w'
theorem nat_ret {n m : Nat} {W w' : World} {z : Int} (h : n = m) (hz : z = (m : Int)) (hb : Below W.heap.size W w') : NatPost n W (.returned (.int .i64 z)) w' := ⟨by rw [h, hz], hb⟩

set_option maxHeartbeats 1600000 in
set_option maxRecDepth 100000 in
theorem goesOn_any (r : Int) (n : Nat) (hr : r = (n : Int)) (w : World) : Calls Tryz.prog 184 #[.int .i32 r] w fun e w' => e = .returned (.bool (inr n)) ∧ w = w' := by
  obtain ⟨c, hc⟩ : ∃ c, inr n = c := ⟨_, rfl⟩
  have cC : ∀ W, Calls Tryz.prog 119 #[.int .i32 r] W _ := fun W => goodClass r W
  obtain ⟨k, hk⟩ : ∃ k, cls r = k := ⟨_, rfl⟩
  have hin : decide (k = 1 ∨ k = 2 ∨ r = 39) = c := by
    rw [← hc, ← hk, hr]
    unfold inr
    rw [decide_eq_decide]
    omega
  rw [hk] at cC
  rw [hc]
  have HC := Lib.hid hin
  clear hc hk hin hr
  go_enter Tryz.func184, Tryz.ntmps184
  go_wp2_with (go_at_call 119; refine (cC _).mono ?_; rintro e w' ⟨rfl, rfl⟩)
  all_goals go_ret
  all_goals
    refine ⟨ret_b (HC.out.symm.trans ?_), rfl⟩
    first
      | (rw [decide_eq_true_iff]; omega)
      | (rw [Bool.eq_iff_iff]; simp only [decide_eq_true_iff, Bool.or_eq_true, beq_iff_eq]; omega)

set_option maxHeartbeats 1600000 in
set_option maxRecDepth 100000 in
theorem isBlank_any (r : Int) (n : Nat) (hr : r = (n : Int)) (w : World) : Calls Tryz.prog 118 #[.int .i32 r] w fun e w' => e = .returned (.bool (blk n)) ∧ w = w' := by
  have cC : ∀ W, Calls Tryz.prog 119 #[.int .i32 r] W _ := fun W => goodClass r W
  obtain ⟨k, hk⟩ : ∃ k, cls r = k := ⟨_, rfl⟩
  have hin : blk n = (k == 3) := by
    rw [← hk, hr]
    rfl
  rw [hk] at cC
  have HC := Lib.hid hin
  clear hk hin hr
  go_enter Tryz.func118, Tryz.ntmps118
  go_wp2_with (go_at_call 119; refine (cC _).mono ?_; rintro e w' ⟨rfl, rfl⟩)
  all_goals go_ret
  all_goals exact ⟨ret_b HC.out, rfl⟩

set_option maxHeartbeats 1600000 in
set_option maxRecDepth 100000 in
theorem isDigit_any (r : Int) (n : Nat) (hr : r = (n : Int)) (w : World) : Calls Tryz.prog 188 #[.int .i32 r] w fun e w' => e = .returned (.bool (dig n)) ∧ w = w' := by
  have cC : ∀ W, Calls Tryz.prog 119 #[.int .i32 r] W _ := fun W => goodClass r W
  obtain ⟨k, hk⟩ : ∃ k, cls r = k := ⟨_, rfl⟩
  have hin : dig n = (k == 2) := by
    rw [← hk, hr]
    rfl
  rw [hk] at cC
  have HC := Lib.hid hin
  clear hk hin hr
  go_enter Tryz.func188, Tryz.ntmps188
  go_wp2_with (go_at_call 119; refine (cC _).mono ?_; rintro e w' ⟨rfl, rfl⟩)
  all_goals go_ret
  all_goals exact ⟨ret_b HC.out, rfl⟩

set_option maxHeartbeats 1600000 in
set_option maxRecDepth 100000 in
theorem run_isBlank (s : ByteArray) (w : World) :
    Calls Tryz.prog 117 #[.string s, .func (.func 118) #[] #[]] w (NatPost (rn blk s 0) w) := by
  obtain ⟨ANS, hans⟩ : ∃ b, rn blk s 0 = b := ⟨_, rfl⟩
  rw [hans]
  have HA := Lib.hid hans
  clear hans
  go_enter Tryz.func117, Tryz.ntmps117
  go_wp2
  have hit0 : (w.iter s 0).heap[w.heap.size]? = some (.stringIter s 0) := World.iter_heap w s 0
  have hbi : Below w.heap.size w (w.iter s 0) := (Below.refl _ _).alloc (Nat.le_refl _) _
  generalize w.iter s 0 = wq at hit0 hbi ⊢
  go_loopw [] (fun wr => ∃ p : Nat, wr.heap[w.heap.size]? = some (.stringIter s p) ∧ Below w.heap.size w wr ∧ p ≤ s.size ∧ rn blk s p = ANS) (fun wr => s.size - wr.iterPos w.heap.size)
  case atStart => exact ⟨0, hit0, hbi, Nat.zero_le _, HA.out⟩
  case round =>
    obtain ⟨p, hit, hbw, hp, hc⟩ := hrel
    have HC := Lib.hid hc
    clear hc hit0 hbi
    have hpos0 := iterPos_of hit
    by_cases hlt : p < s.size
    · have hnx : ∀ ty, (Instr.next (.pointer (some ⟨w.heap.size, 0, none⟩)) true ty).run Tryz.prog wr = _ := fun ty => Lib.run_next_any_at wr w.heap.size s p ty hit hlt
      have hw1 := dc_pos s p
      have hw2 := dc_le s p hlt
      have hit2 := Lib.iterAt_heap wr w.heap.size s p (p + (dc s p).2) hit
      have hbw2 := Lib.below_iterAt hbw (k := w.heap.size) (Nat.le_refl _) s (p + (dc s p).2)
      have HS := Lib.hid (rn_stop (f := blk) (s := s) hlt)
      have HN := Lib.hid (rn_next (f := blk) (s := s) hlt)
      obtain ⟨r, k, hrk⟩ : ∃ r k, dc s p = (r, k) := ⟨_, _, rfl⟩
      rw [show Utf8.decode s p = (r, k) from hrk] at hnx
      rw [hrk] at hw1 hw2 hit2 hbw2 HS HN
      dsimp only at hw1 hw2 hit2 hbw2 HS HN hnx
      clear hrk
      obtain ⟨W1, hW1⟩ : ∃ W1, W1 = wr.iterAt w.heap.size s (p + k) := ⟨_, rfl⟩
      rw [← hW1] at hnx hit2 hbw2
      have hpos2 := iterPos_of hit2
      have HP0 := Lib.hid hpos0
      have HP2 := Lib.hid hpos2
      have HIT := Lib.hid hit2
      clear hW1 hpos0 hpos2 hit hbw hit2
      have cR : ∀ W, Calls Tryz.prog 118 #[.int .i32 r] W _ := fun W => isBlank_any r r rfl W
      obtain ⟨b, hb⟩ : ∃ b, blk r = b := ⟨_, rfl⟩
      rw [hb] at cR
      have HB := Lib.hid hb
      clear hb
      cases b
      · go_wp2_with (go_at_call 118; refine (cR _).mono ?_; rintro e w' ⟨rfl, rfl⟩)
        go_ret
        exact nat_ret (HC.out.symm.trans (HS.out HB.out)) rfl hbw2
      · go_wp2_with (go_at_call 118; refine (cR _).mono ?_; rintro e w' ⟨rfl, rfl⟩)
        go_roundw
        case rel => exact ⟨p + k, HIT.out, hbw2, hw2, by rw [← HN.out HB.out]; exact HC.out⟩
        case measure => rw [HP0.out, HP2.out]; omega
    · have hnx : ∀ ty, (Instr.next (.pointer (some ⟨w.heap.size, 0, none⟩)) true ty).run Tryz.prog wr = _ := fun ty => Lib.run_next_end_at wr w.heap.size s p ty hit hlt
      have HE := Lib.hid (rn_end (f := blk) hlt)
      clear hpos0
      go_wp2
      go_ret
      exact nat_ret (HC.out.symm.trans HE.out) rfl hbw

set_option maxHeartbeats 1600000 in
set_option maxRecDepth 100000 in
theorem run_isDigit (s : ByteArray) (w : World) :
    Calls Tryz.prog 117 #[.string s, .func (.func 188) #[] #[]] w (NatPost (rn dig s 0) w) := by
  obtain ⟨ANS, hans⟩ : ∃ b, rn dig s 0 = b := ⟨_, rfl⟩
  rw [hans]
  have HA := Lib.hid hans
  clear hans
  go_enter Tryz.func117, Tryz.ntmps117
  go_wp2
  have hit0 : (w.iter s 0).heap[w.heap.size]? = some (.stringIter s 0) := World.iter_heap w s 0
  have hbi : Below w.heap.size w (w.iter s 0) := (Below.refl _ _).alloc (Nat.le_refl _) _
  generalize w.iter s 0 = wq at hit0 hbi ⊢
  go_loopw [] (fun wr => ∃ p : Nat, wr.heap[w.heap.size]? = some (.stringIter s p) ∧ Below w.heap.size w wr ∧ p ≤ s.size ∧ rn dig s p = ANS) (fun wr => s.size - wr.iterPos w.heap.size)
  case atStart => exact ⟨0, hit0, hbi, Nat.zero_le _, HA.out⟩
  case round =>
    obtain ⟨p, hit, hbw, hp, hc⟩ := hrel
    have HC := Lib.hid hc
    clear hc hit0 hbi
    have hpos0 := iterPos_of hit
    by_cases hlt : p < s.size
    · have hnx : ∀ ty, (Instr.next (.pointer (some ⟨w.heap.size, 0, none⟩)) true ty).run Tryz.prog wr = _ := fun ty => Lib.run_next_any_at wr w.heap.size s p ty hit hlt
      have hw1 := dc_pos s p
      have hw2 := dc_le s p hlt
      have hit2 := Lib.iterAt_heap wr w.heap.size s p (p + (dc s p).2) hit
      have hbw2 := Lib.below_iterAt hbw (k := w.heap.size) (Nat.le_refl _) s (p + (dc s p).2)
      have HS := Lib.hid (rn_stop (f := dig) (s := s) hlt)
      have HN := Lib.hid (rn_next (f := dig) (s := s) hlt)
      obtain ⟨r, k, hrk⟩ : ∃ r k, dc s p = (r, k) := ⟨_, _, rfl⟩
      rw [show Utf8.decode s p = (r, k) from hrk] at hnx
      rw [hrk] at hw1 hw2 hit2 hbw2 HS HN
      dsimp only at hw1 hw2 hit2 hbw2 HS HN hnx
      clear hrk
      obtain ⟨W1, hW1⟩ : ∃ W1, W1 = wr.iterAt w.heap.size s (p + k) := ⟨_, rfl⟩
      rw [← hW1] at hnx hit2 hbw2
      have hpos2 := iterPos_of hit2
      have HP0 := Lib.hid hpos0
      have HP2 := Lib.hid hpos2
      have HIT := Lib.hid hit2
      clear hW1 hpos0 hpos2 hit hbw hit2
      have cR : ∀ W, Calls Tryz.prog 188 #[.int .i32 r] W _ := fun W => isDigit_any r r rfl W
      obtain ⟨b, hb⟩ : ∃ b, dig r = b := ⟨_, rfl⟩
      rw [hb] at cR
      have HB := Lib.hid hb
      clear hb
      cases b
      · go_wp2_with (go_at_call 188; refine (cR _).mono ?_; rintro e w' ⟨rfl, rfl⟩)
        go_ret
        exact nat_ret (HC.out.symm.trans (HS.out HB.out)) rfl hbw2
      · go_wp2_with (go_at_call 188; refine (cR _).mono ?_; rintro e w' ⟨rfl, rfl⟩)
        go_roundw
        case rel => exact ⟨p + k, HIT.out, hbw2, hw2, by rw [← HN.out HB.out]; exact HC.out⟩
        case measure => rw [HP0.out, HP2.out]; omega
    · have hnx : ∀ ty, (Instr.next (.pointer (some ⟨w.heap.size, 0, none⟩)) true ty).run Tryz.prog wr = _ := fun ty => Lib.run_next_end_at wr w.heap.size s p ty hit hlt
      have HE := Lib.hid (rn_end (f := dig) hlt)
      clear hpos0
      go_wp2
      go_ret
      exact nat_ret (HC.out.symm.trans HE.out) rfl hbw

set_option maxHeartbeats 1600000 in
set_option maxRecDepth 100000 in
theorem run_goesOn (s : ByteArray) (w : World) :
    Calls Tryz.prog 117 #[.string s, .func (.func 184) #[] #[]] w (NatPost (rn inr s 0) w) := by
  obtain ⟨ANS, hans⟩ : ∃ b, rn inr s 0 = b := ⟨_, rfl⟩
  rw [hans]
  have HA := Lib.hid hans
  clear hans
  go_enter Tryz.func117, Tryz.ntmps117
  go_wp2
  have hit0 : (w.iter s 0).heap[w.heap.size]? = some (.stringIter s 0) := World.iter_heap w s 0
  have hbi : Below w.heap.size w (w.iter s 0) := (Below.refl _ _).alloc (Nat.le_refl _) _
  generalize w.iter s 0 = wq at hit0 hbi ⊢
  go_loopw [] (fun wr => ∃ p : Nat, wr.heap[w.heap.size]? = some (.stringIter s p) ∧ Below w.heap.size w wr ∧ p ≤ s.size ∧ rn inr s p = ANS) (fun wr => s.size - wr.iterPos w.heap.size)
  case atStart => exact ⟨0, hit0, hbi, Nat.zero_le _, HA.out⟩
  case round =>
    obtain ⟨p, hit, hbw, hp, hc⟩ := hrel
    have HC := Lib.hid hc
    clear hc hit0 hbi
    have hpos0 := iterPos_of hit
    by_cases hlt : p < s.size
    · have hnx : ∀ ty, (Instr.next (.pointer (some ⟨w.heap.size, 0, none⟩)) true ty).run Tryz.prog wr = _ := fun ty => Lib.run_next_any_at wr w.heap.size s p ty hit hlt
      have hw1 := dc_pos s p
      have hw2 := dc_le s p hlt
      have hit2 := Lib.iterAt_heap wr w.heap.size s p (p + (dc s p).2) hit
      have hbw2 := Lib.below_iterAt hbw (k := w.heap.size) (Nat.le_refl _) s (p + (dc s p).2)
      have HS := Lib.hid (rn_stop (f := inr) (s := s) hlt)
      have HN := Lib.hid (rn_next (f := inr) (s := s) hlt)
      obtain ⟨r, k, hrk⟩ : ∃ r k, dc s p = (r, k) := ⟨_, _, rfl⟩
      rw [show Utf8.decode s p = (r, k) from hrk] at hnx
      rw [hrk] at hw1 hw2 hit2 hbw2 HS HN
      dsimp only at hw1 hw2 hit2 hbw2 HS HN hnx
      clear hrk
      obtain ⟨W1, hW1⟩ : ∃ W1, W1 = wr.iterAt w.heap.size s (p + k) := ⟨_, rfl⟩
      rw [← hW1] at hnx hit2 hbw2
      have hpos2 := iterPos_of hit2
      have HP0 := Lib.hid hpos0
      have HP2 := Lib.hid hpos2
      have HIT := Lib.hid hit2
      clear hW1 hpos0 hpos2 hit hbw hit2
      have cR : ∀ W, Calls Tryz.prog 184 #[.int .i32 r] W _ := fun W => goesOn_any r r rfl W
      obtain ⟨b, hb⟩ : ∃ b, inr r = b := ⟨_, rfl⟩
      rw [hb] at cR
      have HB := Lib.hid hb
      clear hb
      cases b
      · go_wp2_with (go_at_call 184; refine (cR _).mono ?_; rintro e w' ⟨rfl, rfl⟩)
        go_ret
        exact nat_ret (HC.out.symm.trans (HS.out HB.out)) rfl hbw2
      · go_wp2_with (go_at_call 184; refine (cR _).mono ?_; rintro e w' ⟨rfl, rfl⟩)
        go_roundw
        case rel => exact ⟨p + k, HIT.out, hbw2, hw2, by rw [← HN.out HB.out]; exact HC.out⟩
        case measure => rw [HP0.out, HP2.out]; omega
    · have hnx : ∀ ty, (Instr.next (.pointer (some ⟨w.heap.size, 0, none⟩)) true ty).run Tryz.prog wr = _ := fun ty => Lib.run_next_end_at wr w.heap.size s p ty hit hlt
      have HE := Lib.hid (rn_end (f := inr) hlt)
      clear hpos0
      go_wp2
      go_ret
      exact nat_ret (HC.out.symm.trans HE.out) rfl hbw
end Go.Proofs.YthonaeigacfmbaaGreatDoor.B
