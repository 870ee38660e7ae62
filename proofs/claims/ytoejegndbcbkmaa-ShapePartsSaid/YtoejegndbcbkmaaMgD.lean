/-
  Words for the walks of layers 1 and 2: small lemmas; what Check and Name leave.
-/
import Derived.Test.YtoejegndbcbkmaaMgB
import Derived.Test.YtoejegndbcbkmaaShelf
import Derived.BigQuiet
import Derived.Deep.AppendLies
import Derived.Deep.DeepMust
import Derived.Deep.QuietTactic
import Derived.Laws.Rows
import Derived.Lib.Hide
import Derived.Lib.LaidTab
import Derived.Lib.OthersKept
import Derived.Outline
import Derived.OwnWalk
import Derived.Test.YtoejegndbcbkmaaRows
import Derived.WalkKit
import Derived.WalkLawsBesides
import Derived.WalkSmall
import Derived.WalkSpells
namespace Go.Proofs.Ytoejegndbcbkmaa.B
open Go.RowKit

theorem addBlock (a : Addr) (n : Nat) : (a.add n).block = a.block := by unfold Addr.add; split <;> rfl
theorem chn {w w1 w2 : World} (h : Below w.heap.size w w1) (h' : Below w1.heap.size w1 w2) : Below w.heap.size w w2 := h.trans (h'.mono h.size)
/-- A row that the call owns is no iterator. -/
theorem own_ne_iter {w : World} {base : Nat} {e : TypeId} {size : Nat} {v : Value} {n : Nat} {xs : List Value} {b p : Nat} {s : ByteArray} (h : w.ownsRow base e size v n xs) (hb : w.heap[b]? = some (.stringIter s p)) :
    ∀ g, v.ownBlock = some g → g ≠ b := by
  rintro g hg rfl
  rcases h.2 with ⟨rfl, _⟩ | ⟨g', cap, cur, rfl, _, hh, _⟩
  · simp [Value.ownBlock] at hg
  · simp [Value.ownBlock] at hg
    subst hg
    rw [hh] at hb
    cases hb
theorem own_iterAt {w : World} {base : Nat} {e : TypeId} {size : Nat} {v : Value} {n : Nat} {xs : List Value} {b p : Nat} {s : ByteArray} (h : w.ownsRow base e size v n xs) (hb : w.heap[b]? = some (.stringIter s p)) (p' : Nat) :
    (w.iterAt b s p').ownsRow base e size v n xs := by
  have hne := own_ne_iter h hb
  refine ⟨h.1, ?_⟩
  rcases h.2 with h2 | ⟨g, cap, cur, hv, hbg, hh, d⟩
  · exact .inl h2
  · exact .inr ⟨g, cap, cur, hv, hbg, by rw [Lib.iterAt_other _ _ _ _ _ (hne g (by rw [hv]; rfl))]; exact hh, d⟩
theorem i64_eq {a b : Int} (h : a = b) : Value.int .i64 a = .int .i64 b := by rw [h]
theorem i32_eq {a b : Int} (h : a = b) : Value.int .i32 a = .int .i32 b := by rw [h]
theorem ret_i64 {a b : Int} (h : a = b) : Ending.returned (.int .i64 b) = .returned (.int .i64 a) := by rw [h]
theorem ret_b {a b : Bool} (h : a = b) : Ending.returned (.bool b) = .returned (.bool a) := by rw [h]
theorem below_drewN' {B : Nat} {a w : World} (h : Below B a w) (n : Nat) : Below B a (w.drewN n) := h.trans ⟨rfl, rfl, rfl, Nat.le_refl _, fun _ _ => rfl⟩
def CkPost (s : ByteArray) (w : World) (e : Ending) (w' : World) : Prop :=
  e = .returned (.tuple #[.int .i64 (if 16384 < s.size then (0, 3) else ck s 0).1, .int .i64 (if 16384 < s.size then ((0 : Int), (3 : Int)) else ck s 0).2]) ∧ Below w.heap.size w w'
theorem ck_long {s : ByteArray} {w w' : World} (h : 16384 < s.size) (hb : Below w.heap.size w w') : CkPost s w (.returned (.tuple #[.int .i64 0, .int .i64 3])) w' := by
  unfold CkPost
  exact ⟨by simp only [if_pos h], hb⟩
theorem ck_ret {s : ByteArray} {w w' : World} {a b : Int} (h : ¬ 16384 < s.size) (hc : ck s 0 = (a, b)) (hb : Below w.heap.size w w') : CkPost s w (.returned (.tuple #[.int .i64 a, .int .i64 b])) w' := by
  unfold CkPost
  exact ⟨by simp only [if_neg h, hc], hb⟩
/-! ### Name -/
def NmPost (b : Bool) (W : World) (e : Ending) (w' : World) : Prop := e = .returned (.bool b) ∧ Below W.heap.size W w'
theorem mst_true {r c : Int} {f : Bool} (hc : cls r = c) (h : c = 1 ∨ ((c = 2 ∨ r = 39) ∧ f = false)) : mst r f = true := by
  unfold mst
  rw [hc]
  rcases h with h | ⟨h, hf⟩
  · simp [h]
  · simp [h, hf]
theorem mst_false {r c : Int} {f : Bool} (hc : cls r = c) (h : c ≠ 1 ∧ (f = true ∨ (c ≠ 2 ∧ r ≠ 39))) : mst r f = false := by
  unfold mst
  rw [hc]
  obtain ⟨h1, h2⟩ := h
  rcases h2 with hf | ⟨h2, h3⟩
  · simp [h1, hf]
  · simp [h1, h2, h3]
theorem ret_s {a b : ByteArray} (h : a = b) : Ending.returned (.string b) = .returned (.string a) := by rw [h]
theorem extract_all (s : ByteArray) : s.extract 0 s.size = s := by
  apply ByteArray.ext
  apply Array.ext'
  rw [Lib.extract_data]
  rw [Nat.sub_zero, List.drop_zero, Lib.size_eq]
  exact List.take_length
end Go.Proofs.Ytoejegndbcbkmaa.B
/-
  Layer 1, as far as layer 2 stands on it: Class, readable, Check, mayStand, Name: what they tell.
-/
namespace Go.Proofs.Ytoejegndbcbkmaa.B
open Go.RowKit

set_option maxHeartbeats 1600000 in
set_option maxRecDepth 100000 in
/-- The program's own Class. -/
theorem goodClass (r : Int) (w : World) : Calls Try.prog 91 #[.int .i32 r] w fun e w' => e = .returned (.int .i64 (cls r)) ∧ w = w' := by
  obtain ⟨c, hc⟩ : ∃ c, cls r = c := ⟨_, rfl⟩
  obtain ⟨b, hb⟩ : ∃ b, Lib.validRune r = b := ⟨_, rfl⟩
  have hb' : b = true ↔ ((0 ≤ r ∧ r < 55296) ∨ (57343 < r ∧ r ≤ 1114111)) := by rw [← hb]; simp [Lib.validRune]
  have cV : ∀ W, Calls Try.prog 94 #[.int .i32 r] W _ := fun W => Try.utf8_ValidRune r W
  rw [hb] at cV
  rw [hc]
  have HC := Lib.hid hc
  have HB := Lib.hid hb'
  clear hc hb hb'
  cases b
  all_goals
    go_enter Try.func91, Try.ntmps91
    go_wp2_with (go_at_call 94; refine (cV _).mono ?_; rintro e w' ⟨rfl, rfl⟩)
    all_goals go_ret
    all_goals
      refine ⟨ret_i64 (HC.out.symm.trans (cls_is r _ ?_)), rfl⟩
      have hB := HB.out
      simp only [beq_iff_eq, beq_eq_false_iff_ne, ne_eq, and_true, Bool.false_eq_true, false_iff, true_iff] at *
      omega

set_option maxHeartbeats 1600000 in
set_option maxRecDepth 100000 in
theorem mayStand_any (r : Int) (b : Bool) (w : World) :
    Calls Try.prog 84 #[.int .i32 r, .bool b] w fun e w' => e = .returned (.bool (mst r b)) ∧ w = w' := by
  have cC : ∀ W, Calls Try.prog 91 #[.int .i32 r] W _ := fun W => goodClass r W
  obtain ⟨k, hk⟩ : ∃ k, cls r = k := ⟨_, rfl⟩
  rw [hk] at cC
  have HT : Hid (∀ f, (k = 1 ∨ ((k = 2 ∨ r = 39) ∧ f = false)) → mst r f = true) := Lib.hid fun f h => mst_true hk h
  have HF : Hid (∀ f, (k ≠ 1 ∧ (f = true ∨ (k ≠ 2 ∧ r ≠ 39))) → mst r f = false) := Lib.hid fun f h => mst_false hk h
  clear hk
  obtain ⟨c, hc⟩ : ∃ c, mst r b = c := ⟨_, rfl⟩
  rw [hc]
  have HC := Lib.hid hc
  clear hc
  cases b
  all_goals
    go_enter Try.func84, Try.ntmps84
    go_wp2_with (go_at_call 91; refine (cC _).mono ?_; rintro e w' ⟨rfl, rfl⟩)
    all_goals go_ret
    all_goals
      refine ⟨ret_b (HC.out.symm.trans ?_), rfl⟩
      first
        | exact HT.out _ (by simp only [beq_iff_eq, beq_eq_false_iff_ne, ne_eq, and_true] at *; omega)
        | exact HF.out _ (by simp only [beq_iff_eq, beq_eq_false_iff_ne, ne_eq, true_or, and_true] at *; omega)
        | trace_state

set_option maxHeartbeats 1600000 in
set_option maxRecDepth 100000 in
theorem goodName (s : ByteArray) (w : World) (hs : s.size ≤ 1000000000) :
    Calls Try.prog 76 #[.string s] w (NmPost (nm s) w) := by
  obtain ⟨ANS, hans⟩ : ∃ b, nm s = b := ⟨_, rfl⟩
  rw [hans]
  by_cases hsz : 1 ≤ s.size ∧ s.size ≤ 32
  · have HA := Lib.hid (hans.symm.trans (nm_of hsz))
    clear hans
    obtain ⟨h1, h2⟩ := hsz
    have hz2 : ¬ (32 : Int) < (s.size : Int) := by omega
    have hne : ¬ s.toList = [] := by
      intro e
      have h3 := Lib.size_eq s
      rw [← Lib.toList_data, e] at h3
      have h4 : ([] : List UInt8).length = 0 := rfl
      omega
    have hne2 : s.toList.isEmpty = false := by cases h : s.toList with
      | nil => exact absurd h hne
      | cons a t => rfl
    go_enter Try.func76, Try.ntmps76
    go_wp2
    have hit0 : (w.iter s 0).heap[w.heap.size]? = some (.stringIter s 0) := World.iter_heap w s 0
    have hbi : Below w.heap.size w (w.iter s 0) := (Below.refl _ _).alloc (Nat.le_refl _) _
    generalize w.iter s 0 = wq at hit0 hbi ⊢
    go_loopw [] (fun wr => ∃ (p : Nat), wr.heap[w.heap.size]? = some (.stringIter s p) ∧ Below w.heap.size w wr ∧ p ≤ s.size ∧ nmF s p = nmF s 0) (fun wr => s.size - wr.iterPos w.heap.size)
    case atStart => exact ⟨0, hit0, hbi, Nat.zero_le _, rfl⟩
    case round =>
      obtain ⟨p, hit, hbw, hp, hct⟩ := hrel
      have HC := Lib.hid hct
      clear hct hit0 hbi
      have hpos0 := iterPos_of hit
      by_cases hlt : p < s.size
      · have hnx : ∀ ty, (Instr.next (.pointer (some ⟨w.heap.size, 0, none⟩)) true ty).run Try.prog wr = _ := fun ty => Lib.run_next_any_at wr w.heap.size s p ty hit hlt
        have hw1 := dc_pos s p
        have hw2 := dc_le s p hlt
        have hit2 := Lib.iterAt_heap wr w.heap.size s p (p + (dc s p).2) hit
        have hbw2 := Lib.below_iterAt hbw (k := w.heap.size) (Nat.le_refl _) s (p + (dc s p).2)
        have HS := Lib.hid (nm_stop (s := s) hlt)
        have HN := Lib.hid (nm_next (s := s) hlt)
        obtain ⟨r, k, hrk⟩ : ∃ r k, dc s p = (r, k) := ⟨_, _, rfl⟩
        rw [show Utf8.decode s p = (r, k) from hrk] at hnx
        rw [hrk] at hw1 hw2 hit2 hbw2 HS HN
        dsimp only at hw1 hw2 hit2 hbw2 HS HN hnx
        clear hrk
        obtain ⟨W1, hW1⟩ : ∃ W1, W1 = wr.iterAt w.heap.size s (p + k) := ⟨_, rfl⟩
        rw [← hW1] at hnx hit2 hbw2
        have hpos2 := iterPos_of hit2
        have HP0 := Lib.hid hpos0
        have HP2 := Lib.hid hpos2
        have HIT := Lib.hid hit2
        clear hW1 hpos0 hpos2 hit hbw hit2
        obtain ⟨f0, hf0⟩ : ∃ f0, decide (p = 0) = f0 := ⟨_, rfl⟩
        rw [hf0] at HS HN
        have hf : ((p : Int) == 0) = f0 := by
          rw [← hf0, Bool.eq_iff_iff, beq_iff_eq, decide_eq_true_eq]
          omega
        clear hf0
        have cR : ∀ W, Calls Try.prog 84 #[.int .i32 r, .bool f0] W _ := fun W => mayStand_any r f0 W
        obtain ⟨b, hb⟩ : ∃ b, mst r f0 = b := ⟨_, rfl⟩
        rw [hb] at cR
        have HB := Lib.hid hb
        clear hb
        cases b
        · go_wp2_with (go_at_call 84; refine (cR _).mono ?_; rintro e w' ⟨rfl, rfl⟩)
          go_ret
          exact ⟨ret_b (by rw [HA.out, ← HC.out]; exact HS.out HB.out), hbw2⟩
        · go_wp2_with (go_at_call 84; refine (cR _).mono ?_; rintro e w' ⟨rfl, rfl⟩)
          go_roundw
          case rel => exact ⟨p + k, HIT.out, hbw2, hw2, by rw [← HN.out HB.out]; exact HC.out⟩
          case measure => rw [HP0.out, HP2.out]; omega
      · have hnx : ∀ ty, (Instr.next (.pointer (some ⟨w.heap.size, 0, none⟩)) true ty).run Try.prog wr = _ := fun ty => Lib.run_next_end_at wr w.heap.size s p ty hit hlt
        have HE := Lib.hid (nm_end hlt)
        clear hpos0
        go_wp2
        go_ret
        exact ⟨ret_b (by rw [HA.out, ← HC.out]; exact HE.out), hbw⟩
  · have HA := Lib.hid (hans.symm.trans (nm_size hsz))
    clear hans
    rcases (show s.size = 0 ∨ (1 ≤ s.size ∧ 32 < s.size) by omega) with h0 | ⟨h1, h2⟩
    · have hne : s.toList = [] := by
        rw [Lib.toList_data]
        exact List.eq_nil_of_length_eq_zero (by rw [← Lib.size_eq]; exact h0)
      have hne2 : s.toList.isEmpty = true := by rw [hne]; rfl
      clear h0 hsz
      go_enter Try.func76, Try.ntmps76
      go_wp2
      go_ret
      exact ⟨ret_b HA.out, Below.refl _ _⟩
    · have hne : ¬ s.toList = [] := by
        intro e
        have h3 := Lib.size_eq s
        rw [← Lib.toList_data, e] at h3
        have h4 : ([] : List UInt8).length = 0 := rfl
        omega
      have hne2 : s.toList.isEmpty = false := by cases h : s.toList with
        | nil => exact absurd h hne
        | cons a t => rfl
      have hz2 : (32 : Int) < (s.size : Int) := by omega
      clear hsz
      go_enter Try.func76, Try.ntmps76
      go_wp2
      go_ret
      exact ⟨ret_b HA.out, Below.refl _ _⟩
end Go.Proofs.Ytoejegndbcbkmaa.B
/-
  The lexer's Word: what it tells of any text.
-/
namespace Go.Proofs.Ytoejegndbcbkmaa.B
open Go.RowKit


def wrdL (b : List UInt8) : Bool := (b == [118, 97, 108]) || (b == [116, 121, 112, 101]) || (b == [100, 97, 116, 97, 116, 121, 112, 101]) || (b == [115, 116, 114, 117, 99, 116, 117, 114, 101]) || (b == [115, 105, 103, 110, 97, 116, 117, 114, 101]) || (b == [102, 117, 110, 99, 116, 111, 114]) || (b == [111, 112, 101, 110]) || (b == [105, 110, 99, 108, 117, 100, 101]) || (b == [115, 116, 114, 117, 99, 116]) || (b == [101, 110, 100]) || (b == [115, 105, 103]) || (b == [119, 104, 101, 114, 101]) || (b == [115, 104, 97, 114, 105, 110, 103]) || (b == [102, 110]) || (b == [108, 101, 116]) || (b == [105, 110]) || (b == [105, 102]) || (b == [116, 104, 101, 110]) || (b == [101, 108, 115, 101]) || (b == [99, 97, 115, 101]) || (b == [102, 111, 108, 100]) || (b == [111, 102]) || (b == [116, 111]) || (b == [105, 110, 116]) || (b == [98, 111, 111, 108]) || (b == [117, 110, 105, 116]) || (b == [116, 114, 117, 101]) || (b == [102, 97, 108, 115, 101]) || (b == [109, 117])
theorem wrd_L (s : ByteArray) : wrd s = wrdL s.toList := by
  have e : ∀ x : List Nat, (∀ r ∈ x, r < 128) → decide (s = T x) = (s.toList == u8 x) := by
    intro x hx
    rw [Lib.toList_data, Bool.eq_iff_iff, decide_eq_true_iff, beq_iff_eq, ← enc_ascii hx]
    exact ⟨fun h => by rw [h]; rfl, fun h => ba_ext h⟩
  have k : WORDS.any (fun x => decide (s = T x)) = WORDS.any (fun x => s.toList == u8 x) := by
    have hW : ∀ x ∈ WORDS, ∀ r ∈ x, r < 128 := by decide
    rw [Bool.eq_iff_iff, List.any_eq_true, List.any_eq_true]
    exact ⟨fun ⟨x, h1, h2⟩ => ⟨x, h1, by rw [← e x (hW x h1)]; exact h2⟩, fun ⟨x, h1, h2⟩ => ⟨x, h1, by rw [e x (hW x h1)]; exact h2⟩⟩
  unfold wrd
  rw [k]
  simp only [WORDS, List.any_cons, List.any_nil, Bool.or_false, u8, List.map_cons, List.map_nil, wrdL, Bool.or_assoc]
  rfl

set_option maxHeartbeats 6400000 in
set_option maxRecDepth 100000 in
theorem word_any (s : ByteArray) (w : World) :
    Calls Try.prog 77 #[.string s] w fun e w' => e = .returned (.bool (wrd s)) ∧ w = w' := by
  rw [wrd_L]
  obtain ⟨ANS, hans⟩ : ∃ b, wrdL s.toList = b := ⟨_, rfl⟩
  rw [hans]
  have HA := Lib.hid hans
  clear hans
  go_enter Try.func77, Try.ntmps77
  go_wp2
  all_goals first
    | (exfalso; simp_all; done)
    | (go_ret
       refine ⟨ret_b (HA.out.symm.trans ?_), rfl⟩
       unfold wrdL
       simp only [*, Bool.true_or, Bool.or_true, Bool.or_self])
end Go.Proofs.Ytoejegndbcbkmaa.B
/-
  What the library's variables hold that the road of names comes to.
-/
namespace Go.Proofs.Ytoejegndbcbkmaa.B
open Go.RowKit

theorem cell_lt {w : World} {a : Addr} {v : Value} (h : w.cell? a = some v) : a.block < w.heap.size := by
  rcases Nat.lt_or_ge a.block w.heap.size with h' | h'
  · exact h'
  · simp [World.cell?, Array.getElem?_eq_none h'] at h
theorem cell_below {w w' : World} {a : Addr} {v : Value} (h : w.cell? a = some v) (hb : Below w.heap.size w w') : w'.cell? a = some v := (hb.cell (cell_lt h)).trans h
theorem heap_lt {w : World} {g : Nat} {o : Obj} (h : w.heap[g]? = some o) : g < w.heap.size := by
  rcases Nat.lt_or_ge g w.heap.size with h' | h'
  · exact h'
  · rw [Array.getElem?_eq_none h'] at h; cases h
theorem heap_below {w w' : World} {g : Nat} {o : Obj} (h : w.heap[g]? = some o) (hb : Below w.heap.size w w') : w'.heap[g]? = some o := (hb.block g (heap_lt h)).trans h
theorem tab_below {w w' : World} {name : String} {k : IntKind} {zs : List Int} {g : Nat} (hg : Try.prog.globalNamed name = some g) (h : Lib.TabIs Try.prog w name k zs) (hb : Below w.heap.size w w') : Lib.TabIs Try.prog w' name k zs := by
  unfold Lib.TabIs World.var? at h ⊢
  rw [hg] at h ⊢
  simp only [Option.bind_some] at h ⊢
  cases ho : w.heap[g]? with
  | none => rw [ho] at h; cases h
  | some o => rw [heap_below ho hb, ← ho]; exact h
/-- What the variables that names come to hold (no number is written on the road of this program). -/
def Nx (w : World) : Prop := True ∧ ∃ m, w.cell? ⟨0, 0, none⟩ = some (.int .i64 m)
theorem Nx.below {w w' : World} (h : Nx w) (hb : Below w.heap.size w w') : Nx w' := by
  obtain ⟨-, m, h2⟩ := h
  exact ⟨trivial, m, cell_below h2 hb⟩
end Go.Proofs.Ytoejegndbcbkmaa.B
