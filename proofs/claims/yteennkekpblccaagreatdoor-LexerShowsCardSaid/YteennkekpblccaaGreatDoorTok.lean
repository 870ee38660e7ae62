/-
  Lists of tokens held against one another; the law's helper works.
-/
import Derived.Test.YteennkekpblccaaGreatDoorLexI
namespace Go.Proofs.YteennkekpblccaaGreatDoor
open Go.RowKit

theorem addAdd (a : Addr) (i j : Nat) : (a.add i).add j = a.add (i + j) := by
  by_cases hi : i = 0
  · subst hi
    have e : a.add 0 = a := by simp [Addr.add]
    rw [e, Nat.zero_add]
  · by_cases hj : j = 0
    · subst hj
      have e : ∀ b : Addr, b.add 0 = b := fun b => by simp [Addr.add]
      rw [e, Nat.add_zero]
    · unfold Addr.add
      simp [hi, hj, Nat.add_assoc]
/-- A token's cells, from address b on, as the walk spells them. -/
def TokAt (w : World) (b : Addr) (K : Int) (X : ByteArray) (M P : Int) : Prop :=
  w.cell? b = some (.int .i64 K) ∧ w.cell? ⟨b.block, b.off + 1, none⟩ = some (.string X) ∧ w.cell? ⟨b.block, b.off + 2, none⟩ = some (.int .i64 M) ∧ w.cell? ⟨b.block, b.off + 3, none⟩ = some (.int .i64 P)
theorem Tks.at_ {w : World} {B : Nat} {A : Option Addr} {n c : Nat} {l : List (Tok × Nat)} (h : Tks w B (.slice A n c) l) {k : Nat} {x : Tok × Nat} (hx : l[k]? = some x) :
    ∃ ad, A = some ad ∧ ad.block < B ∧ TokAt w (ad.add (k * 4)) x.1.k (T x.1.x) x.1.n ((x.2 : Nat) : Int) := by
  obtain ⟨A', c', hv, hc⟩ := h
  obtain ⟨ad, hA, hlt, hcell⟩ := hc k x hx
  injection hv with h1 h2 h3
  refine ⟨ad, by rw [h1, hA], hlt, hcell 0 _ rfl, ?_, ?_, ?_⟩
  · have := hcell 1 _ rfl
    rw [← addAdd] at this
    exact this
  · have := hcell 2 _ rfl
    rw [← addAdd] at this
    exact this
  · have := hcell 3 _ rfl
    rw [← addAdd] at this
    exact this
theorem Tks.len {w : World} {B : Nat} {A : Option Addr} {n c : Nat} {l : List (Tok × Nat)} (h : Tks w B (.slice A n c) l) : n = l.length := by
  obtain ⟨A', c', hv, hc⟩ := h
  injection hv
theorem Tks.form {w : World} {B : Nat} {v : Value} {l : List (Tok × Nat)} (h : Tks w B v l) : ∃ A c, v = .slice A l.length c := by
  obtain ⟨A', c', hv, hc⟩ := h
  exact ⟨A', c', hv⟩
def Yes (W : World) (e : Ending) (w' : World) : Prop := e = .returned (.bool true) ∧ Below W.heap.size W w'
theorem yes_drew {w : World} {q : Nat} : Yes w (.returned (.bool true)) (w.drewN q) := ⟨rfl, below_drewN' (Below.refl _ _) q⟩

set_option maxHeartbeats 3200000 in
set_option maxRecDepth 100000 in
theorem same_self {B B' : Nat} {v v' : Value} {l : List (Tok × Nat)} (w : World) (h : Tks w B v l) (h' : Tks w B' v' l) (hl : l.length ≤ 1000000000) :
    Calls Tryz.prog 15 #[v, v'] w (Yes w) := by
  obtain ⟨A, c, rfl⟩ := h.form
  obtain ⟨A', c', rfl⟩ := h'.form
  have H1 := Lib.hid h
  have H2 := Lib.hid h'
  clear h h'
  obtain ⟨n, hn⟩ : ∃ n, l.length = n := ⟨_, rfl⟩
  rw [hn] at hl ⊢
  have HN := Lib.hid hn
  clear hn
  go_enter Tryz.func15, Tryz.ntmps15
  go_wp2
  go_loopw [5] (fun i wr => ∃ k : Nat, i = .int .i64 k ∧ k ≤ n ∧ ∃ q, wr = w.drewN q) (fun i _ => n - (intOf i).toNat)
  case atStart => exact ⟨0, rfl, Nat.zero_le _, 0, rfl⟩
  case round =>
    obtain ⟨k, rfl, hk, q, rfl⟩ := hrel
    by_cases hlt : k < n
    · obtain ⟨x, hx⟩ : ∃ x, l[k]? = some x := ⟨_, List.getElem?_eq_getElem (by rw [HN.out]; exact hlt)⟩
      obtain ⟨a1, rfl, _, hc1⟩ := H1.out.at_ hx
      obtain ⟨a2, rfl, _, hc2⟩ := H2.out.at_ hx
      have HX := Lib.hid hx
      clear hx
      have hlz : (k : Int) < (n : Int) := by omega
      generalize x.1.k = K at hc1 hc2
      generalize T x.1.x = X at hc1 hc2
      generalize x.1.n = M at hc1 hc2
      generalize ((x.2 : Nat) : Int) = P at hc1 hc2
      obtain ⟨p0, p1, p2, p3⟩ := hc1
      obtain ⟨q0, q1, q2, q3⟩ := hc2
      go_wp2
      go_quiet (fail)
      go_wp2
      go_roundw
      case rel => exact ⟨k + 1, by go_num, hlt, _, rfl⟩
      case measure => simp [intOf]; omega
    · have hlz : ¬ (k : Int) < (n : Int) := by omega
      go_wp2
      go_ret
      exact yes_drew

/-! ### the chapter's example -/
theorem tks_lit {w : World} {B g c : Nat} {l : List (Tok × Nat)} {t : TypeId} {z : Nat × Nat} (h : w.heap[g]? = some (.cells (tcel l).toArray t z)) (hg : g < B) : Tks w B (.slice (some ⟨g, 0, none⟩) l.length c) l := by
  refine ⟨_, c, rfl, fun j x hx => ⟨_, rfl, hg, fun i u hu => ?_⟩⟩
  have e : (⟨g, 0, none⟩ : Addr).add (j * 4 + i) = ⟨g, j * 4 + i, none⟩ := by unfold Addr.add; split <;> simp_all
  rw [e, cell_of_row _ _ _ _ _ _ h]
  simpa using tcel_at hx hu
def exL : List (Tok × Nat) := [(⟨1, [97, 46, 98], 0⟩, 0), (⟨3, [61, 62], 0⟩, 3), (⟨2, numb (-7), -7⟩, 5)]
theorem ex_lex : lexR ⟨#[97, 46, 98, 61, 62, 126, 48, 55]⟩ = (exL, 0, 0) := by kernel_rfl
theorem numb7 : numb (-7) = [126, 55] := by
  unfold numb dgs
  rw [if_pos (by omega), show (-7 : Int).natAbs = 7 from rfl, Lib.decDigits_one (by omega)]
  rfl
theorem ex_cells : (tcel exL).toArray = #[.int .i64 1, .string ⟨#[97, 46, 98]⟩, .int .i64 0, .int .i64 0, .int .i64 3, .string ⟨#[61, 62]⟩, .int .i64 0, .int .i64 3, .int .i64 2, .string ⟨#[126, 55]⟩, .int .i64 (-7), .int .i64 5] := by
  unfold exL
  rw [numb7]
  kernel_rfl

set_option maxHeartbeats 3200000 in
set_option maxRecDepth 100000 in
theorem works_any (w : World) (hL : Lx w) : Calls Tryz.prog 8 #[] w (Yes w) := by
  have cL := lex_any ⟨#[97, 46, 98, 61, 62, 126, 48, 55]⟩ (by decide) w hL
  rw [ex_lex] at cL
  go_enter Tryz.func8, Tryz.ntmps8
  go_wp2_with fail
  refine cL.mono ?_
  rintro e w1 ⟨v, rfl, ht, hb1⟩
  have HT := Lib.hid ht
  clear ht
  go_wp2_with fail
  rw [← ex_cells]
  have hb2 : Below w1.heap.size w1 (w1.alloc (.cells (tcel exL).toArray 24)) := (Below.refl _ _).alloc (Nat.le_refl _) _
  refine (same_self _ (HT.out.below hb2) (tks_lit (B := w1.heap.size + 1) (heap_alloc_new w1 _) (by omega)) (by decide)).mono ?_
  rintro e w2 ⟨rfl, hb3⟩
  have hfin := chn (chn hb1 hb2) hb3
  go_wp2
  go_ret
  exact ⟨rfl, hfin⟩

theorem Rc.newc (w : World) (cs : Array Value) : Rc (w.alloc (.cells cs 24)) w.heap.size cs := heap_alloc_new w _
theorem TokAt.below {w w' : World} {B : Nat} {b : Addr} {K : Int} {X : ByteArray} {M P : Int} (h : TokAt w b K X M P) (hb : Below B w w') (hlt : b.block < B) : TokAt w' b K X M P :=
  ⟨(hb.cell hlt).trans h.1, (hb.cell (p := ⟨b.block, b.off + 1, none⟩) hlt).trans h.2.1, (hb.cell (p := ⟨b.block, b.off + 2, none⟩) hlt).trans h.2.2.1, (hb.cell (p := ⟨b.block, b.off + 3, none⟩) hlt).trans h.2.2.2⟩
end Go.Proofs.YteennkekpblccaaGreatDoor
