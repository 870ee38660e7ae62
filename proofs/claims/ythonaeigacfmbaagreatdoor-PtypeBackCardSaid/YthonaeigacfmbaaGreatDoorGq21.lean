/-
  The parser that layers share: Look, Pick, Named; Between (written by gpte.py).
-/
import Derived.Test.YthonaeigacfmbaaGreatDoorGq20
import Derived.LoopIn
import Derived.LoopNIn
import Derived.OwnWalkIn
import Derived.RangeFuncBound
import Derived.RangeFuncBox
import Derived.RangeFuncCalls
import Derived.RangeFuncLeaves
import Derived.RangeFuncNested
import Derived.Shelf.Abstract
import Derived.TacticsInMore
namespace Go.Proofs.YthonaeigacfmbaaGreatDoor
open Go.RowKit

def nmS (o : Option ByteArray) (e : Int) : ByteArray := if e = 0 then o.getD nob else nob
def nmI (o : Option ByteArray) (i : Nat) (e : Int) : Nat := if e = 0 then (match o with | some _ => i + 1 | none => i) else i
def nmE (o : Option ByteArray) (e : Int) : Int := if e = 0 then (match o with | some _ => 0 | none => 6) else e
def NmP (b : Nat) (v : Value) (s : ByteArray) (i : Nat) (e : Int) (w : World) (en : Ending) (w' : World) : Prop := en = .returned (.string s) ∧ Gs (On b) w w' ∧ Psr w' b v i e
def AnP (x : Value) (d : Bool) (w : World) (en : Ending) (w' : World) : Prop := en = .returned (.tuple #[x, .bool d]) ∧ Up w w'
set_option maxHeartbeats 6400000 in
set_option maxRecDepth 100000 in
theorem look_N (b : Nat) (v : Value) (i : Nat) (e : Int) (x : Value) (d : Bool) (w : World) (cS : ∀ w', Up w w' → Calls Tryz.prog 20 #[v, .int .i64 (i : Int)] w' (AnP x d w')) (h : Psr w b v i e) :
    Calls Tryz.prog 91 #[.pointer (some ⟨b, 0, none⟩), .func (.func 20) #[] #[]] w (AnP (if e = 0 then x else .string nob) (decide (e = 0) && d) w) := by
  obtain ⟨c0, c1, c2, f1, f2⟩ := h.cells
  have hb : b < w.heap.size := heap_lt h
  clear h f1 f2
  by_cases he : e = 0
  · subst he
    have c0u : ∀ u : Upw w, u.w.cell? ⟨b, 0, none⟩ = some v := Upw.cell c0
    have c1u : ∀ u : Upw w, u.w.cell? ⟨b, 1, none⟩ = some (.int .i64 (i : Int)) := Upw.cell c1
    have CK : ∀ u : Upw w, Calls Tryz.prog 20 #[v, .int .i64 (i : Int)] u.w fun e w' => e = .returned (.tuple #[x, .bool d]) ∧ Up w w' := fun u => (cS u.w u.h).mono fun e w' ⟨h1, h2⟩ => ⟨h1, u.h.trans h2⟩
    have HK := Lib.hid CK
    have U0 := Lib.hid (Up.refl w)
    have HD : Hid ((decide ((0 : Int) = 0) && d) = d) := Lib.hid (by rw [decide_eq_true rfl, Bool.true_and])
    rw [if_pos rfl, HD.out]
    clear CK cS c0 c1
    go_enter Tryz.func91, Tryz.ntmps91
    go_wp2_with fail
    refine wp_region_up (W := w) U0.out (by kernel_rfl) (by kernel_rfl) ?_
    repeat (go_big_quiet_step (first
      | (go_at_call 20; exact Calls.upw (HK.out _))))
    refine wpQuiet_nil ?_
    rintro _ ⟨⟨w9, u9⟩, rfl⟩
    go_wp2_with fail
    go_ret2
    exact ⟨rfl, u9⟩
  · have HD : Hid ((decide (e = 0) && d) = false) := Lib.hid (by rw [decide_eq_false he, Bool.false_and])
    rw [if_neg he, HD.out]
    clear cS c0 c1
    go_enter Tryz.func91, Tryz.ntmps91
    go_wp2_with fail
    go_ret2
    exact ⟨rfl, Up.refl _⟩
set_option maxHeartbeats 6400000 in
set_option maxRecDepth 100000 in
theorem look_L (b : Nat) (v : Value) (i : Nat) (e : Int) (x : Value) (d : Bool) (w : World) (cS : ∀ w', Up w w' → Calls Tryz.prog 22 #[v, .int .i64 (i : Int)] w' (AnP x d w')) (h : Psr w b v i e) :
    Calls Tryz.prog 91 #[.pointer (some ⟨b, 0, none⟩), .func (.func 22) #[] #[]] w (AnP (if e = 0 then x else .string nob) (decide (e = 0) && d) w) := by
  obtain ⟨c0, c1, c2, f1, f2⟩ := h.cells
  have hb : b < w.heap.size := heap_lt h
  clear h f1 f2
  by_cases he : e = 0
  · subst he
    have c0u : ∀ u : Upw w, u.w.cell? ⟨b, 0, none⟩ = some v := Upw.cell c0
    have c1u : ∀ u : Upw w, u.w.cell? ⟨b, 1, none⟩ = some (.int .i64 (i : Int)) := Upw.cell c1
    have CK : ∀ u : Upw w, Calls Tryz.prog 22 #[v, .int .i64 (i : Int)] u.w fun e w' => e = .returned (.tuple #[x, .bool d]) ∧ Up w w' := fun u => (cS u.w u.h).mono fun e w' ⟨h1, h2⟩ => ⟨h1, u.h.trans h2⟩
    have HK := Lib.hid CK
    have U0 := Lib.hid (Up.refl w)
    have HD : Hid ((decide ((0 : Int) = 0) && d) = d) := Lib.hid (by rw [decide_eq_true rfl, Bool.true_and])
    rw [if_pos rfl, HD.out]
    clear CK cS c0 c1
    go_enter Tryz.func91, Tryz.ntmps91
    go_wp2_with fail
    refine wp_region_up (W := w) U0.out (by kernel_rfl) (by kernel_rfl) ?_
    repeat (go_big_quiet_step (first
      | (go_at_call 22; exact Calls.upw (HK.out _))))
    refine wpQuiet_nil ?_
    rintro _ ⟨⟨w9, u9⟩, rfl⟩
    go_wp2_with fail
    go_ret2
    exact ⟨rfl, u9⟩
  · have HD : Hid ((decide (e = 0) && d) = false) := Lib.hid (by rw [decide_eq_false he, Bool.false_and])
    rw [if_neg he, HD.out]
    clear cS c0 c1
    go_enter Tryz.func91, Tryz.ntmps91
    go_wp2_with fail
    go_ret2
    exact ⟨rfl, Up.refl _⟩
def PkPs (b : Nat) (v : Value) (x : Value) (d : Bool) (i : Nat) (e : Int) (w : World) (en : Ending) (w' : World) : Prop := en = .returned (.tuple #[x, .bool d]) ∧ Gs (On b) w w' ∧ Psr w' b v (if d then i + 1 else i) e
set_option maxHeartbeats 6400000 in
set_option maxRecDepth 100000 in
theorem pick_s (b : Nat) (v F : Value) (i : Nat) (e : Int) (x : Value) (d : Bool) (w : World) (cL : Calls Tryz.prog 91 #[.pointer (some ⟨b, 0, none⟩), F] w (AnP x d w)) (h : Psr w b v i e) (hi : i ≤ 1000000) :
    Calls Tryz.prog 166 #[.pointer (some ⟨b, 0, none⟩), F] w (PkPs b v x d i e w) := by
  have hb : b < w.heap.size := heap_lt h
  have H := Lib.hid h
  have hw : IntKind.i64.wrap ((i : Int) + 1) = (i : Int) + 1 := by rw [IntKind.wrap_i64]; omega
  clear h
  cases d with
  | false =>
    go_enter Tryz.func166, Tryz.ntmps166
    go_wp2_with fail
    refine cL.mono ?_
    rintro en w1 ⟨rfl, u1⟩
    go_wp2_with fail
    go_ret2
    exact ⟨rfl, Gs.of u1, H.out.up u1⟩
  | true =>
    go_enter Tryz.func166, Tryz.ntmps166
    go_wp2_with fail
    refine cL.mono ?_
    rintro en w1 ⟨rfl, u1⟩
    have h1 := H.out.up u1
    obtain ⟨d0, d1, d2, g1, g2⟩ := h1.cells
    have H1 := Lib.hid h1
    have U1 := Lib.hid u1
    clear u1 h1 d0 g2
    go_wp2_with fail
    go_ret2
    exact ⟨rfl, (Gs.of U1.out).set _ _ (.inl rfl), H1.out.at _ _ (by rw [if_pos rfl]; omega)⟩
set_option maxHeartbeats 6400000 in
set_option maxRecDepth 100000 in
theorem named_F (b : Nat) (v F : Value) (i : Nat) (e : Int) (s : ByteArray) (d : Bool) (w : World) (cP : Calls Tryz.prog 166 #[.pointer (some ⟨b, 0, none⟩), F] w (PkPs b v (.string s) d i e w)) :
    Calls Tryz.prog 93 #[.pointer (some ⟨b, 0, none⟩), F] w (NmP b v s (if d then i + 1 else i) (if d then e else if e = 0 then 6 else e) w) := by
  cases d with
  | true =>
    go_enter Tryz.func93, Tryz.ntmps93
    go_wp2_with fail
    refine cP.mono ?_
    rintro en w1 ⟨rfl, g1, h1⟩
    have G1 := Lib.hid g1
    have H1 := Lib.hid h1
    clear g1 h1
    go_wp2_with fail
    go_ret
    exact ⟨rfl, G1.out, H1.out⟩
  | false =>
    obtain ⟨E, hEE⟩ : ∃ E, (if e = 0 then 6 else e) = E := ⟨_, rfl⟩
    have HEE := Lib.hid hEE
    simp only [Bool.false_eq_true, if_false]
    rw [hEE]
    clear hEE
    go_enter Tryz.func93, Tryz.ntmps93
    go_wp2_with fail
    refine cP.mono ?_
    rintro en w1 ⟨rfl, g1, h1⟩
    have cF := fail_any b v i e 6 w1 h1
    have G1 := Lib.hid g1
    rw [HEE.out] at cF
    clear g1 h1 cP
    go_wp2_with fail
    refine cF.mono ?_
    rintro en w2 ⟨⟨u, rfl⟩, g2, h2⟩
    have H2 := Lib.hid h2
    clear h2
    go_wp2_with fail
    go_ret
    exact ⟨rfl, G1.out.trans g2, H2.out⟩
theorem named_N (b : Nat) (v : Value) (i : Nat) (e : Int) (o : Option ByteArray) (w : World) (cS : ∀ w', Up w w' → Calls Tryz.prog 20 #[v, .int .i64 (i : Int)] w' (NaP o w')) (h : Psr w b v i e) (hi : i ≤ 1000000) :
    Calls Tryz.prog 93 #[.pointer (some ⟨b, 0, none⟩), .func (.func 20) #[] #[]] w (NmP b v (nmS o e) (nmI o i e) (nmE o e) w) := by
  have cL := look_N b v i e _ _ w cS h
  by_cases he : e = 0
  · subst he
    rw [if_pos rfl, decide_eq_true rfl, Bool.true_and] at cL
    have c := named_F b v _ i 0 _ _ w (pick_s b v _ i 0 _ _ w cL h hi)
    cases o <;> exact c
  · rw [if_neg he, decide_eq_false he, Bool.false_and] at cL
    have c := named_F b v _ i e nob _ w (pick_s b v _ i e _ _ w cL h hi)
    rw [if_neg he] at c
    have e1 : nmS o e = nob ∧ nmI o i e = i ∧ nmE o e = e := ⟨if_neg he, if_neg he, if_neg he⟩
    rw [e1.1, e1.2.1, e1.2.2]
    exact c
theorem named_L (b : Nat) (v : Value) (i : Nat) (e : Int) (o : Option ByteArray) (w : World) (cS : ∀ w', Up w w' → Calls Tryz.prog 22 #[v, .int .i64 (i : Int)] w' (NaP o w')) (h : Psr w b v i e) (hi : i ≤ 1000000) :
    Calls Tryz.prog 93 #[.pointer (some ⟨b, 0, none⟩), .func (.func 22) #[] #[]] w (NmP b v (nmS o e) (nmI o i e) (nmE o e) w) := by
  have cL := look_L b v i e _ _ w cS h
  by_cases he : e = 0
  · subst he
    rw [if_pos rfl, decide_eq_true rfl, Bool.true_and] at cL
    have c := named_F b v _ i 0 _ _ w (pick_s b v _ i 0 _ _ w cL h hi)
    cases o <;> exact c
  · rw [if_neg he, decide_eq_false he, Bool.false_and] at cL
    have c := named_F b v _ i e nob _ w (pick_s b v _ i e _ _ w cL h hi)
    rw [if_neg he] at c
    have e1 : nmS o e = nob ∧ nmI o i e = i ∧ nmE o e = e := ⟨if_neg he, if_neg he, if_neg he⟩
    rw [e1.1, e1.2.1, e1.2.2]
    exact c
def InL (S : Nat → Prop) (b : Nat) (v : Value) (i : Nat) (e : Int) (P : World → Prop) (w : World) (en : Ending) (w' : World) : Prop := (∃ u, en = .returned u) ∧ Gs S w w' ∧ Psr w' b v i e ∧ P w'
section
variable {nk lg : ByteArray → Bool}
set_option maxHeartbeats 3200000 in
set_option maxRecDepth 100000 in
theorem between_any {W0 : World} {l : List Tk} (b : Nat) (v : Value) (i : Nat) (e : Int) (opening closing : ByteArray) (k : FuncId) (cap : Array Value) (hE : EntF k) (S : Nat → Prop) (hSW : ∀ q, S q → W0.heap.size ≤ q) (hbW : W0.heap.size ≤ b) (i2 : Nat) (e2 : Int) (P : World → Prop) (w : World)
    (T : Toks nk lg W0 v l) (h : Psr w b v i e) (hu : Up W0 w) (hi : i ≤ 1000000) (hi2 : i2 ≤ 1000000)
    (cI : ∀ w1, Gs (On b) w w1 → Psr w1 b v (neI i (tkB l i e opening)) (neE e (tkB l i e opening)) → Calls Tryz.prog k cap w1 (InL S b v i2 e2 P w1)) :
    Calls Tryz.prog 197 #[.pointer (some ⟨b, 0, none⟩), .string opening, .string closing, .func (.func k) #[] cap] w
      fun en w' => (∃ u, en = .returned u) ∧ ∃ w1 w2, Gs (On b) w w1 ∧ Gs S w1 w2 ∧ P w2 ∧ Gs (On b) w2 w' ∧ Psr w' b v (neI i2 (tkB l i2 e2 closing)) (neE e2 (tkB l i2 e2 closing)) := by
  have cN := needs_any b v i e opening w T h hu hi
  have HU := Lib.hid hu
  have HI := Lib.hid cI
  have HT := Lib.hid T
  have HSW := Lib.hid hSW
  have HE := Lib.hid hE
  clear h hu cI T hSW hE
  go_enter Tryz.func197, Tryz.ntmps197
  go_wp2_with fail
  refine cN.mono ?_
  rintro en w1 ⟨⟨u, rfl⟩, g1, h1⟩
  have cI := HI.out w1 g1 h1
  have G1 := Lib.hid g1
  clear g1 h1
  go_wp2_with fail
  rw [HE.out, Oper.upon_enter]
  refine cI.mono ?_
  rintro en w2 ⟨⟨u, rfl⟩, g2, h2, p2⟩
  have u2 : Up W0 w2 := g2.up (G1.out.up HU.out (fun q hq => by rw [hq]; exact hbW)) HSW.out
  have cN2 := needs_any b v i2 e2 closing w2 HT.out h2 u2 hi2
  have G2 := Lib.hid g2
  have P2 := Lib.hid p2
  clear g2 p2 u2 h2
  go_wp2_with fail
  refine cN2.mono ?_
  rintro en w3 ⟨⟨u, rfl⟩, g3, h3⟩
  go_wp2_with fail
  go_end0
  exact ⟨⟨_, rfl⟩, w1, w2, G1.out, G2.out, P2.out, g3, h3⟩
end
end Go.Proofs.YthonaeigacfmbaaGreatDoor
namespace Go.Proofs.YthonaeigacfmbaaGreatDoor
open Go.RowKit Go.Shelf

attribute [local go_sem] Oper.semAt_some

def Kq (n v : Nat) (A B : World) : Prop := A.heap.size ≤ B.heap.size ∧ ∀ q, q < n → q ≠ v → B.heap[q]? = A.heap[q]?
theorem Kq.refl (n v : Nat) (A : World) : Kq n v A A := ⟨Nat.le_refl _, fun _ _ _ => rfl⟩
theorem Kq.trans {n v : Nat} {A B C : World} (h : Kq n v A B) (k : Kq n v B C) : Kq n v A C := ⟨Nat.le_trans h.1 k.1, fun q h1 h2 => (k.2 q h1 h2).trans (h.2 q h1 h2)⟩
theorem Kq.cell {n v : Nat} {A B : World} (h : Kq n v A B) {p : Addr} (h1 : p.block < n) (h2 : p.block ≠ v) : B.cell? p = A.cell? p := World.cell?_of_block (h.2 _ h1 h2)
theorem Kq.put {n v : Nat} {w : World} (hn : n ≤ w.heap.size) (W : World) (l : Nat) (o o' : Obj) (hl : w.heap.size ≤ l) (_ : W.heap[l]? = some o) (_ : o.isCells = false) (_ : o.isWalk = false) : Kq n v W (W.putObj l o') := ⟨by simp, fun q hq _ => World.putObj_heap_other (by omega)⟩
def bwd (qs : List (Option Addr)) (k : Nat) : List (Nat × Option Addr) := (List.range k).map fun j => (qs.length - 1 - j, (qs[qs.length - 1 - j]?).getD none)
theorem bwd_succ (qs : List (Option Addr)) (k : Nat) : bwd qs (k + 1) = bwd qs k ++ [(qs.length - 1 - k, (qs[qs.length - 1 - k]?).getD none)] := by simp [bwd, List.range_succ]
theorem bwd_len (qs : List (Option Addr)) (k : Nat) : (bwd qs k).length = k := by simp [bwd]
theorem toNat_sub (n k : Nat) (h : k < n) : ((n : Int) - 1 - (k : Int)) = ((n - 1 - k : Nat) : Int) := by omega
set_option maxRecDepth 100000 in
set_option maxHeartbeats 2000000 in
theorem back1_in (F : Fence) (n vb : Nat) (hf : F.fn 214) (hro : F.round = none) (hn : 1 ≤ n) (l Bs n₀ b off cap : Nat) (hv1 : Bs ≠ vb) (hv2 : b ≠ vb) (qs : List (Option Addr)) (hreach : qs.length ≤ 100000000) (hb : b < n₀) (J Jx : List (Nat × Option Addr) → World → Prop)
    (hY : ∀ pre x W, J pre W → pre.length < qs.length → YieldAt F (n - 1) Tryz.prog l #[.int .i64 (x.1 : Int), .pointer x.2] W fun e W' =>
      (e = .returned (.bool true) ∧ J (pre ++ [x]) W' ∧ Kq n₀ vb W W') ∨ (e = .returned (.bool false) ∧ Jx (pre ++ [x]) W'))
    (W : World) (hBn : Bs < n₀) (hBs : W.cell? ⟨Bs, 0, none⟩ = some (.slice (some ⟨b, off, none⟩) qs.length cap)) (hc : ∀ j, j < qs.length → W.cell? ⟨b, off + j, none⟩ = some (.pointer ((qs[j]?).getD none))) (h0 : J [] W) :
    CallsIn F n Tryz.prog 214 #[.func (.yield l) #[] #[], .pointer (some ⟨Bs, 0, none⟩)] W fun e W' => (∃ v, e = .returned v) ∧
      ((∃ ys, ys = bwd qs qs.length ∧ J ys W') ∨ (∃ pre, (∃ k, k ≤ qs.length ∧ pre = bwd qs k) ∧ Jx pre W')) := by
  obtain ⟨len, hlen⟩ : ∃ len, qs.length = len := ⟨_, rfl⟩
  have HLEN := Lib.hid hlen
  rw [hlen] at hBs hreach ⊢
  have HC := Lib.hid hc
  have HY := Lib.hid hY
  clear hc hY hlen
  refine callsIn_of_wp Tryz.func214 rfl hf ?_ hro
  simp only [Tryz.ntmps214, List.size_toArray, List.length_cons, List.length_nil, Nat.reduceAdd, Nat.reduceSub, Array.replicate_succ, Array.replicate_zero, List.push_toArray, List.append_toArray, List.nil_append, List.cons_append]
  have hw1 : IntKind.i64.wrap ((len : Int) - 1) = (len : Int) - 1 := by rw [IntKind.wrap_i64]; omega
  gi_wp2
  gi_loopw [3] (fun i wr => ∃ k : Nat, k ≤ len ∧ i = .int .i64 ((len : Int) - 1 - (k : Int)) ∧ J (bwd qs k) wr ∧ Kq n₀ vb W wr)
    (fun i _ => (intOf i + 1).toNat)
  case atStart => exact ⟨0, Nat.zero_le _, i64_eq (by omega), h0, Kq.refl _ _ _⟩
  case round =>
    obtain ⟨k, hk, rfl, hJs, hnx⟩ := hrel
    have hBs' := (hnx.cell (p := ⟨Bs, 0, none⟩) hBn hv1).trans hBs
    by_cases hlt : k < len
    · have hcx : wr.cell? ⟨b, off + (len - 1 - k), none⟩ = some (.pointer ((qs[qs.length - 1 - k]?).getD none)) := by
        have h := (hnx.cell (p := ⟨b, off + (len - 1 - k), none⟩) hb hv2).trans (HC.out (len - 1 - k) (by rw [HLEN.out]; omega))
        rw [h, HLEN.out]
      obtain ⟨fn, tmps, assign, body, hy, hR⟩ := HY.out _ (len - 1 - k, (qs[qs.length - 1 - k]?).getD none) wr hJs (by rw [bwd_len, HLEN.out]; exact hlt)
      dsimp only at hy
      have hi : (len : Int) - 1 - (k : Int) = ((len - 1 - k : Nat) : Int) := toNat_sub len k hlt
      have hlt' : len - 1 - k < len := by omega
      have hsucc : bwd qs (k + 1) = bwd qs k ++ [(len - 1 - k, (qs[qs.length - 1 - k]?).getD none)] := by rw [bwd_succ, HLEN.out]
      have HSUC := Lib.hid hsucc
      have HR := Lib.hid hR
      obtain ⟨ix, hix⟩ : ∃ ix, len - 1 - k = ix := ⟨_, rfl⟩
      obtain ⟨qx, hqx⟩ : ∃ qx, (qs[qs.length - 1 - k]?).getD none = qx := ⟨_, rfl⟩
      rw [hix, hqx] at hcx hy
      rw [hix] at hi hlt'
      rw [hi]
      have HIX := Lib.hid hix
      have HQX := Lib.hid hqx
      have HI := Lib.hid hi
      have hw2 : IntKind.i64.wrap ((ix : Int) - 1) = (ix : Int) - 1 := by rw [IntKind.wrap_i64]; omega
      clear hsucc hR hix hqx hi
      gi_wp2
      refine HR.out.mono ?_
      rintro e W3 (⟨rfl, hJ3, hk3⟩ | ⟨rfl, hJx3⟩)
      · gi_wp2
        go_roundw
        case rel => exact ⟨k + 1, by omega, i64_eq (by have := HI.out; omega), by rw [HSUC.out]; exact hJ3, hnx.trans hk3⟩
        case measure => first | (simp [intOf]; omega) | simp [intOf]
      · gi_wp2
        refine bodyPost_ret (results_none rfl _ _ _) rfl ?_
        exact ⟨⟨_, rfl⟩, .inr ⟨_, ⟨k + 1, by omega, HSUC.out.symm⟩, hJx3⟩⟩
    · obtain rfl : k = len := by omega
      have hi : ¬ (0 : Int) ≤ (k : Int) - 1 - (k : Int) := by omega
      gi_wp2
      go_end0
      exact ⟨⟨_, rfl⟩, .inl (by first | exact hJs | exact ⟨_, rfl, hJs⟩)⟩
set_option maxHeartbeats 1000000 in
theorem back_in (F : Fence) (n : Nat) (hf : F.fn 162) (hro : F.round = none) (a : Option Addr) (len cap : Nat) (w : World) :
    CallsIn F n Tryz.prog 162 #[.slice a len cap] w fun e w' => e = .returned (.func (.func 214) #[] #[.pointer (some ⟨w.heap.size, 0, none⟩)]) ∧ w' = w.alloc (.cells #[.slice a len cap] 30) := by
  refine callsIn_of_wp Tryz.func162 rfl hf ?_ hro
  simp only [Tryz.ntmps162, List.size_toArray, List.length_cons, List.length_nil, Nat.reduceAdd, Nat.reduceSub, Array.replicate_succ, Array.replicate_zero, List.push_toArray, List.append_toArray, List.nil_append, List.cons_append]
  gi_wp2
  go_ret
  exact ⟨rfl, rfl⟩
theorem back_stops (F : Fence) (n vb : Nat) (hf : F.fn 214) (hro : F.round = none) (hn : 1 ≤ n) (Bs n₀ b off cap : Nat) (hv1 : Bs ≠ vb) (hv2 : b ≠ vb) (qs : List (Option Addr)) (hreach : qs.length ≤ 100000000) (w : World) (hBs : Bs < n₀) (hb : b < n₀) (hn₀ : n₀ ≤ w.heap.size)
    (hc : w.cell? ⟨Bs, 0, none⟩ = some (.slice (some ⟨b, off, none⟩) qs.length cap)) (hI : ∀ j, j < qs.length → w.cell? ⟨b, off + j, none⟩ = some (.pointer ((qs[j]?).getD none))) :
    SeqStopsK F n Tryz.prog 214 #[.pointer (some ⟨Bs, 0, none⟩)] (fun x : Nat × Option Addr => #[Value.int .i64 (x.1 : Int), Value.pointer x.2]) (Kq n₀ vb) (fun ys => ys = bwd qs qs.length)
      (fun pre => ∃ k, k ≤ qs.length ∧ pre = bwd qs k) qs.length w := fun l J Jx W hW _ _ hY h0 => by
  have hc' := (hW.cell (p := ⟨Bs, 0, none⟩) (by simp only; omega)).trans hc
  exact back1_in F n vb hf hro hn l Bs n₀ b off cap hv1 hv2 qs hreach hb J Jx hY W hBs hc' (fun j hj => (hW.cell (p := ⟨b, off + j, none⟩) (by simp only; omega)).trans (hI j hj)) h0
end Go.Proofs.YthonaeigacfmbaaGreatDoor
