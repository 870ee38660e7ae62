/-
  Layer 6, the program's Write: every type's text; what is none is refused.
-/
import Derived.Test.YthonaeigacfmbaaGreatDoorGq33
namespace Go.Proofs.YthonaeigacfmbaaGreatDoor
open Go.RowKit

section
variable {nk lg : ByteArray → Bool}
theorem all8_get : ∀ {f : Fr} {j : Nat} {t : Tr}, ((infF nk lg f).all fun i => i.is 8) = true → f.get j = some t → isT nk lg t 8 = true
  | .nil, _, _, _, h => by cases h
  | .cons x k r, 0, t, ha, h => by
    have h : (x, k) = t := Option.some.inj h
    have ha : (isT nk lg (x, k) 8 && (infF nk lg r).all fun i => i.is 8) = true := ha
    rw [Bool.and_eq_true] at ha
    rw [← h]
    exact ha.1
  | .cons x k r, j + 1, t, ha, h => by
    have ha : (isT nk lg (x, k) 8 && (infF nk lg r).all fun i => i.is 8) = true := ha
    rw [Bool.and_eq_true] at ha
    exact all8_get (f := r) (j := j) ha.2 h
theorem write_all {W : World} {bw : Nat} (hB : W.heap.size ≤ bw) (hp : Pl W) : ∀ (n : Nat) (t : Tr), szT t ≤ n → n ≤ 8192 → isT nk lg t 1 = true → ∀ r : Int, (r = 0 ∨ r = 1 ∨ r = 2) → WriAt W bw t r
  | 0, t, h, _, _ => absurd h (by unfold szT; omega)
  | n + 1, t, h, hn, ht => by
    have ih := write_all (W := W) (bw := bw) hB hp n
    have main : (∀ r : Int, (r = 0 ∨ r = 1 ∨ r = 2) → ¬ ruT t.1.k < r → WriAt W bw t r) → ∀ r : Int, (r = 0 ∨ r = 1 ∨ r = 2) → WriAt W bw t r := fun hh r hr => by
      have h0 : ¬ ruT t.1.k < 0 := by unfold ruT; split <;> (try split) <;> omega
      by_cases hc : ruT t.1.k < r
      · exact write_paren t r hB hc (hh 0 (.inl rfl) h0)
      · exact hh r hr hc
    refine main fun r hr hc => ?_
    cases ty_form ht with
    | leaf k hk =>
      rcases hk with rfl | rfl | rfl
      · exact write_leaf 0 (by omega) r hB hp hc
      · exact write_leaf 1 (by omega) r hB hp hc
      · exact write_leaf 2 (by omega) r hB hp hc
    | name s hs => exact write_name s r hB hc
    | two k hk a b hA hB' =>
      have hz : szT (nd k nob (fr2 a b)) = 1 + (szT a + szT b) := by unfold szT; simp only [nd, fr2, fr1, Fr.sz]; omega
      rcases hk with rfl | rfl
      · exact write_5 a b r hB hc (ih a (by omega) (by omega) hA 1 (by omega)) (ih b (by omega) (by omega) hB' 0 (by omega))
      · exact write_6 a b r hB hc (ih a (by omega) (by omega) hA 2 (by omega)) (ih b (by omega) (by omega) hB' 1 (by omega))
    | mu s hs c hc' h0 =>
      have hz : szT (nd 7 s c) = 1 + c.sz := rfl
      have hl := Fr.len_le c
      refine write_mu s c r hB hc h0 (by omega) fun j t' hj => ?_
      obtain ⟨s', u, rfl, _, hu⟩ := con_form (all8_get hc'.1 hj)
      have hg := Fr.get_sz hj
      have hz2 : szT (nd 8 s' (fr1 u)) = 1 + szT u := by unfold szT; simp only [nd, fr1, Fr.sz]; omega
      exact ⟨s', u, rfl, ih u (by omega) (by omega) hu 0 (.inl rfl)⟩
end
theorem join_txt : ∀ (l : List Tk), Lib.join ((txt l).map (·.data.toList)) (ByteArray.mk #[32]).data.toList = jT l
  | [] => rfl
  | [a] => Lib.join_one _ _
  | a :: b :: r => by
    have ih := join_txt (b :: r)
    have e1 : (txt (a :: b :: r)).map (·.data.toList) = a.s.data.toList :: (txt (b :: r)).map (·.data.toList) := rfl
    have e2 : (txt (b :: r)).map (·.data.toList) = b.s.data.toList :: (txt r).map (·.data.toList) := rfl
    rw [e1, Lib.join_cons]
    rw [e2, Lib.join_cons] at ih
    show _ = a.s.data.toList ++ 32 :: jT (b :: r)
    rw [← ih, e2]
    show a.s.data.toList ++ Lib.joinTail [32] (b.s.data.toList :: (txt r).map (·.data.toList)) = _
    simp [Lib.joinTail]
def wrT (o : Option Tr) : ByteArray := match o with
  | some t => tB (tkT t)
  | none => nob
def WtP (o : Option Tr) (W : World) (e : Ending) (w' : World) : Prop := e = .returned (.tuple #[.string (if chk B.nck B.long o 1 = 0 then wrT o else nob), .int .i64 (chk B.nck B.long o 1)]) ∧ Up W w'
theorem chk_0 {o : Option Tr} (h : chk B.nck B.long o 1 = 0) : ∃ t, o = some t ∧ szT t ≤ 8192 ∧ dpT t ≤ 60 ∧ isT B.nck B.long t 1 = true := by
  unfold chk at h
  cases o with
  | none => cases h
  | some t =>
    simp only at h
    split at h
    · cases h
    · split at h
      · cases h
      · split at h
        · exact ⟨t, rfl, by omega, by omega, ‹_›⟩
        · cases h
theorem nck128 : ∀ s, B.nck s = true → s.size ≤ 128 := fun s h => by have := (B.nck_size h).2; omega
theorem long128 : ∀ s, B.long s = true → s.size ≤ 128 := fun _ h => (B.long_is.1 h).1
set_option maxHeartbeats 6400000 in
set_option maxRecDepth 100000 in
theorem pWrite (o : Option Tr) (hz : szO o ≤ 60000) (hs : okSO o) (W w : World) (v : Value) (hx : B.Nx W) (hp : Pl W) (hv : HasT W v o) (hu : Up W w) : Calls Tryz.prog 32 #[v] w (WtP o W) := by
  have cS := shpType o hz hs W w v hx hv hu
  unfold WtP
  by_cases hc : chk B.nck B.long o 1 = 0
  · obtain ⟨t, rfl, h1, h2, h3⟩ := chk_0 hc
    rw [hc] at cS ⊢
    rw [if_pos rfl]
    have HS : Hid (wrT (some t) = tB (tkT t)) := Lib.hid rfl
    rw [HS.out]
    have hfew := (few_all nck128 long128 _ t (Nat.le_refl _) h3)
    have hsz := text_le nck128 long128 h3
    have HV := Lib.hid hv
    have HP := Lib.hid hp
    have H3 := Lib.hid h3
    have HF := Lib.hid hfew.1
    have HSZ := Lib.hid hsz
    have hne := tk_ne h3
    have HNE := Lib.hid hne
    clear hc hv hp h2 h3 hfew hsz hne hx hs hz
    go_enter Tryz.func32, Tryz.ntmps32
    go_wp2_with fail
    refine cS.mono ?_
    rintro en w1 ⟨rfl, u1⟩
    have hz1 := u1.size
    have uA : Up w1 (w1.alloc (.cells #[.slice none 0 0] 93)) := (Up.refl w1).alloc _
    have hWr : Wr w1.heap.size (w1.alloc (.cells #[.slice none 0 0] 93)) [] := ⟨_, heap_alloc_new w1 _, World.ownsRow_nil _ _ _ _⟩
    have cW := write_all (W := w1) (bw := w1.heap.size) (Nat.le_refl _) (HP.out.up u1) _ t (Nat.le_refl _) h1 H3.out 0 (.inl rfl) _ [] v (HV.out.up u1) uA hWr (by rw [wiR_0]; have := HF.out; simp only [List.length_nil]; omega)
    have U1 := Lib.hid u1
    clear u1 hWr uA cS
    go_wp2_with fail
    refine cW.mono ?_
    rintro en w2 ⟨⟨u, rfl⟩, u2, vs, r1, ho⟩
    rw [wiR_0, List.nil_append] at ho
    rw [txt_len] at ho
    have hlen : 0 < (tkT t).length := List.length_pos_iff.2 HNE.out
    obtain ⟨g, cp, rfl, hbg, hltg⟩ := ho.form hlen
    have hcp := own_capP ho
    have c0 : w2.cell? ⟨w1.heap.size, 0, none⟩ = some (.slice (some ⟨g, 0, none⟩) (tkT t).length cp) := cell_of_row w2 _ 0 _ _ _ r1
    have hj := join_txt (tkT t)
    have hcs : ∀ (j : Nat) x, (txt (tkT t))[j]? = some x → w2.cell? ⟨g, 0 + j, none⟩ = some (.string x) := fun j x h => by
      have h9 := ho.cells (g := g) rfl j (.string x) (by rw [List.getElem?_map, h]; rfl)
      have e1 : (⟨g, 0, none⟩ : Addr).add j = ⟨g, 0 + j, none⟩ := by unfold Addr.add; split <;> simp_all
      rwa [e1] at h9
    have hjl : (Lib.join ((txt (tkT t)).map (·.data.toList)) (ByteArray.mk #[32]).data.toList).length = (tB (tkT t)).size := by rw [hj]; show _ = (jT (tkT t)).toArray.size; simp
    have cJ := Tryz.strings_Join g 0 cp (txt (tkT t)) ⟨#[32]⟩ w2 hcs hltg (by rw [txt_len]; have := HF.out; omega) (by rw [txt_len]; exact hcp) (by rw [hjl]; have := HSZ.out; omega)
    rw [hj, txt_len] at cJ
    have U2 := Lib.hid (Up.trans U1.out u2)
    clear u2 r1 ho cW hcs hjl hj
    go_wp2_with fail
    refine cJ.mono ?_
    rintro en w3 ⟨rfl, u3⟩
    have U3 := Lib.hid u3
    clear u3
    go_wp2_with fail
    go_ret2
    exact ⟨rfl, Up.trans U2.out U3.out⟩
  · rw [if_neg hc]
    obtain ⟨z, hzz⟩ : ∃ z, chk B.nck B.long o 1 = z := ⟨_, rfl⟩
    rw [hzz] at hc cS ⊢
    clear hv hp hx hs hz hzz
    go_enter Tryz.func32, Tryz.ntmps32
    go_wp2_with fail
    refine cS.mono ?_
    rintro en w1 ⟨rfl, u1⟩
    have U1 := Lib.hid u1
    clear u1
    go_wp2_with fail
    go_ret2
    exact ⟨rfl, U1.out⟩
end Go.Proofs.YthonaeigacfmbaaGreatDoor
namespace Go.Proofs.YthonaeigacfmbaaGreatDoor
open Go.RowKit

theorem bars_mem : ∀ (l : List (List Tk)) (j : Nat) (x : Tk), x ∈ bars (l.take j) → x ∈ bars l
  | [], j, x, h => by simpa using h
  | [a], 0, x, h => by cases h
  | [a], j + 1, x, h => by simpa using h
  | a :: b :: r, 0, x, h => by cases h
  | a :: b :: r, 1, x, h => by
    have h : x ∈ a := h
    show x ∈ a ++ ky kBar :: bars (b :: r)
    exact List.mem_append_left _ h
  | a :: b :: r, j + 2, x, h => by
    have h : x ∈ a ++ ky kBar :: bars ((b :: r).take (j + 1)) := h
    show x ∈ a ++ ky kBar :: bars (b :: r)
    rcases List.mem_append.1 h with h | h
    · exact List.mem_append_left _ h
    · refine List.mem_append_right _ ?_
      rcases List.mem_cons.1 h with h | h
      · exact h ▸ List.mem_cons_self ..
      · exact List.mem_cons_of_mem _ (bars_mem (b :: r) (j + 1) x h)
theorem text_all : ∀ (n : Nat) (t : Tr), szT t ≤ n → n ≤ 8192 → isT B.nck B.long t 1 = true → TxtAt t
  | 0, t, h, _, _ => absurd h (by unfold szT; omega)
  | n + 1, t, h, hn, ht => by
    have ih := text_all n
    have hz := text_le nck128 long128 ht
    have hf := few_all nck128 long128 _ t (Nat.le_refl _) ht
    cases ty_form ht with
    | leaf k hk => exact text_leaf k hk
    | name s hs => exact text_name s
    | two k hk a b hA hB =>
      have hzz : szT (nd k nob (fr2 a b)) = 1 + (szT a + szT b) := by unfold szT; simp only [nd, fr2, fr1, Fr.sz]; omega
      have za := text_le nck128 long128 hA
      have zb := text_le nck128 long128 hB
      rcases hk with rfl | rfl
      · exact text_5 a b (ih a (by omega) (by omega) hA) (ih b (by omega) (by omega) hB) (tk_ne hA) (tk_ne hB) (by omega) (by omega)
      · exact text_6 a b (ih a (by omega) (by omega) hA) (ih b (by omega) (by omega) hB) (tk_ne hA) (tk_ne hB) (by omega) (by omega)
    | mu s hs c hc h0 =>
      have hzz : szT (nd 7 s c) = 1 + c.sz := rfl
      have hl := Fr.len_le c
      refine text_mu s c h0 (by omega) (fun j t' hj => ?_) (by omega) fun j hj => ?_
      · obtain ⟨s', u, rfl, _, hu⟩ := con_form (all8_get hc.1 hj)
        have hg := Fr.get_sz hj
        have hz2 : szT (nd 8 s' (fr1 u)) = 1 + szT u := by unfold szT; simp only [nd, fr1, Fr.sz]; omega
        exact ⟨s', u, rfl, ih u (by omega) (by omega) hu, tk_ne hu⟩
      · rw [tk_mu] at hf
        have hlen := hf.1
        simp only [List.length_cons, List.length_append, List.length_nil] at hlen
        have hb := bars_mono (segF c) j
        have hlen : (bars (segF c)).length ≤ 5 * szT (nd 7 s c) := by
          have e : (bars ((tkF c).map (·.2))).length = (bars (segF c)).length := rfl
          omega
        have h1 := jT_le (m := 128) (bars ((segF c).take j)) fun x hx => hf.2 x (List.mem_cons_of_mem _ (List.mem_cons_of_mem _ (List.mem_cons_of_mem _ (List.mem_append_left _ (bars_mem _ _ _ hx)))))
        have e : (tB (bars ((segF c).take j))).size = (jT (bars ((segF c).take j))).length := by show (jT _).toArray.size = _; simp
        have hs1 := nck128 s hs
        unfold muB
        split
        · simp only [ByteArray.size_append]; show 3 + s.size + 3 ≤ _; omega
        · simp only [ByteArray.size_append]; show 3 + s.size + 3 + _ ≤ _; omega
set_option maxHeartbeats 3200000 in
set_option maxRecDepth 100000 in
theorem refWrite (o : Option Tr) (hz : szO o ≤ 60000) (hs : okSO o) (W w : World) (v : Value) (hv : HasT W v o) (hu : Up W w) : Calls Tryz.prog 33 #[v] w (WtP o W) := by
  have cS := check_any o 1 hz hs W w v hv hu
  unfold WtP
  by_cases hc : chk B.nck B.long o 1 = 0
  · obtain ⟨t, rfl, h1, h2, h3⟩ := chk_0 hc
    rw [hc] at cS ⊢
    rw [if_pos rfl]
    have HS : Hid (wrT (some t) = tB (tkT t)) := Lib.hid rfl
    rw [HS.out]
    have cT := text_all _ t (Nat.le_refl _) h1 h3
    have HV := Lib.hid hv
    have HT := Lib.hid cT
    clear hc hv h2 h3 hs hz cT
    go_enter Tryz.func33, Tryz.ntmps33
    go_wp2_with fail
    refine cS.mono ?_
    rintro en w1 ⟨rfl, u1⟩
    have cW := HT.out W w1 v HV.out u1
    clear u1 cS
    go_wp2_with fail
    refine cW.mono ?_
    rintro en w2 ⟨rfl, u2⟩
    have U2 := Lib.hid u2
    clear u2
    go_wp2_with fail
    go_ret2
    exact ⟨rfl, U2.out⟩
  · rw [if_neg hc]
    obtain ⟨z, hzz⟩ : ∃ z, chk B.nck B.long o 1 = z := ⟨_, rfl⟩
    rw [hzz] at hc cS ⊢
    clear hv hs hz hzz
    go_enter Tryz.func33, Tryz.ntmps33
    go_wp2_with fail
    refine cS.mono ?_
    rintro en w1 ⟨rfl, u1⟩
    have U1 := Lib.hid u1
    clear u1
    go_wp2_with fail
    go_ret2
    exact ⟨rfl, U1.out⟩
end Go.Proofs.YthonaeigacfmbaaGreatDoor
namespace Go.Proofs.YthonaeigacfmbaaGreatDoor
open Go.RowKit

def rI {α : Type} : Rs α → Nat
  | .inl (_, j) => j
  | .inr (p, _) => p
def rE {α : Type} : Rs α → Int
  | .inl _ => 0
  | .inr (_, r) => r
def Two (a b : Nat) (q : Nat) : Prop := q = a ∨ q = b
theorem Gs.two {b c : Nat} {w w' : World} (h : Gs (On b) w w') : Gs (Two b c) w w' := h.wide fun _ _ hq => .inl hq
theorem Gs.out2 {b c : Nat} {a w w' : World} (h : Gs (On b) a w) (g : Gs (Two b c) w w') (hc : a.heap.size ≤ c) : Gs (On b) a w' :=
  ⟨g.os.trans h.os, g.tape.trans h.tape, g.output.trans h.output, Nat.le_trans h.size g.size, fun k hk hn => (g.block k (Nat.lt_of_lt_of_le hk h.size) (by intro hq; rcases hq with hq | hq; exact hn hq; omega)).trans (h.block k hk hn)⟩
def P1 (wb : World) (B2 : Nat) (R : Rs Tr) (w : World) : Prop := ∃ A, Boxed w B2 24 (.pointer A) ∧ ∀ t j, R = .inl (t, j) → InT w (fun q => NewS wb w q ∧ q ≠ B2) (.pointer A) t
set_option maxHeartbeats 3200000 in
set_option maxRecDepth 100000 in
theorem lit1_any (wb : World) (b : Nat) (v : Value) (B1 B2 : Nat) (A0 : Option Addr) (R : Rs Tr) (w : World) (hz : wb.heap.size ≤ w.heap.size) (hbw : b ≠ B2) (hB2 : B2 < w.heap.size) (c1 : w.cell? ⟨B1, 0, none⟩ = some (.pointer (some ⟨b, 0, none⟩))) (b2 : Boxed w B2 24 (.pointer A0))
    (cA : Calls Tryz.prog 48 #[.agg #[.pointer (some ⟨b, 0, none⟩)]] w (PaT (On b) b v R (fun _ _ => True) w)) :
    Calls Tryz.prog 215 #[.pointer (some ⟨B1, 0, none⟩), .pointer (some ⟨B2, 0, none⟩)] w (InL (Two b B2) b v (rI R) (rE R) (P1 wb B2 R) w) := by
  have HB := Lib.hid b2
  clear b2
  go_enter Tryz.func215, Tryz.ntmps215
  go_wp2_with fail
  refine cA.mono ?_
  rintro en w1 ⟨A, rfl, g1, hR⟩
  have b3 : Boxed w1 B2 24 (.pointer A0) := g1.row HB.out (by unfold On; omega)
  have c3 := b3.cell
  have f3 := b3.frozen
  have hb3 := b3.lt
  have B3 := Lib.hid b3
  have G1 := Lib.hid g1
  have HR := Lib.hid hR
  have hz1 := g1.size
  clear b3 g1 hR cA
  go_wp2_with fail
  go_end0
  have hne : ∀ q, q ≠ B2 → (w1.setCell ⟨B2, 0, none⟩ (.pointer A)).heap[q]? = w1.heap[q]? := fun q hq => Below.heap_setCell _ _ _ _ hq
  refine ⟨⟨_, rfl⟩, (G1.out.two).set _ _ (.inl (.inr rfl)), ?_, A, B3.out.set _, fun t j hR => ?_⟩
  · have h := HR.out
    cases R with
    | inl e => exact (hne b hbw).trans h.2.1
    | inr e => exact (hne b hbw).trans h
  · have h := HR.out
    rw [hR] at h
    have hs : (w1.setCell ⟨B2, 0, none⟩ (.pointer A)).heap.size = w1.heap.size := by simp [World.setCell]
    exact InT.keep h.1 (fun q hq => ⟨⟨by have := hq.1; omega, by rw [hs]; exact hq.2⟩, by have := hq.1; omega⟩) fun q hq => hne q (by have := hq.1; omega)
section
variable {nk lg : ByteArray → Bool}
def parR (l : List Tk) (R : Rs Tr) : Rs Tr := match R with
  | .inr e => .inr e
  | .inl (t, j) => if key l j kShut then .inl (t, j + 1) else .inr (j, 6)
theorem tk_err {l : List Tk} {i : Nat} {e : Int} {x : ByteArray} (h : ¬ e = 0) : tkB l i e x = false := by unfold tkB; rw [decide_eq_false h, Bool.false_and]
theorem tk_ok {l : List Tk} {i : Nat} {x : ByteArray} : tkB l i 0 x = key l i x := by unfold tkB; rw [decide_eq_true rfl, Bool.true_and]
theorem ne_err {e : Int} (h : ¬ e = 0) : neE e false = e := if_neg h
set_option maxHeartbeats 12800000 in
set_option maxRecDepth 100000 in
theorem atom_paren {V0 : World} {l : List Tk} (b : Nat) (v : Value) (i : Nat) (R : Rs Tr) (hR : LeOk l.length R) (hl : l.length ≤ 100000) (w : World) (T : Toks nk lg V0 v l) (h : Psr w b v i 0) (hu : Up V0 w) (hbW : V0.heap.size ≤ b) (hP : Pl w) (hi : i ≤ 1000000) (hn : ∀ k, k < 3 → tkB l i 0 (plS k) = false) (hy : tkB l i 0 kOpen = true)
    (cA : ∀ w', Gs (On b) w w' → Psr w' b v (i + 1) 0 → Calls Tryz.prog 48 #[.agg #[.pointer (some ⟨b, 0, none⟩)]] w' (PaT (On b) b v R (fun _ _ => True) w')) :
    Calls Tryz.prog 163 #[.agg #[.pointer (some ⟨b, 0, none⟩)]] w (PaT (On b) b v (parR l R) (fun _ _ => True) w) := by
  have HY := Lib.hid hy
  have HCA := Lib.hid cA
  have HLE := Lib.hid hR
  clear hy cA hR
  obtain ⟨tp, zp, hpl⟩ := hP
  have hb : b < w.heap.size := heap_lt h
  have hpw : 0 < w.heap.size := heap_lt hpl
  have H := Lib.hid h
  have HPL := Lib.hid hpl
  have HU := Lib.hid hu
  have HT := Lib.hid T
  have HN := Lib.hid hn
  have hpl2 : ((w.alloc (.cells #[.pointer (some ⟨b, 0, none⟩)] 70)).alloc (.cells #[.pointer none] 24)).heap[0]? = some (.cells plV tp zp) := (((Up.refl w).alloc _).alloc _).row hpl
  clear h hpl hu T hn
  go_enter Tryz.func163, Tryz.ntmps163
  go_wp2_with (refine wpList_load_row rfl 182 (.global 0) rfl 0 rfl tp plV zp _ hpl2 Tryz.underlying182 rfl (by kernel_rfl) ?_)
  generalize hA : plV = AR
  have HAR := Lib.hid hA
  obtain ⟨W0, hW0⟩ : ∃ W0, (w.alloc (.cells #[.pointer (some ⟨b, 0, none⟩)] 70)).alloc (.cells #[.pointer none] 24) = W0 := ⟨_, rfl⟩
  have z0 : W0.heap.size = w.heap.size + 2 := by rw [← hW0]; simp
  have b1 : W0.heap[w.heap.size]? = some (.cells #[.pointer (some ⟨b, 0, none⟩)] 70 (0, 0)) := by rw [← hW0]; exact old_row _ (heap_alloc_new w _)
  have b2 : W0.heap[w.heap.size + 1]? = some (.cells #[.pointer none] 24 (0, 0)) := by rw [← hW0]; exact new_at _ _ (by simp)
  have u0 : Up w W0 := by rw [← hW0]; exact ((Up.refl w).alloc _).alloc _
  have B1 := Lib.hid b1
  have B2 := Lib.hid b2
  have UZ := Lib.hid u0
  rw [hW0]
  clear hA hpl2 hW0 b1 b2 u0
  go_loopw [6] (fun x wr => ∃ k : Nat, k ≤ 3 ∧ x = .int .i64 (k : Int) ∧ Gs (On b) W0 wr ∧ Psr wr b v i 0) (fun x _ => 4 - (intOf x).toNat)
  case atStart => exact ⟨0, Nat.zero_le _, rfl, Gs.refl _ _, H.out.up UZ.out⟩
  case round =>
    obtain ⟨k, hk, rfl, hg, ps⟩ := hrel
    have hgs := hg.size
    have hur : Up V0 wr := hg.up (HU.out.trans UZ.out) (fun q hq => by rw [hq]; exact hbW)
    have r1 : wr.heap[w.heap.size]? = some (.cells #[.pointer (some ⟨b, 0, none⟩)] 70 (0, 0)) := hg.row B1.out (by unfold On; omega)
    have r2 : wr.heap[w.heap.size + 1]? = some (.cells #[.pointer none] 24 (0, 0)) := hg.row B2.out (by unfold On; omega)
    have c1 : wr.cell? ⟨w.heap.size, 0, none⟩ = some (.pointer (some ⟨b, 0, none⟩)) := cell_of_row wr w.heap.size 0 _ _ _ r1
    have hbw : w.heap.size < wr.heap.size := by omega
    by_cases hlt : k < 3
    · have hix : ∀ W, (Instr.index 182 (.agg AR) (.int .i64 (k : Int))).run Tryz.prog W = .ok (.agg #[.string (plS k), .int .i64 ((k + 1 : Nat) : Int)]) W := fun W => by rw [← HAR.out]; exact pl_idx k (by omega) W
      have hw : IntKind.i64.wrap ((k : Int) + 1) = ((k + 1 : Nat) : Int) := by rw [IntKind.wrap_i64]; omega
      have hkz : (k : Int) < 3 := by omega
      obtain ⟨X, hX⟩ : ∃ X, plS k = X := ⟨_, rfl⟩
      obtain ⟨ka, hka⟩ : ∃ ka, ((k + 1 : Nat) : Int) = ka := ⟨_, rfl⟩
      rw [hX, hka] at hix
      have HX := Lib.hid hX
      have HKA := Lib.hid hka
      rw [hka] at hw
      obtain ⟨Wr, hWr⟩ : ∃ Wr, wr.alloc (.cells #[.string X, .int .i64 ka] 181) = Wr := ⟨_, rfl⟩
      have ur : Up wr Wr := by rw [← hWr]; exact (Up.refl wr).alloc _
      have cT : Calls Tryz.prog 135 #[.pointer (some ⟨b, 0, none⟩), .string X] Wr (TaP b v i 0 (tkB l i 0 X) Wr) := takes_any b v i 0 X Wr HT.out (ps.up ur) (hur.trans ur) hi
      rw [← hX] at cT
      rw [HN.out k (by omega), hX] at cT
      have HG := Lib.hid hg
      have WRD := Lib.hid hWr
      have UR := Lib.hid ur
      clear hX hka hWr ur hg ps hur r1 r2
      go_wp2_with fail
      rw [WRD.out]
      refine cT.mono ?_
      rintro en w2 ⟨rfl, g2, h2⟩
      go_wp2_with fail
      go_roundw
      case rel => exact ⟨k + 1, by omega, i64_eq (by have := HKA.out; omega), (HG.out.trans (Gs.of UR.out)).trans g2, h2⟩
      case measure => simp [intOf]; have := HKA.out; omega
    · obtain rfl : k = 3 := by omega
      have hSee : Calls Tryz.prog 196 #[.pointer (some ⟨b, 0, none⟩), .string kOpen] wr (BoU true wr) := by have h := sees_any b v i 0 kOpen wr HT.out ps hur; rw [HY.out] at h; exact h
      have HG := Lib.hid hg
      have HPS := Lib.hid ps
      have HR1 := Lib.hid r1
      have HR2 := Lib.hid r2
      have HUR := Lib.hid hur
      clear hg ps r1 r2 hur
      go_wp2_with fail
      refine hSee.mono ?_
      rintro en w1 ⟨rfl, u1⟩
      have c1b := (show Up wr w1 from u1).cell c1
      have hz1 : wr.heap.size ≤ w1.heap.size := (show Up wr w1 from u1).size
      have hgA : Gs (On b) w w1 := ((Gs.of UZ.out).trans HG.out).trans (Gs.of u1)
      have HB2 : Hid (Boxed w1 (w.heap.size + 1) 24 (.pointer none)) := Lib.hid (Up.row u1 HR2.out)
      have HB1 : Hid (w1.heap[w.heap.size]? = some (.cells #[.pointer (some ⟨b, 0, none⟩)] 70 (0, 0))) := Lib.hid (Up.row u1 HR1.out)
      have cB := between_any b v i 0 kOpen kShut 215 #[.pointer (some ⟨w.heap.size, 0, none⟩), .pointer (some ⟨w.heap.size + 1, 0, none⟩)] (fun _ _ => by kernel_rfl) (Two b (w.heap.size + 1)) (fun q hq => by have := HU.out.size; rcases hq with hq | hq <;> omega) hbW (rI R) (rE R) (P1 w (w.heap.size + 1) R) w1
        HT.out (HPS.out.up u1) (HUR.out.trans u1) hi (by have h := HLE.out.1; cases R <;> (simp only [rI]; simp only [pl] at h; omega)) (fun w2 g2 h2 => by
          rw [HY.out] at h2
          exact lit1_any w b v w.heap.size (w.heap.size + 1) none R w2 (by have := g2.size; omega) (by omega) (by have := g2.size; omega) (cell_of_row w2 _ 0 _ _ _ (g2.row HB1.out (by unfold On; omega))) (g2.row HB2.out (by unfold On; omega)) (HCA.out w2 (hgA.trans g2) h2))
      have HGA := Lib.hid hgA
      clear hgA u1 hSee c1
      go_wp2_with fail
      refine cB.mono ?_
      rintro en w4 ⟨⟨u, rfl⟩, w2, w3, g2, g3, ⟨A, b3, hT⟩, g4, h4⟩
      have b4 : Boxed w4 (w.heap.size + 1) 24 (.pointer A) := g4.row b3 (by unfold On; omega)
      have c4 := b4.cell
      have f4 := b4.frozen
      have hb4 := b4.lt
      have hgF : Gs (On b) w w4 := ((HGA.out.trans g2).out2 g3 (by omega)).trans g4
      have HGF := Lib.hid hgF
      have HTT : Hid (∀ t j, R = .inl (t, j) → InT w4 (fun q => NewS w w4 q ∧ q ≠ w.heap.size + 1) (.pointer A) t) := Lib.hid fun t j hR => InT.keep (hT t j hR) (fun q hq => ⟨⟨hq.1.1, Nat.lt_of_lt_of_le hq.1.2 g4.size⟩, hq.2⟩) fun q hq => g4.block q hq.1.2 (by have := hq.1.1; unfold On; omega)
      have H4 := Lib.hid h4
      have B4 := Lib.hid b4
      clear cB b4 hgF h4 g2 g3 g4 b3 hT
      go_wp2_with fail
      obtain ⟨WF, hWF⟩ : ∃ WF, w4.setCell ⟨w.heap.size + 1, 0, none⟩ (.pointer A) = WF := ⟨_, rfl⟩
      have bF : Boxed WF (w.heap.size + 1) 24 (.pointer A) := by rw [← hWF]; exact B4.out.set _
      have r0 := bF.cell
      have hs : WF.heap.size = w4.heap.size := by rw [← hWF]; simp [World.setCell]
      have hne : ∀ q, q ≠ w.heap.size + 1 → WF.heap[q]? = w4.heap[q]? := fun q hq => by rw [← hWF]; exact Below.heap_setCell _ _ _ _ hq
      have gF : Gs (On b) w WF := by rw [← hWF]; exact HGF.out.set _ _ (.inr (by simp))
      have pF : Psr WF b v (neI (rI R) (tkB l (rI R) (rE R) kShut)) (neE (rE R) (tkB l (rI R) (rE R) kShut)) := (hne b (by omega)).trans H4.out
      have hle := HLE.out
      rw [hWF]
      refine bodyPost_ret (v := .pointer A) (by simp [results, Tryz.results163, go_sem, r0]) rfl ⟨_, rfl, gF, ?_⟩
      cases R with
      | inr e =>
        obtain ⟨p, r⟩ := e
        have hr : ¬ r = 0 := hle.2 p r rfl
        simp only [rI, rE] at pF
        rw [tk_err hr, ne_err hr] at pF
        exact pF
      | inl e =>
        obtain ⟨t, j⟩ := e
        simp only [rI, rE] at pF
        rw [tk_ok] at pF
        unfold parR
        simp only
        cases hk : key l j kShut with
        | false => rw [hk] at pF; exact pF
        | true =>
          rw [hk] at pF
          exact ⟨InT.keep (HTT.out t j rfl) (fun q hq => ⟨hq.1.1, by rw [hs]; exact hq.1.2⟩) (fun q hq => hne q hq.2), pF, trivial⟩
end
end Go.Proofs.YthonaeigacfmbaaGreatDoor
