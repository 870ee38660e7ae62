/-
  Layer 6, the program's parser: what its rules tell of any tokens from any place on.
-/
import Derived.Test.YthonaeigacfmbaaGreatDoorGq36
namespace Go.Proofs.YthonaeigacfmbaaGreatDoor
open Go.RowKit Go.Maps

theorem PaT.imp {S : Nat → Prop} {b : Nat} {v : Value} {R : Rs Tr} {J J' : Tr → World → Prop} {w : World} {en : Ending} {w' : World} (h : PaT S b v R J w en w') (hJ : ∀ t j, R = .inl (t, j) → Gs S w w' → J t w' → J' t w') : PaT S b v R J' w en w' := by
  obtain ⟨A, h1, h2, h3⟩ := h
  refine ⟨A, h1, h2, ?_⟩
  cases R with
  | inr e => exact h3
  | inl e => exact ⟨h3.1, h3.2.1, hJ _ _ rfl h2 h3.2.2⟩
def arW (b : Nat) (k : Int) (w : World) : World := (w.alloc (.cells #[.pointer (some ⟨b, 0, none⟩)] 70)).alloc (.cells #[.int .i64 k] 3)
theorem arW_up (b : Nat) (k : Int) (w : World) : Up w (arW b k w) := ((Up.refl w).alloc _).alloc _
theorem arW_kd (b : Nat) (k : Int) (w : World) : (arW b k w).heap[w.heap.size + 1]? = some (.cells #[.int .i64 k] 3 (0, 0)) := new_at _ _ (by simp)
theorem PaT.base {b : Nat} {v : Value} {R : Rs Tr} {a w w' : World} {en : Ending} (u : Up a w) (h : PaT (On b) b v R (fun _ _ => True) w en w') : PaT (On b) b v R (fun _ _ => True) a en w' := by
  obtain ⟨A, h1, h2, h3⟩ := h
  refine ⟨A, h1, (Gs.of u).trans h2, ?_⟩
  cases R with
  | inr e => exact h3
  | inl e => exact ⟨h3.1.base u.size, h3.2.1, trivial⟩
set_option maxHeartbeats 6400000 in
set_option maxRecDepth 100000 in
theorem arrows_walk (b : Nat) (v : Value) (R : Rs Tr) (w : World) (hb : b < w.heap.size) (cN : ∀ w', Up (arW b 5 w) w' → Calls Tryz.prog 84 #[.pointer (some ⟨b, 0, none⟩), .string kArrow, .func (.func 85) #[.agg #[.pointer (some ⟨b, 0, none⟩)]] #[], jv (w.heap.size + 1)] w' (PaT (On b) b v R (fun _ _ => True) w')) :
    Calls Tryz.prog 48 #[.agg #[.pointer (some ⟨b, 0, none⟩)]] w (PaT (On b) b v R (fun _ _ => True) w) := by
  have HN := Lib.hid cN
  have HW : Hid (arW b 5 w = (w.alloc (.cells #[.pointer (some ⟨b, 0, none⟩)] 70)).alloc (.cells #[.int .i64 5] 3)) := Lib.hid rfl
  have hb0 : w.heap.size ≠ b := by omega
  clear cN
  go_enter Tryz.func48, Tryz.ntmps48
  go_wp2_with fail
  obtain ⟨W0, hW0⟩ : ∃ W0, w.alloc (.cells #[.pointer (some ⟨b, 0, none⟩)] 70) = W0 := ⟨_, rfl⟩
  have r0 : W0.heap[w.heap.size]? = some (.cells #[.pointer (some ⟨b, 0, none⟩)] 70 (0, 0)) := by rw [← hW0]; exact heap_alloc_new w _
  have c0 : W0.cell? ⟨w.heap.size, 0, none⟩ = some (.pointer (some ⟨b, 0, none⟩)) := cell_of_row W0 w.heap.size 0 _ _ _ r0
  have z0 : W0.heap.size = w.heap.size + 1 := by rw [← hW0]; simp
  have hz0 : w.heap.size < W0.heap.size := by omega
  have HW0 := Lib.hid hW0
  have HZ0 := Lib.hid z0
  have R0 := Lib.hid r0
  rw [hW0]
  clear hW0 r0 z0
  go_region_held3 (fun w' => w'.cell? ⟨w.heap.size, 0, none⟩ = some (.pointer (some ⟨b, 0, none⟩))) (first | go_keep | assumption)
    (first
      | (go_at_call 86; refine (pairs_any 5 _).mono ?_; rintro e w2 ⟨he, h2⟩; obtain rfl : e = .returned (jv (w.heap.size + 1)) := (by rw [he, ← HZ0.out]; rfl); have c2 : w2.cell? ⟨w.heap.size, 0, none⟩ = some (.pointer (some ⟨b, 0, none⟩)) := (by rw [h2]; exact cell_of_row _ _ 0 _ _ _ (old_row _ (show _ = _ from R0.out))); have U2 : Hid (Up (arW b 5 w) w2) := Lib.hid (by rw [h2, HW.out, HW0.out]; exact ⟨rfl, rfl, rfl, Nat.le_refl _, fun _ _ => rfl⟩); clear h2 he)
      | (go_at_call 84; refine (HN.out _ U2.out).mono ?_; rintro e w3 ⟨A, rfl, h⟩; have c3 : w3.cell? ⟨w.heap.size, 0, none⟩ = some (.pointer (some ⟨b, 0, none⟩)) := h.1.cell c2 (by unfold On; exact hb0); have H3 := Lib.hid h; clear h))
  all_goals (first | go_wp2_with fail | skip)
  all_goals go_ret
  all_goals exact PaT.base ((arW_up b 5 w).trans U2.out) ⟨_, rfl, H3.out⟩
set_option maxHeartbeats 6400000 in
set_option maxRecDepth 100000 in
theorem product_walk (b : Nat) (v : Value) (R : Rs Tr) (w : World) (hb : b < w.heap.size) (cN : ∀ w', Up (arW b 6 w) w' → Calls Tryz.prog 84 #[.pointer (some ⟨b, 0, none⟩), .string kStar, .func (.func 163) #[.agg #[.pointer (some ⟨b, 0, none⟩)]] #[], jv (w.heap.size + 1)] w' (PaT (On b) b v R (fun _ _ => True) w')) :
    Calls Tryz.prog 85 #[.agg #[.pointer (some ⟨b, 0, none⟩)]] w (PaT (On b) b v R (fun _ _ => True) w) := by
  have HN := Lib.hid cN
  have HW : Hid (arW b 6 w = (w.alloc (.cells #[.pointer (some ⟨b, 0, none⟩)] 70)).alloc (.cells #[.int .i64 6] 3)) := Lib.hid rfl
  have hb0 : w.heap.size ≠ b := by omega
  clear cN
  go_enter Tryz.func85, Tryz.ntmps85
  go_wp2_with fail
  obtain ⟨W0, hW0⟩ : ∃ W0, w.alloc (.cells #[.pointer (some ⟨b, 0, none⟩)] 70) = W0 := ⟨_, rfl⟩
  have r0 : W0.heap[w.heap.size]? = some (.cells #[.pointer (some ⟨b, 0, none⟩)] 70 (0, 0)) := by rw [← hW0]; exact heap_alloc_new w _
  have c0 : W0.cell? ⟨w.heap.size, 0, none⟩ = some (.pointer (some ⟨b, 0, none⟩)) := cell_of_row W0 w.heap.size 0 _ _ _ r0
  have z0 : W0.heap.size = w.heap.size + 1 := by rw [← hW0]; simp
  have hz0 : w.heap.size < W0.heap.size := by omega
  have HW0 := Lib.hid hW0
  have HZ0 := Lib.hid z0
  have R0 := Lib.hid r0
  rw [hW0]
  clear hW0 r0 z0
  go_region_held3 (fun w' => w'.cell? ⟨w.heap.size, 0, none⟩ = some (.pointer (some ⟨b, 0, none⟩))) (first | go_keep | assumption)
    (first
      | (go_at_call 86; refine (pairs_any 6 _).mono ?_; rintro e w2 ⟨he, h2⟩; obtain rfl : e = .returned (jv (w.heap.size + 1)) := (by rw [he, ← HZ0.out]; rfl); have c2 : w2.cell? ⟨w.heap.size, 0, none⟩ = some (.pointer (some ⟨b, 0, none⟩)) := (by rw [h2]; exact cell_of_row _ _ 0 _ _ _ (old_row _ (show _ = _ from R0.out))); have U2 : Hid (Up (arW b 6 w) w2) := Lib.hid (by rw [h2, HW.out, HW0.out]; exact ⟨rfl, rfl, rfl, Nat.le_refl _, fun _ _ => rfl⟩); clear h2 he)
      | (go_at_call 84; refine (HN.out _ U2.out).mono ?_; rintro e w3 ⟨A, rfl, h⟩; have c3 : w3.cell? ⟨w.heap.size, 0, none⟩ = some (.pointer (some ⟨b, 0, none⟩)) := h.1.cell c2 (by unfold On; exact hb0); have H3 := Lib.hid h; clear h))
  all_goals (first | go_wp2_with fail | skip)
  all_goals go_ret
  all_goals exact PaT.base ((arW_up b 6 w).trans U2.out) ⟨_, rfl, H3.out⟩
theorem own_base {w : World} {B B' : Nat} {e : TypeId} {v : Value} {n : Nat} {xs : List Value} (h : w.ownsRow B e 1 v n xs) (hB : B' ≤ B) : w.ownsRow B' e 1 v n xs := by
  refine ⟨h.1, ?_⟩
  rcases h.2 with h2 | ⟨g, cap, cur, h3, h4, h5⟩
  · exact .inl h2
  · exact .inr ⟨g, cap, cur, h3, Nat.le_trans hB h4, h5⟩
def consW (b : Nat) (w : World) : World := ((w.alloc (.cells #[.pointer (some ⟨b, 0, none⟩)] 70)).alloc (.map #[] 0)).alloc (.cells #[.map (some (w.heap.size + 1))] 119)
theorem consW_up (b : Nat) (w : World) : Up w (consW b w) := (((Up.refl w).alloc _).alloc _).alloc _
theorem consW_size (b : Nat) (w : World) : (consW b w).heap.size = w.heap.size + 3 := by simp [consW]
theorem consW_box (b : Nat) (w : World) : (consW b w).heap[w.heap.size]? = some (.cells #[.pointer (some ⟨b, 0, none⟩)] 70 (0, 0)) := old_row _ (old_row _ (heap_alloc_new w _))
theorem consW_st (b : Nat) (w : World) : StC (consW b w) (w.heap.size + 2) (w.heap.size + 1) [] := by
  refine ⟨new_at _ _ (by simp), by omega, ?_⟩
  have hm : ((w.alloc (.cells #[.pointer (some ⟨b, 0, none⟩)] 70)).alloc (.map #[] 0)).ownsMap Tryz.prog 9 (unitElem (H := Unit)) (w.alloc (.cells #[.pointer (some ⟨b, 0, none⟩)] 70)).heap.size 0 (.map []) := World.ownsMap_made _ _ _ _
  rw [World.size_alloc] at hm
  exact map_belowC hm ((Below.refl _ _).alloc (Nat.le_refl _) _)
set_option maxHeartbeats 3200000 in
set_option maxRecDepth 100000 in
theorem cons_walk (b : Nat) (v : Value) (R : Rs Fr) (J : Fr → World → Prop) (w : World)
    (hrow : Calls Tryz.prog 89 #[.pointer (some ⟨b, 0, none⟩), .string kBar, .func (.func 90) #[] #[.pointer (some ⟨w.heap.size, 0, none⟩), .pointer (some ⟨w.heap.size + 2, 0, none⟩)]] (consW b w) (RowP (Two b (w.heap.size + 1)) b v R J (consW b w))) :
    Calls Tryz.prog 52 #[.agg #[.pointer (some ⟨b, 0, none⟩)]] w (RowP (On b) b v R (fun _ _ => True) w) := by
  have hmm : ∀ W : World, (Instr.makeMap 119 none).run Tryz.prog W = .ok (.map (some W.heap.size)) (W.alloc (.map #[] 0)) := fun W => by kernel_rfl
  have HW : Hid (consW b w = ((w.alloc (.cells #[.pointer (some ⟨b, 0, none⟩)] 70)).alloc (.map #[] 0)).alloc (.cells #[.map (some (w.heap.size + 1))] 119)) := Lib.hid rfl
  have HR := Lib.hid hrow
  clear hrow
  go_enter Tryz.func52, Tryz.ntmps52
  go_wp2_with fail
  refine Calls.mono HR.out ?_
  rintro en w1 ⟨vo, ps, rfl, ⟨ho, hpt⟩, hp0, hpl, g1, hR⟩
  have hG1 := Lib.hid g1
  have hHR := Lib.hid hR
  clear g1 hR HR
  go_wp2_with fail
  go_ret
  have hz := consW_size b w
  have hu := consW_up b w
  refine ⟨vo, ps, rfl, ⟨own_base ho (by omega), hpt⟩, hp0, hpl, ⟨hG1.out.os.trans hu.os, hG1.out.tape.trans hu.tape, hG1.out.output.trans hu.output, Nat.le_trans hu.size hG1.out.size, fun k hk hn => (hG1.out.block k (by omega) (by rintro (h | h); exact hn h; omega)).trans (hu.block k hk)⟩, ?_⟩
  have h := hHR.out
  cases R with
  | inr e => exact h
  | inl e =>
    obtain ⟨h1, h2, -⟩ := h
    exact ⟨PtF.keep (fun q hq => ⟨⟨by have := hq.1.1; omega, hq.1.2⟩, hq.2⟩) (fun _ _ => rfl) h1, h2, trivial⟩
section
variable {nk lg : ByteArray → Bool}
structure Prs (nk lg : ByteArray → Bool) (V0 : World) (v : Value) (l : List Tk) (b : Nat) : Prop where
  T : Toks nk lg V0 v l
  P : Pl V0
  hb : V0.heap.size ≤ b
  hl : l.length ≤ 100000
  hz : ∀ t ∈ l, t.s.size ≤ 1000000000
theorem nam_sz {p : ByteArray → Bool} {l : List Tk} {i : Nat} {s : ByteArray} (hz : ∀ t ∈ l, t.s.size ≤ 1000000000) (h : nam p l i = some s) : s.size ≤ 1000000000 := by
  unfold nam at h
  split at h
  · rename_i t ht
    split at h
    · rw [← Option.some.inj h]; exact hz t (List.mem_of_getElem? ht)
    · cases h
  · cases h
section
variable {V0 : World} {v : Value} {l : List Tk} {b : Nat}
theorem atom_err (Q : Prs nk lg V0 v l b) (i : Nat) (r : Int) (hr : ¬ r = 0) (hi : i ≤ 1000000) (w : World) (h : Psr w b v i r) (hu : Up V0 w) : Calls Tryz.prog 163 #[.agg #[.pointer (some ⟨b, 0, none⟩)]] w (PaT (On b) b v (.inr (i, r)) (fun _ _ => True) w) := by
  have c := atom_name b v i r w Q.T h hu Q.hb (Q.P.up hu) hi (fun k _ => tk_err hr) (tk_err hr) (tk_err hr)
  unfold nameR at c
  rw [if_neg hr] at c
  exact c
theorem product_err (Q : Prs nk lg V0 v l b) (i : Nat) (r : Int) (hr : ¬ r = 0) (hi : i ≤ 1000000) (w : World) (h : Psr w b v i r) (hu : Up V0 w) : Calls Tryz.prog 85 #[.agg #[.pointer (some ⟨b, 0, none⟩)]] w (PaT (On b) b v (.inr (i, r)) (fun _ _ => True) w) := by
  have hb := heap_lt h
  refine product_walk b v _ w hb fun w' u0 => ?_
  have u1 := (arW_up b 6 w).trans u0
  have ua := u1.alloc (.cells #[jv (w.heap.size + 1)] 116)
  have hz := u1.size
  exact nested_any b v kStar 6 _ (.inr (i, r)) (fun _ _ => True) w' (by omega) (w.heap.size + 1) (u0.row (arW_kd b 6 w)) (by omega)
    (row_err (l := l) b v (On b) (fun k hk => by rw [hk, World.size_alloc]; omega) rfl (fun k hk => by rw [hk]; exact Q.hb) kStar 163 #[.agg #[.pointer (some ⟨b, 0, none⟩)]] #[] (fun _ _ => by kernel_rfl) i r hr _ rfl (fun _ _ => True)
      (atom_err Q i r hr hi _ (h.up ua) (hu.trans ua)) (fun _ _ => True) Q.T (hu.trans ua) hi)
theorem arrows_err (Q : Prs nk lg V0 v l b) (i : Nat) (r : Int) (hr : ¬ r = 0) (hi : i ≤ 1000000) (w : World) (h : Psr w b v i r) (hu : Up V0 w) : Calls Tryz.prog 48 #[.agg #[.pointer (some ⟨b, 0, none⟩)]] w (PaT (On b) b v (.inr (i, r)) (fun _ _ => True) w) := by
  have hb := heap_lt h
  refine arrows_walk b v _ w hb fun w' u0 => ?_
  have u1 := (arW_up b 5 w).trans u0
  have ua := u1.alloc (.cells #[jv (w.heap.size + 1)] 116)
  have hz := u1.size
  exact nested_any b v kArrow 5 _ (.inr (i, r)) (fun _ _ => True) w' (by omega) (w.heap.size + 1) (u0.row (arW_kd b 5 w)) (by omega)
    (row_err (l := l) b v (On b) (fun k hk => by rw [hk, World.size_alloc]; omega) rfl (fun k hk => by rw [hk]; exact Q.hb) kArrow 85 #[.agg #[.pointer (some ⟨b, 0, none⟩)]] #[] (fun _ _ => by kernel_rfl) i r hr _ rfl (fun _ _ => True)
      (product_err Q i r hr hi _ (h.up ua) (hu.trans ua)) (fun _ _ => True) Q.T (hu.trans ua) hi)
theorem look_0 (Q : Prs nk lg V0 v l b) {o : Option ByteArray} {j : Nat} (ho : nam nk l j = o) (w : World) (h : Psr w b v j 0) (hu : Up V0 w) : Calls Tryz.prog 91 #[.pointer (some ⟨b, 0, none⟩), .func (.func 20) #[] #[]] w (AnP (.string (o.getD nob)) o.isSome w) := by
  have c := look_N b v j 0 (.string (o.getD nob)) o.isSome w (fun w' u => by rw [← ho]; exact Q.T.name j w' (hu.trans u)) h
  rw [if_pos rfl, decide_eq_true rfl, Bool.true_and] at c
  exact c
theorem look_e (Q : Prs nk lg V0 v l b) {j : Nat} {r : Int} (hr : ¬ r = 0) (w : World) (h : Psr w b v j r) (hu : Up V0 w) : Calls Tryz.prog 91 #[.pointer (some ⟨b, 0, none⟩), .func (.func 20) #[] #[]] w (AnP (.string nob) false w) := by
  have c := look_N b v j r (.string ((nam nk l j).getD nob)) (nam nk l j).isSome w (fun w' u => Q.T.name j w' (hu.trans u)) h
  rw [if_neg hr, decide_eq_false hr, Bool.false_and] at c
  exact c
theorem named_0 (Q : Prs nk lg V0 v l b) {o : Option ByteArray} {j : Nat} (hj : j ≤ 1000000) (e : Int) (ho : e = 0 → nam nk l j = o) (w : World) (hu : Up V0 w) (h : Psr w b v j e) : Calls Tryz.prog 93 #[.pointer (some ⟨b, 0, none⟩), .func (.func 20) #[] #[]] w (NmP b v (nmS o e) (nmI o j e) (nmE o e) w) := by
  have c := named_N b v j e (nam nk l j) w (fun w' u => Q.T.name j w' (hu.trans u)) h hj
  by_cases he : e = 0
  · rw [ho he] at c
    exact c
  · have e1 : ∀ o : Option ByteArray, nmS o e = nob ∧ nmI o j e = j ∧ nmE o e = e := fun o => ⟨if_neg he, if_neg he, if_neg he⟩
    rw [(e1 _).1, (e1 _).2.1, (e1 _).2.2] at c
    rw [(e1 _).1, (e1 _).2.1, (e1 _).2.2]
    exact c
theorem con_good (Q : Prs nk lg V0 v l b) (acc : Fr) (j : Nat) (hj : j ≤ l.length) (hacc : acc.len ≤ j) (B1 pb mb : Nat) (w : World) (h : Psr w b v j 0) (hu : Up V0 w) (hmW : V0.heap.size ≤ mb) (hB1 : w.heap[B1]? = some (.cells #[.pointer (some ⟨b, 0, none⟩)] 70 (0, 0))) (hst : StC w pb mb (namesF acc)) (n1 : B1 ≠ b) (n2 : B1 ≠ mb) (n3 : pb ≠ b) (n4 : mb ≠ b)
    (cA : ∀ k w', j < k → k ≤ l.length → Up V0 w' → Psr w' b v k 0 → Calls Tryz.prog 48 #[.agg #[.pointer (some ⟨b, 0, none⟩)]] w' (PaT (On b) b v (typL nk lg l k) (fun _ _ => True) w')) :
    Calls Tryz.prog 90 #[.pointer (some ⟨B1, 0, none⟩), .pointer (some ⟨pb, 0, none⟩)] w (PaT (Two b mb) b v (conS nk lg l acc j) (fun t w' => StC w' pb mb (namesF (acc.app (fr1 t)))) w) := by
  have hl := Q.hl
  have hN : (namesF acc).length ≤ 200000 := by rw [namesF_len]; omega
  have hsW : ∀ q, Two b mb q → V0.heap.size ≤ q := fun q hq => by have := Q.hb; rcases hq with hq | hq <;> omega
  have eW : ∀ w', Gs (Two b mb) w w' → Up V0 w' := fun w' g => g.up hu hsW
  unfold conS
  cases ho : nam nk l j with
  | none =>
    have e1 : coI l none j 0 = j := by unfold coI; show neI j (tkB l j 6 kOf) = j; rw [tk_err (by decide)]; rfl
    have e2 : coE l none j 0 = 6 := by unfold coE; show neE 6 (tkB l j 6 kOf) = 6; rw [tk_err (by decide)]; rfl
    have c := con_none (nk := nk) (lg := lg) (l := l) b v j 0 B1 pb mb (namesF acc) w Q.T h hu Q.hb hmW (by omega) hN hB1 hst n1 n2 n3 n4 (look_0 Q ho w h hu) (fun w' u p => named_0 Q (by omega) 0 (fun _ => ho) w' u p) (by decide) trivial (.inr (j, 6)) fun w' g p => by
      rw [e1, e2] at p
      exact arrows_err Q j 6 (by decide) (by omega) w' p (eW w' g)
    exact c.mono fun e w' hp => hp.imp fun t j' he => by cases he
  | some s =>
    have hsz : s.size ≤ 2000000000 := by have := nam_sz Q.hz ho; omega
    have hjl := nam_lt ho
    simp only
    cases hh : hasN acc s with
    | true =>
      rw [← hasC_N] at hh
      have e1 : coI l (some s) j 9 = j := by unfold coI; show neI j (tkB l j 9 kOf) = j; rw [tk_err (by decide)]; rfl
      have e2 : coE l (some s) j 9 = 9 := by unfold coE; show neE 9 (tkB l j 9 kOf) = 9; rw [tk_err (by decide)]; rfl
      have c := con_old (nk := nk) (lg := lg) (l := l) b v j 0 B1 pb mb (namesF acc) w Q.T h hu Q.hb hmW (by omega) hN hB1 hst n1 n2 n3 n4 s 9 rfl (look_0 Q ho w h hu) (fun w' u p => named_0 Q (by omega) 9 (fun _ => ho) w' u p) hsz hh (.inr (j, 9)) fun w' g p => by
        rw [e1, e2] at p
        exact arrows_err Q j 9 (by decide) (by omega) w' p (eW w' g)
      rw [if_pos rfl]
      exact c.mono fun e w' hp => hp.imp fun t j' he => by cases he
    | false =>
      rw [← hasC_N] at hh
      rw [if_neg (by decide)]
      cases hk : key l (j + 1) kOf with
      | false =>
        have e1 : coI l (some s) j 0 = j + 1 := by unfold coI; show neI (j + 1) (tkB l (j + 1) 0 kOf) = j + 1; rw [tk_ok, hk]; rfl
        have e2 : coE l (some s) j 0 = 6 := by unfold coE; show neE 0 (tkB l (j + 1) 0 kOf) = 6; rw [tk_ok, hk]; rfl
        have c := con_new (nk := nk) (lg := lg) (l := l) b v j 0 B1 pb mb (namesF acc) w Q.T h hu Q.hb hmW (by omega) hN hB1 hst n1 n2 n3 n4 s (look_0 Q ho w h hu) (fun w' u p => named_0 Q (by omega) 0 (fun _ => ho) w' u p) hsz hh (.inr (j + 1, 6)) fun w' g p => by
          rw [e1, e2] at p
          exact arrows_err Q (j + 1) 6 (by decide) (by omega) w' p (eW w' g)
        rw [if_neg (by decide)]
        exact c.mono fun e w' hp => hp.imp fun t j' he => by cases he
      | true =>
        have hkl := key_lt hk
        have e1 : coI l (some s) j 0 = j + 2 := by unfold coI; show neI (j + 1) (tkB l (j + 1) 0 kOf) = j + 2; rw [tk_ok, hk]; rfl
        have e2 : coE l (some s) j 0 = 0 := by unfold coE; show neE 0 (tkB l (j + 1) 0 kOf) = 0; rw [tk_ok, hk]; rfl
        have c := con_new (nk := nk) (lg := lg) (l := l) b v j 0 B1 pb mb (namesF acc) w Q.T h hu Q.hb hmW (by omega) hN hB1 hst n1 n2 n3 n4 s (look_0 Q ho w h hu) (fun w' u p => named_0 Q (by omega) 0 (fun _ => ho) w' u p) hsz hh (typL nk lg l (j + 2)) fun w' g p => by
          rw [e1, e2] at p
          exact cA (j + 2) w' (by omega) (by omega) (eW w' g) p
        rw [if_pos rfl]
        have hc : conR (nmS (some s) 0) (typL nk lg l (j + 2)) = (match typL nk lg l (j + 2) with
          | .inr e => .inr e
          | .inl (t, j) => .inl (nd 8 s (fr1 t), j)) := rfl
        rw [hc] at c
        refine c.mono fun e w' hp => hp.imp fun t j' he _ hJ => ?_
        have ht : t.1.a = s := by
          cases hT : typL nk lg l (j + 2) with
          | inr e => rw [hT] at he; cases he
          | inl q =>
            rw [hT] at he
            have he : nd 8 s (fr1 q.1) = t := congrArg Prod.fst (Sum.inl.inj he)
            rw [← he]
            rfl
        rw [namesF_app, ht]
        exact hJ
theorem cons_err (Q : Prs nk lg V0 v l b) (i : Nat) (r : Int) (hr : ¬ r = 0) (hi : i ≤ 500000) (w : World) (h : Psr w b v i r) (hu : Up V0 w) : Calls Tryz.prog 52 #[.agg #[.pointer (some ⟨b, 0, none⟩)]] w (RowP (On b) b v (.inr (i, r)) (fun _ _ => True) w) := by
  have hb := heap_lt h
  have hz := hu.size
  have u3 := consW_up b w
  have z3 := consW_size b w
  have hbV := Q.hb
  have hsW : ∀ q, Two b (w.heap.size + 1) q → V0.heap.size ≤ q := fun q hq => by rcases hq with hq | hq <;> omega
  have p3 := h.up u3
  refine cons_walk b v _ (fun _ _ => True) w (row_err (l := l) b v (Two b (w.heap.size + 1)) (fun k hk => by rcases hk with hk | hk <;> omega) (.inl rfl) hsW kBar 90 #[] #[.pointer (some ⟨w.heap.size, 0, none⟩), .pointer (some ⟨w.heap.size + 2, 0, none⟩)] (fun _ _ => by kernel_rfl) i r hr (.inr (i, r)) rfl (fun _ _ => True) ?_ (fun _ _ => True) Q.T (hu.trans u3) (by omega))
  have e0 : (#[] ++ #[.pointer (some ⟨w.heap.size, 0, none⟩), .pointer (some ⟨w.heap.size + 2, 0, none⟩)] : Array Value) = #[.pointer (some ⟨w.heap.size, 0, none⟩), .pointer (some ⟨w.heap.size + 2, 0, none⟩)] := by simp
  rw [e0]
  have e1 : coI l none i r = i := by unfold coI nmI nmE; rw [if_neg hr, if_neg hr, tk_err hr]; rfl
  have e2 : coE l none i r = r := by unfold coE nmI nmE; rw [if_neg hr, if_neg hr, tk_err hr]; exact ne_err hr
  have c := con_none (nk := nk) (lg := lg) (l := l) b v i r w.heap.size (w.heap.size + 2) (w.heap.size + 1) [] (consW b w) Q.T p3 (hu.trans u3) hbV (by omega) hi (by simp) (consW_box b w) (consW_st b w) (by omega) (by omega) (by omega) (by omega) (look_e Q hr _ p3 (hu.trans u3)) (fun w' u p => named_0 Q (by omega) r (fun h => absurd h hr) w' u p) (by decide) trivial (.inr (i, r)) fun w' g p => by
    rw [e1, e2] at p
    exact arrows_err Q i r hr (by omega) w' p (g.up (hu.trans u3) hsW)
  exact c.mono fun e w' hp => hp.imp fun _ _ _ _ _ => trivial
def ArrAt (nk lg : ByteArray → Bool) (V0 : World) (v : Value) (l : List Tk) (b k : Nat) : Prop := ∀ w, Up V0 w → Psr w b v k 0 → Calls Tryz.prog 48 #[.agg #[.pointer (some ⟨b, 0, none⟩)]] w (PaT (On b) b v (typL nk lg l k) (fun _ _ => True) w)
def ProdAt (nk lg : ByteArray → Bool) (V0 : World) (v : Value) (l : List Tk) (b k : Nat) : Prop := ∀ w, Up V0 w → Psr w b v k 0 → Calls Tryz.prog 85 #[.agg #[.pointer (some ⟨b, 0, none⟩)]] w (PaT (On b) b v (prodL nk lg l k) (fun _ _ => True) w)
def AtomAt (nk lg : ByteArray → Bool) (V0 : World) (v : Value) (l : List Tk) (b k : Nat) : Prop := ∀ w, Up V0 w → Psr w b v k 0 → Calls Tryz.prog 163 #[.agg #[.pointer (some ⟨b, 0, none⟩)]] w (PaT (On b) b v (atomL nk lg l k) (fun _ _ => True) w)
def ConsAt (nk lg : ByteArray → Bool) (V0 : World) (v : Value) (l : List Tk) (b k : Nat) : Prop := ∀ w, Up V0 w → Psr w b v k 0 → Calls Tryz.prog 52 #[.agg #[.pointer (some ⟨b, 0, none⟩)]] w (RowP (On b) b v (consL nk lg l k .nil) (fun _ _ => True) w)
theorem product_good (Q : Prs nk lg V0 v l b) (i : Nat) (hi : i ≤ l.length) (cA : ∀ j, i ≤ j → j ≤ l.length → AtomAt nk lg V0 v l b j) : ProdAt nk lg V0 v l b i := fun w hu h => by
  have hb := heap_lt h
  rw [← prodL_row l i hi]
  refine product_walk b v _ w hb fun w' u0 => ?_
  have u1 := (arW_up b 6 w).trans u0
  have ua := u1.alloc (.cells #[jv (w.heap.size + 1)] 116)
  have hz := u1.size
  exact nested_any b v kStar 6 _ (rowL l kStar (fun _ => atomL nk lg l) .nil i) (fun _ _ => True) w' (by omega) (w.heap.size + 1) (u0.row (arW_kd b 6 w)) (by omega)
    (row_any (W0 := V0) (l := l) b v (On b) (fun k hk => by rw [hk, World.size_alloc]; omega) rfl (fun k hk => by rw [hk]; exact Q.hb) kStar (fun _ => atomL nk lg l) (fun _ => atomL_ahead l) (fun _ i hi => atomL_le l i hi) 163 #[.agg #[.pointer (some ⟨b, 0, none⟩)]] #[] (fun _ _ => by kernel_rfl)
      (fun _ _ => True) (fun _ _ _ _ _ => trivial) (rowL l kStar (fun _ => atomL nk lg l)) (fun acc j hj => rowL_eq (fun _ => atomL_ahead l) acc j hj) i hi (fun acc j w' h1 h2 _ g _ p => cA j h1 h2 w' (g.up (hu.trans ua) fun k hk => by rw [hk]; exact Q.hb) p) Q.T (hu.trans ua) Q.hl (h.up ua) trivial)
theorem arrows_good (Q : Prs nk lg V0 v l b) (i : Nat) (hi : i ≤ l.length) (cA : ∀ j, i ≤ j → j ≤ l.length → ProdAt nk lg V0 v l b j) : ArrAt nk lg V0 v l b i := fun w hu h => by
  have hb := heap_lt h
  rw [← typL_row l i hi]
  refine arrows_walk b v _ w hb fun w' u0 => ?_
  have u1 := (arW_up b 5 w).trans u0
  have ua := u1.alloc (.cells #[jv (w.heap.size + 1)] 116)
  have hz := u1.size
  exact nested_any b v kArrow 5 _ (rowL l kArrow (fun _ => prodL nk lg l) .nil i) (fun _ _ => True) w' (by omega) (w.heap.size + 1) (u0.row (arW_kd b 5 w)) (by omega)
    (row_any (W0 := V0) (l := l) b v (On b) (fun k hk => by rw [hk, World.size_alloc]; omega) rfl (fun k hk => by rw [hk]; exact Q.hb) kArrow (fun _ => prodL nk lg l) (fun _ => prodL_ahead l) (fun _ i hi => prodL_le l i hi) 85 #[.agg #[.pointer (some ⟨b, 0, none⟩)]] #[] (fun _ _ => by kernel_rfl)
      (fun _ _ => True) (fun _ _ _ _ _ => trivial) (rowL l kArrow (fun _ => prodL nk lg l)) (fun acc j hj => rowL_eq (fun _ => prodL_ahead l) acc j hj) i hi (fun acc j w' h1 h2 _ g _ p => cA j h1 h2 w' (g.up (hu.trans ua) fun k hk => by rw [hk]; exact Q.hb) p) Q.T (hu.trans ua) Q.hl (h.up ua) trivial)
theorem conS_le (l : List Tk) (acc : Fr) (i : Nat) (hi : i ≤ l.length) : LeOk l.length (conS nk lg l acc i) := by
  unfold conS
  cases ho : nam nk l i with
  | none => exact ⟨hi, fun p e h => by have h := congrArg Prod.snd (Sum.inr.inj h); have h : (6 : Int) = e := h; omega⟩
  | some s =>
    simp only
    split
    · exact ⟨hi, fun p e h => by have h := congrArg Prod.snd (Sum.inr.inj h); have h : (9 : Int) = e := h; omega⟩
    · split
      · rename_i hk
        have hkl := key_lt hk
        have ht := typL_le (nk := nk) (lg := lg) l (i + 2) (by omega)
        cases hT : typL nk lg l (i + 2) with
        | inr e => rw [hT] at ht; exact ⟨ht.1, fun p e' h => ht.2 p e' (by rw [← h])⟩
        | inl q => rw [hT] at ht; exact ⟨ht.1, fun p e h => by cases h⟩
      · have hjl := nam_lt ho
        exact ⟨by show i + 1 ≤ _; omega, fun p e h => by have h := congrArg Prod.snd (Sum.inr.inj h); have h : (6 : Int) = e := h; omega⟩
theorem cons_good (Q : Prs nk lg V0 v l b) (i : Nat) (hi : i ≤ l.length) (cA : ∀ j, i < j → j ≤ l.length → ArrAt nk lg V0 v l b j) : ConsAt nk lg V0 v l b i := fun w hu h => by
  have hb := heap_lt h
  have hz := hu.size
  have u3 := consW_up b w
  have z3 := consW_size b w
  have hbV := Q.hb
  have hsW : ∀ q, Two b (w.heap.size + 1) q → V0.heap.size ≤ q := fun q hq => by rcases hq with hq | hq <;> omega
  refine cons_walk b v _ (fun acc w' => StC w' (w.heap.size + 2) (w.heap.size + 1) (namesF acc) ∧ w'.heap[w.heap.size]? = some (.cells #[.pointer (some ⟨b, 0, none⟩)] 70 (0, 0))) w
    (row_any (W0 := V0) (l := l) b v (Two b (w.heap.size + 1)) (fun k hk => by rcases hk with hk | hk <;> omega) (.inl rfl) hsW kBar (conS nk lg l) (conS_ahead l) (fun acc i hi => conS_le l acc i hi) 90 #[] #[.pointer (some ⟨w.heap.size, 0, none⟩), .pointer (some ⟨w.heap.size + 2, 0, none⟩)] (fun _ _ => by kernel_rfl)
      _ (fun acc x y hJ hq => ?_) (fun acc j => consL nk lg l j acc) (fun acc j _ => consL_step l acc j) i hi (fun acc j w' h1 h2 h3 g hJ p => ?_) Q.T (hu.trans u3) Q.hl (h.up u3) ⟨consW_st b w, consW_box b w⟩)
  · obtain ⟨⟨s1, s2, es, clock, s3, s4⟩, s5⟩ := hJ
    exact ⟨⟨(hq _ (by omega) (by omega)).trans s1, s2, es, clock, (hq _ (by omega) (by omega)).trans s3, s4⟩, (hq _ (by omega) (by omega)).trans s5⟩
  · have e0 : (#[] ++ #[.pointer (some ⟨w.heap.size, 0, none⟩), .pointer (some ⟨w.heap.size + 2, 0, none⟩)] : Array Value) = #[.pointer (some ⟨w.heap.size, 0, none⟩), .pointer (some ⟨w.heap.size + 2, 0, none⟩)] := by simp
    rw [e0]
    have c := con_good Q acc j h2 (by omega) w.heap.size (w.heap.size + 2) (w.heap.size + 1) w' p (g.up (hu.trans u3) hsW) (by omega) hJ.2 hJ.1 (by omega) (by omega) (by omega) (by omega) fun k w2 hk1 hk2 hu2 p2 => cA k (by omega) hk2 w2 hu2 p2
    exact c.mono fun e w2 hp => hp.imp fun t j' _ g2 hj => ⟨hj, g2.row hJ.2 (by rintro (hq | hq) <;> omega)⟩
theorem plain_false {l : List Tk} {i : Nat} {s : ByteArray} (h : nam lg l i = some s) (x : ByteArray) : key l i x = false := by
  unfold nam at h
  unfold key
  split at h
  · rename_i t ht
    split at h
    · rename_i hc
      rw [Bool.and_eq_true] at hc
      have h1 : t.k = 1 := of_decide_eq_true hc.1
      rw [decide_eq_false (by omega : ¬ t.k = 3), Bool.false_and]
    · cases h
  · cases h
theorem atom_good (Q : Prs nk lg V0 v l b) (i : Nat) (hi : i ≤ l.length) (cA : ∀ j, i < j → j ≤ l.length → ArrAt nk lg V0 v l b j) (cC : ∀ j, i < j → j ≤ l.length → ConsAt nk lg V0 v l b j) : AtomAt nk lg V0 v l b i := fun w hu h => by
  have hl := Q.hl
  have hsW : ∀ q, On b q → V0.heap.size ≤ q := fun q hq => by rw [hq]; exact Q.hb
  rw [atomL_eq]
  unfold atomS
  have c0 : ∀ x, tkB l i 0 x = key l i x := fun x => tk_ok
  cases ho : nam lg l i with
  | some s =>
    have hk := plain_false ho
    have c := atom_name b v i 0 w Q.T h hu Q.hb (Q.P.up hu) (by omega) (fun k _ => by rw [c0, hk]) (by rw [c0, hk]) (by rw [c0, hk])
    rw [ho] at c
    exact c
  | none =>
    simp only
    cases k1 : key l i kInt with
    | true =>
      rw [if_pos rfl]
      exact atom_plain b v i 0 (by omega) w Q.T h hu Q.hb (Q.P.up hu) (by omega) (fun k hk => absurd hk (by omega)) (by rw [c0]; exact k1)
    | false =>
      rw [if_neg (by decide)]
      cases k2 : key l i kBool with
      | true =>
        rw [if_pos rfl]
        exact atom_plain b v i 1 (by omega) w Q.T h hu Q.hb (Q.P.up hu) (by omega) (fun k hk => by obtain rfl : k = 0 := (by omega); rw [c0]; exact k1) (by rw [c0]; exact k2)
      | false =>
        rw [if_neg (by decide)]
        cases k3 : key l i kUnit with
        | true =>
          rw [if_pos rfl]
          exact atom_plain b v i 2 (by omega) w Q.T h hu Q.hb (Q.P.up hu) (by omega) (fun k hk => by rw [c0]; obtain rfl | rfl : k = 0 ∨ k = 1 := (by omega); exact k1; exact k2) (by rw [c0]; exact k3)
        | false =>
          rw [if_neg (by decide)]
          have hn : ∀ k, k < 3 → tkB l i 0 (plS k) = false := fun k hk => by
            rw [c0]
            obtain rfl | rfl | rfl : k = 0 ∨ k = 1 ∨ k = 2 := by omega
            · exact k1
            · exact k2
            · exact k3
          cases k4 : key l i kOpen with
          | true =>
            rw [if_pos rfl]
            have hil := key_lt k4
            have c := atom_paren b v i (typL nk lg l (i + 1)) (typL_le l (i + 1) (by omega)) hl w Q.T h hu Q.hb (Q.P.up hu) (by omega) hn (by rw [c0]; exact k4) fun w' g p => cA (i + 1) (by omega) (by omega) w' (g.up hu hsW) p
            exact c
          | false =>
            rw [if_neg (by decide)]
            cases k5 : key l i kMu with
            | false =>
              rw [if_neg (by decide)]
              have c := atom_name b v i 0 w Q.T h hu Q.hb (Q.P.up hu) (by omega) hn (by rw [c0]; exact k4) (by rw [c0]; exact k5)
              rw [ho] at c
              exact c
            | true =>
              rw [if_pos rfl]
              have hil := key_lt k5
              cases hn2 : nam nk l (i + 1) with
              | none =>
                have e1 : muE l none (i + 1) = (i + 1, 6) := by unfold muE; show (neI (i + 1) (tkB l (i + 1) 6 kLeft), neE 6 (tkB l (i + 1) 6 kLeft)) = _; rw [tk_err (by decide)]; rfl
                have c := atom_mu (nk := nk) (lg := lg) b v i (.inr (i + 1, 6)) ⟨by show i + 1 ≤ _; omega, fun p e h => by have h := congrArg Prod.snd (Sum.inr.inj h); have h : (6 : Int) = e := h; omega⟩ hl w Q.T h hu Q.hb (Q.P.up hu) hi hn (by rw [c0]; exact k4) (by rw [c0]; exact k5) fun w' g p => by
                  rw [hn2, e1] at p
                  exact cons_err Q (i + 1) 6 (by decide) (by omega) w' p (g.up hu hsW)
                exact c
              | some s =>
                have hjl := nam_lt hn2
                cases k6 : key l (i + 2) kLeft with
                | false =>
                  have e1 : muE l (some s) (i + 1) = (i + 2, 6) := by unfold muE; show (neI (i + 2) (tkB l (i + 2) 0 kLeft), neE 0 (tkB l (i + 2) 0 kLeft)) = _; rw [tk_ok, k6]; rfl
                  have c := atom_mu (nk := nk) (lg := lg) b v i (.inr (i + 2, 6)) ⟨by show i + 2 ≤ _; omega, fun p e h => by have h := congrArg Prod.snd (Sum.inr.inj h); have h : (6 : Int) = e := h; omega⟩ hl w Q.T h hu Q.hb (Q.P.up hu) hi hn (by rw [c0]; exact k4) (by rw [c0]; exact k5) fun w' g p => by
                    rw [hn2, e1] at p
                    exact cons_err Q (i + 2) 6 (by decide) (by omega) w' p (g.up hu hsW)
                  exact c
                | true =>
                  have hkl := key_lt k6
                  have e1 : muE l (some s) (i + 1) = (i + 3, 0) := by unfold muE; show (neI (i + 2) (tkB l (i + 2) 0 kLeft), neE 0 (tkB l (i + 2) 0 kLeft)) = _; rw [tk_ok, k6]; rfl
                  have c := atom_mu (nk := nk) (lg := lg) b v i (consL nk lg l (i + 3) .nil) (consL_le l (i + 3) .nil (by omega)) hl w Q.T h hu Q.hb (Q.P.up hu) hi hn (by rw [c0]; exact k4) (by rw [c0]; exact k5) fun w' g p => by
                    rw [hn2, e1] at p
                    exact cC (i + 3) (by omega) (by omega) w' (g.up hu hsW) p
                  rw [hn2] at c
                  exact c
theorem all_good (Q : Prs nk lg V0 v l b) : ∀ (d i : Nat), l.length - i ≤ d → i ≤ l.length → ArrAt nk lg V0 v l b i ∧ ProdAt nk lg V0 v l b i ∧ AtomAt nk lg V0 v l b i ∧ ConsAt nk lg V0 v l b i
  | d, i, hd, hi => by
    have ih : ∀ j, i < j → j ≤ l.length → ArrAt nk lg V0 v l b j ∧ ProdAt nk lg V0 v l b j ∧ AtomAt nk lg V0 v l b j ∧ ConsAt nk lg V0 v l b j := fun j h1 h2 => by
      cases d with
      | zero => omega
      | succ d => exact all_good Q d j (by omega) h2
    have a1 := atom_good Q i hi (fun j h1 h2 => (ih j h1 h2).1) (fun j h1 h2 => (ih j h1 h2).2.2.2)
    have a2 := product_good Q i hi fun j h1 h2 => by
      rcases Nat.eq_or_lt_of_le h1 with rfl | h1
      · exact a1
      · exact (ih j h1 h2).2.2.1
    have a3 := arrows_good Q i hi fun j h1 h2 => by
      rcases Nat.eq_or_lt_of_le h1 with rfl | h1
      · exact a2
      · exact (ih j h1 h2).2.1
    exact ⟨a3, a2, a1, cons_good Q i hi fun j h1 h2 => (ih j h1 h2).1⟩
end
end
end Go.Proofs.YthonaeigacfmbaaGreatDoor
namespace Go.Proofs.YthonaeigacfmbaaGreatDoor
open Go.RowKit

structure CoSt (W wr : World) (vo : Value) (acc : Fr) (ps : List Value) : Prop where
  own : wr.ownsRow W.heap.size 24 1 vo acc.len ps
  kids : PtF wr (fun q => NewS W wr q ∧ vo.ownBlock ≠ some q) ps acc
theorem own_up {W a b : World} {v : Value} {n : Nat} {xs : List Value} {e : TypeId} (h : a.ownsRow W.heap.size e 1 v n xs) (u : Up a b) : b.ownsRow W.heap.size e 1 v n xs := by
  obtain ⟨h1, h2⟩ := h
  refine ⟨h1, ?_⟩
  rcases h2 with h2 | ⟨g, cap, cur, h3, h4, h5, h6⟩
  · exact .inl h2
  · exact .inr ⟨g, cap, cur, h3, h4, u.row h5, h6⟩
theorem CoSt.up {W a b : World} {vo : Value} {acc : Fr} {ps : List Value} (h : CoSt W a vo acc ps) (u : Up a b) : CoSt W b vo acc ps :=
  ⟨own_up h.own u, PtF.keep (fun _ hq => ⟨⟨hq.1.1, Nat.lt_of_lt_of_le hq.1.2 u.size⟩, hq.2⟩) (fun q hq => Below.block u q hq.1.2) h.kids⟩
theorem CoSt.form {W wr : World} {vo : Value} {acc : Fr} {ps : List Value} (h : CoSt W wr vo acc ps) : ∃ A c, vo = .slice A acc.len c ∧ acc.len ≤ c ∧ (∀ g, vo.ownBlock = some g → W.heap.size ≤ g ∧ g < wr.heap.size) ∧ (0 < acc.len → ∃ g, A = some ⟨g, 0, none⟩ ∧ ∀ (j : Nat) u, ps[j]? = some u → wr.cell? ⟨g, 0 + j, none⟩ = some u) := by
  have hlt := World.ownsRow.lt h.own
  rcases h.own.2 with ⟨h1, h2⟩ | ⟨g, cap, cur, h3, h4, h5, h6, _, h7, h8⟩
  · exact ⟨none, 0, by rw [h1, h2], by omega, hlt, fun h => by omega⟩
  · refine ⟨some ⟨g, 0, none⟩, cap, h3, h6, hlt, fun _ => ⟨g, rfl, fun j u hj => ?_⟩⟩
    rw [Nat.zero_add, cell_of_row wr g j _ _ _ h5]
    rw [← h8, List.getElem?_take] at hj
    split at hj
    · rw [← hj, Array.getElem?_toList]
    · cases hj
theorem CoSt.more {W wr w5 w6 : World} {vo v6 vc : Value} {acc : Fr} {ps : List Value} {t : Tr} {g cap n : Nat} (h : CoSt W wr vo acc ps) (u : Up wr w5) (hn : acc.len = n) (hlt : ∀ g, vo.ownBlock = some g → W.heap.size ≤ g ∧ g < wr.heap.size) (hW : W.heap.size ≤ wr.heap.size)
    (ht : NewT wr w5 vc t) (hv : v6 = .slice (some ⟨g, 0, none⟩) (n + 1) cap) (ho : w6.ownsRow W.heap.size 24 1 v6 (n + 1) (ps ++ [vc])) (hg : w5.grownBy w6 vo.ownBlock) (hat : vo.ownBlock = some g ∨ g = w5.heap.size) :
    CoSt W w6 v6 (acc.app (fr1 t)) (ps ++ [vc]) := by
  have hz := hg.size
  have hu := u.size
  have hob : v6.ownBlock = some g := by rw [hv]; rfl
  have hgn : ∀ q, q < w5.heap.size → vo.ownBlock ≠ some q → v6.ownBlock ≠ some q := fun q hq hne e => by
    rw [hob] at e
    injection e with e
    rcases hat with h1 | h1
    · rw [e] at h1; exact hne h1
    · omega
  have kp : ∀ q, q < w5.heap.size → vo.ownBlock ≠ some q → w6.heap[q]? = w5.heap[q]? := fun q hq hne => hg.block q hq fun e => hne e.symm
  refine ⟨?_, ?_⟩
  · rw [Fr.len_app]
    show w6.ownsRow _ _ 1 v6 (acc.len + 1) _
    rw [hn]
    exact ho
  · refine PtF.snoc (t := t) ?_ (PtF.keep (fun q hq => ⟨⟨hq.1.1, by have := hq.1.2; omega⟩, hgn q (by have := hq.1.2; omega) hq.2⟩) (fun q hq => (kp q (by have := hq.1.2; omega) hq.2).trans (Below.block u q hq.1.2)) h.kids)
    have hne : ∀ q, NewS wr w5 q → vo.ownBlock ≠ some q := fun q hq e => by have := (hlt q e).2; have := hq.1; omega
    exact InT.keep ht (fun q hq => ⟨⟨by have := hq.1; omega, by have := hq.2; omega⟩, hgn q hq.2 (hne q hq)⟩) fun q hq => kp q hq.2 (hne q hq)
theorem CoSt.done {W wr : World} {vo : Value} {acc : Fr} {ps : List Value} (h : CoSt W wr vo acc ps) (h0 : 0 < acc.len) : ∃ g c, vo = .slice (some ⟨g, 0, none⟩) acc.len c ∧ acc.len ≤ c ∧ NewS W wr g ∧ 0 < acc.len ∧ InF wr (NewS W wr) acc g 0 := by
  obtain ⟨A, c, hv, hc, hlt, hcell⟩ := h.form
  obtain ⟨g, rfl, hcs⟩ := hcell h0
  refine ⟨g, c, hv, hc, hlt g (by rw [hv]; rfl), h0, ?_⟩
  exact PtF.row (PtF.keep (fun _ hq => hq.1) (fun _ _ => rfl) h.kids) hcs
end Go.Proofs.YthonaeigacfmbaaGreatDoor
namespace Go.Proofs.YthonaeigacfmbaaGreatDoor
open Go.RowKit

section
variable (nk lg : ByteArray → Bool)
def typZ (l : List Tk) (i : Int) : Rs Tr := if i < 0 ∨ (l.length : Int) < i then .inr (0, 2) else typL nk lg l i.toNat
end
def RtV (R : Rs Tr) (w w' : World) (v : Value) (j e : Int) : Prop := match R with
  | .inl (t, q) => NewT w w' v t ∧ j = (q : Int) ∧ e = 0
  | .inr (p, r) => j = (p : Int) ∧ e = r ∧ v = .pointer none
def RtPost (R : Rs Tr) (w : World) (e : Ending) (w' : World) : Prop := ∃ v j er, e = .returned (.tuple #[v, .int .i64 j, .int .i64 er]) ∧ RtV R w w' v j er ∧ Up w w'
end Go.Proofs.YthonaeigacfmbaaGreatDoor
