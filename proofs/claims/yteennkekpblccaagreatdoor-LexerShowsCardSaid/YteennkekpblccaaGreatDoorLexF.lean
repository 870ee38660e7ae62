/-
  The lexer's number: what it tells.
-/
import Derived.Test.YteennkekpblccaaGreatDoorLexE
import Derived.Laws.Tables
namespace Go.Proofs.YteennkekpblccaaGreatDoor
open Go.RowKit

/-! ### a result that lies in a block of the call's own -/
theorem results_cell_two {P : Program} {fn : Func} {p q : Tmp} {ty : TypeId} (h : fn.results = #[.cell p ty, .tmp q]) (tmps : Array Value) (w : World) (g : Nat) (t : TypeId) (cs : Array Value) (fr : Nat × Nat) (d : TypeDesc)
    (hp : tmps.getD p undef = .pointer (some ⟨g, 0, none⟩)) (hg : w.heap[g]? = some (.cells cs t fr))
    (hu : P.underlying ty = some d) (hd : (match d with | .struct _ | .array _ _ => true | _ => false) = true) (hi : (P.info? ty).map (·.size) = some cs.size) :
    (results fn tmps).run P w = .ok (.tuple #[.agg cs, tmps.getD q undef]) w := by
  have hp' : tmps[p]?.getD undef = .pointer (some ⟨g, 0, none⟩) := by simpa using hp
  simp [results, h, hp', asAddr, run_loadVar_row w g t ty cs fr d hg hu hd hi]
/-- The block of a token that is not told yet. -/
def TZ : Array Value := #[.int .i64 0, .string ⟨#[]⟩, .int .i64 0, .int .i64 0]
def Rc (w : World) (B : Nat) (cs : Array Value) : Prop := w.heap[B]? = some (.cells cs 24 (0, 0))
theorem Rc.below {w w' : World} {B : Nat} {cs : Array Value} (h : Rc w B cs) (hb : Below w.heap.size w w') : Rc w' B cs := heap_below h hb
theorem Rc.cells {w : World} {B : Nat} {a b c d : Value} (h : Rc w B #[a, b, c, d]) :
    (w.cell? ⟨B, 0, none⟩ = some a ∧ w.cell? ⟨B, 1, none⟩ = some b ∧ w.cell? ⟨B, 2, none⟩ = some c ∧ w.cell? ⟨B, 3, none⟩ = some d) ∧
    (w.frozen? ⟨B, 0, none⟩ = false ∧ w.frozen? ⟨B, 1, none⟩ = false ∧ w.frozen? ⟨B, 2, none⟩ = false ∧ w.frozen? ⟨B, 3, none⟩ = false) :=
  ⟨⟨cell_of_row w B 0 _ _ _ h, cell_of_row w B 1 _ _ _ h, cell_of_row w B 2 _ _ _ h, cell_of_row w B 3 _ _ _ h⟩, ⟨frozen_of_row w B 0 _ _ h, frozen_of_row w B 1 _ _ h, frozen_of_row w B 2 _ _ h, frozen_of_row w B 3 _ _ h⟩⟩
theorem Rc.st {w : World} {B : Nat} {cs : Array Value} (h : Rc w B cs) (i : Nat) (u : Value) : Rc (w.setCell ⟨B, i, none⟩ u) B (cs.setIfInBounds i u) := by
  unfold Rc at h ⊢
  simp [World.setCell, Array.getElem?_modify, h]
def four (w : World) (B : Nat) (x y z u : Value) : World := (((w.setCell ⟨B, 0, none⟩ x).setCell ⟨B, 1, none⟩ y).setCell ⟨B, 2, none⟩ z).setCell ⟨B, 3, none⟩ u
theorem Rc.four {w : World} {B : Nat} {a b c d : Value} (h : Rc w B #[a, b, c, d]) (x y z u : Value) : Rc (four w B x y z u) B #[x, y, z, u] := (((h.st 0 x).st 1 y).st 2 z).st 3 u
theorem below_four {B g : Nat} {w w' : World} (h : Below B w w') (hg : B ≤ g) (x y z u : Value) : Below B w (four w' g x y z u) := (((h.setCell hg _).setCell hg _).setCell hg _).setCell hg _
theorem Rc.new_ (w : World) : Rc (w.alloc (.cells #[.int .i64 0, .string ⟨#[]⟩, .int .i64 0, .int .i64 0] 24)) w.heap.size #[.int .i64 0, .string ⟨#[]⟩, .int .i64 0, .int .i64 0] := heap_alloc_new w _

/-- What number leaves: r is what digT tells of the digits' text; b bytes stand ahead of them. -/
def NmbPost (d : List Nat) (b : Nat) (W : World) (e : Ending) (w' : World) : Prop :=
  e = .returned (.tuple #[(match digT (decide (b = 1)) d with | none => tv0 | some (t, _) => tv t 0), .int .i64 ((match digT (decide (b = 1)) d with | none => 0 | some _ => b + cnt dig d) : Nat)]) ∧ Below W.heap.size W w'
theorem nmb_none {d : List Nat} {b : Nat} {W w' : World} (h : digT (decide (b = 1)) d = none) (hb : Below W.heap.size W w') : NmbPost d b W (.returned (.tuple #[.agg #[.int .i64 0, .string ⟨#[]⟩, .int .i64 0, .int .i64 0], .int .i64 0])) w' := by
  unfold NmbPost
  rw [h]
  exact ⟨rfl, hb⟩
theorem nmb_some {d : List Nat} {b : Nat} {W w' : World} {v z : Int} {s : ByteArray} {t : Tok × Nat} (h : digT (decide (b = 1)) d = some t) (h1 : t.1 = ⟨2, numb v, v⟩) (hs : s = T (numb v)) (hz : z = (b + cnt dig d : Nat)) (hb : Below W.heap.size W w') :
    NmbPost d b W (.returned (.tuple #[.agg #[.int .i64 2, .string s, .int .i64 v, .int .i64 0], .int .i64 z])) w' := by
  unfold NmbPost
  rw [h, hs, hz]
  obtain ⟨t1, t2⟩ := t
  simp only at h1
  subst h1
  exact ⟨rfl, hb⟩

theorem dig_none1 {b : Bool} {d : List Nat} (h : cnt inr (d.drop (cnt dig d)) ≠ 0) : digT b d = none := by
  unfold digT; rw [if_pos (by omega)]
theorem dig_none2 {b : Bool} {d : List Nat} (h : cnt dig d = 0) : digT b d = none := by
  unfold digT
  by_cases h1 : cnt inr (d.drop (cnt dig d)) > 0
  · rw [if_pos h1]
  · rw [if_neg h1, if_pos h]
theorem dig_none3 {b : Bool} {d : List Nat} (h : 1073741824 < val 0 (d.take (cnt dig d))) : digT b d = none := by
  unfold digT
  by_cases h1 : cnt inr (d.drop (cnt dig d)) > 0
  · rw [if_pos h1]
  · rw [if_neg h1]
    by_cases h2 : cnt dig d = 0
    · rw [if_pos h2]
    · rw [if_neg h2, if_pos h]
theorem dig_some {b : Bool} {d : List Nat} {v : Int} (h1 : cnt inr (d.drop (cnt dig d)) = 0) (h2 : cnt dig d ≠ 0) (h3 : val 0 (d.take (cnt dig d)) ≤ 1073741824) (hv : v = if b then -(val 0 (d.take (cnt dig d)) : Int) else (val 0 (d.take (cnt dig d)) : Int)) :
    ∃ n, digT b d = some (⟨2, numb v, v⟩, n) := by
  unfold digT
  rw [if_neg (by omega), if_neg h2, if_neg (by omega), hv]
  cases b
  · exact ⟨_, rfl⟩
  · exact ⟨_, rfl⟩

set_option maxHeartbeats 6400000 in
set_option maxRecDepth 100000 in
theorem number_go (S : ByteArray) (d : List Nat) (b : Nat) (hb : b ≤ 1) (ho : okl d) (hsz : sz d ≤ 100000000) (hS : S.size = b + sz d) (w : World) (hL : Lx w)
    (cT : ∀ W, Calls Tryz.prog 70 #[.string S, .string ⟨#[126]⟩] W fun e w' => e = .returned (.string (T d)) ∧ W = w') :
    Calls Tryz.prog 49 #[.string S] w (NmbPost d b w) := by
  obtain ⟨k, hk⟩ : ∃ k, cnt dig d = k := ⟨_, rfl⟩
  have hkl := cnt_le dig d
  have hdg := digs_take d
  rw [hk] at hkl hdg
  have hsk : sz (d.take k) = k := by rw [sz_ascii (digs_ascii hdg), List.length_take]; omega
  have hdk : d = d.take k ++ d.drop k := (List.take_append_drop _ _).symm
  have hszk : k ≤ sz d := by have := sz_len d; omega
  have E1 : Hid ((T d).extract k (T d).size = T (d.drop k)) := Lib.hid (by
    have := T_suf (d.take k) (d.drop k)
    rw [hsk, ← hdk] at this
    rw [T_size]; exact this)
  have E2 : Hid ((T d).extract 0 k = T (d.take k)) := Lib.hid (by
    have := T_pre (d.take k) (d.drop k)
    rw [hsk, ← hdk] at this
    exact this)
  have c1 := fun W => run_isDigit (T d) W
  rw [rn_T0 dig ho, hk, hsk] at c1
  have c2 := fun W => run_goesOn (T (d.drop k)) W
  rw [rn_T0 inr (okl_drop ho k)] at c2
  have HK := Lib.hid hk
  have hTs : (T d).size = sz d := T_size d
  obtain ⟨j, hj⟩ : ∃ j, sz ((d.drop k).take (cnt inr (d.drop k))) = j := ⟨_, rfl⟩
  have HJ : Hid (j = 0 ↔ cnt inr (d.drop k) = 0) := Lib.hid (by
    have h1 := sz_len ((d.drop k).take (cnt inr (d.drop k)))
    have h2 := cnt_le inr (d.drop k)
    rw [List.length_take] at h1
    constructor
    · intro h; omega
    · intro h; rw [← hj, h]; rfl)
  have hjl : j ≤ 100000000 := by
    have h1 : sz d = sz (d.take k) + sz (d.drop k) := by rw [← sz_app, ← hdk]
    have h2 : sz (d.drop k) = sz ((d.drop k).take (cnt inr (d.drop k))) + sz ((d.drop k).drop (cnt inr (d.drop k))) := by rw [← sz_app, List.take_append_drop]
    omega
  rw [hj] at c2
  clear hj hk hdk hsk
  obtain ⟨D, hD⟩ : ∃ D, T d = D := ⟨_, rfl⟩
  rw [hD] at cT c1 hTs E1 E2
  have HD := Lib.hid hD
  have hTs1 : D.size ≤ sz d := by omega
  have hTs2 : sz d ≤ D.size := by omega
  have hS1 : S.size ≤ b + D.size := by omega
  have hS2 : b + D.size ≤ S.size := by omega
  clear hD hTs hS
  by_cases hj0 : j = 0
  · have HJ0 := Lib.hid (HJ.out.1 hj0)
    have hj0' : ¬ (0 : Int) < (j : Int) := by omega
    clear hj0
    go_enter Tryz.func49, Tryz.ntmps49
    go_wp2_with fail
    refine (cT _).mono ?_
    rintro e w' ⟨rfl, rfl⟩
    go_wp2_with fail
    refine (c1 _).mono ?_
    rintro e w1 ⟨rfl, hb1⟩
    go_wp2_with fail
    rw [E1.out]
    refine (c2 _).mono ?_
    rintro e w2 ⟨rfl, hb2⟩
    have hr2 := ((Rc.new_ w).below hb1).below hb2
    have hb3 := ((Below.refl _ _).alloc (Nat.le_refl _) _).trans ((hb1.mono (by simp)).trans (hb2.mono (by have := hb1.size; simp at this; omega)))
    have HR2 := Lib.hid hr2
    clear hr2
    by_cases hval : k ≠ 0 ∧ val 0 (d.take k) < 9223372036854775808
    · obtain ⟨v, hv⟩ : ∃ v, val 0 (d.take k) = v := ⟨_, rfl⟩
      have hsk1 : sz (d.take k) ≤ 1000000000 := by
        have h1 : sz d = sz (d.take k) + sz (d.drop k) := by rw [← sz_app, List.take_append_drop]
        omega
      have hne : d.take k ≠ [] := fun h => hval.1 (by have := congrArg List.length h; rw [List.length_take] at this; simp only [List.length_nil] at this; omega)
      have c3 := fun W => atoi_ok (d := d.take k) hdg hne hval.2 hsk1 W
      clear hsk1 hne
      rw [hv] at c3 hval
      have HV := Lib.hid hv
      have hv63 := hval.2
      have HK0 := Lib.hid hval.1
      clear hv hval
      go_wp2_with fail
      rw [E2.out]
      refine (c3 _).mono ?_
      rintro e w3 ⟨rfl, hb3'⟩
      have hr3 := HR2.out.below hb3'
      have hb4 := hb3.trans (hb3'.mono hb3.size)
      obtain ⟨⟨q0, q1, q2, q3⟩, f0, f1, f2, f3⟩ := hr3.cells
      have HR := Lib.hid hr3
      clear hr3
      by_cases hbig : 1073741824 < v
      · have hbig' : (1073741824 : Int) < (v : Int) := by omega
        go_wp2
        refine bodyPost_ret (results_cell_two rfl _ _ w.heap.size _ _ (0, 0) _ rfl (Rc.four HR.out _ _ _ _) Tryz.underlying24 rfl (by kernel_rfl)) rfl ?_
        exact nmb_none (dig_none3 (by rw [HK.out, HV.out]; exact hbig)) (below_four hb4 (Nat.le_refl _) _ _ _ _)
      · have hbig' : ¬ (1073741824 : Int) < (v : Int) := by omega
        clear q0 q1 q2 q3 f0 f1 f2 f3
        rcases (show b = 0 ∨ b = 1 by omega) with rfl | rfl
        · have hdif : (S.size : Int) - (D.size : Int) = 0 := by omega
          have cN := fun W hL => number_txt ((v : Int)) (by omega) (by omega) W hL
          obtain ⟨X, hX⟩ : ∃ X, T (numb ((v : Int))) = X := ⟨_, rfl⟩
          rw [hX] at cN
          have HX := Lib.hid hX
          have CN := Lib.hid cN
          clear cN hX
          go_wp2_with fail
          refine (CN.out w3 (hL.below hb4)).mono ?_
          rintro e w4 ⟨rfl, hb5⟩
          have hr4 := HR.out.below hb5
          have hb6 := hb4.trans (hb5.mono hb4.size)
          obtain ⟨⟨q0, q1, q2, q3⟩, f0, f1, f2, f3⟩ := hr4.cells
          have HR4 := Lib.hid hr4
          clear hr4
          go_wp2
          refine bodyPost_ret (results_cell_two rfl _ _ w.heap.size _ _ (0, 0) _ rfl (Rc.four HR4.out _ _ _ _) Tryz.underlying24 rfl (by kernel_rfl)) rfl ?_
          obtain ⟨n, hn⟩ := dig_some (b := decide (0 = 1)) (v := (v : Int)) (by rw [HK.out]; exact HJ0.out) (by rw [HK.out]; exact HK0.out) (by rw [HK.out, HV.out]; omega) (by rw [HK.out, HV.out]; rfl)
          exact nmb_some hn rfl HX.out.symm (by rw [HK.out]; first | rfl | omega | go_num) (below_four hb6 (Nat.le_refl _) _ _ _ _)
        · have hdif : (S.size : Int) - (D.size : Int) = 1 := by omega
          have cN := fun W hL => number_txt (-(v : Int)) (by omega) (by omega) W hL
          obtain ⟨X, hX⟩ : ∃ X, T (numb (-(v : Int))) = X := ⟨_, rfl⟩
          rw [hX] at cN
          have HX := Lib.hid hX
          have CN := Lib.hid cN
          clear cN hX
          go_wp2_with fail
          refine (CN.out w3 (hL.below hb4)).mono ?_
          rintro e w4 ⟨rfl, hb5⟩
          have hr4 := HR.out.below hb5
          have hb6 := hb4.trans (hb5.mono hb4.size)
          obtain ⟨⟨q0, q1, q2, q3⟩, f0, f1, f2, f3⟩ := hr4.cells
          have HR4 := Lib.hid hr4
          clear hr4
          go_wp2
          refine bodyPost_ret (results_cell_two rfl _ _ w.heap.size _ _ (0, 0) _ rfl (Rc.four HR4.out _ _ _ _) Tryz.underlying24 rfl (by kernel_rfl)) rfl ?_
          obtain ⟨n, hn⟩ := dig_some (b := decide (1 = 1)) (v := -(v : Int)) (by rw [HK.out]; exact HJ0.out) (by rw [HK.out]; exact HK0.out) (by rw [HK.out, HV.out]; omega) (by rw [HK.out, HV.out]; rfl)
          exact nmb_some hn rfl HX.out.symm (by rw [HK.out]; first | rfl | omega | go_num) (below_four hb6 (Nat.le_refl _) _ _ _ _)
    · have hsk1 : sz (d.take k) ≤ 1000000000 := by
        have h1 : sz d = sz (d.take k) + sz (d.drop k) := by rw [← sz_app, List.take_append_drop]
        omega
      have c3 := fun W hL => atoi_no (d := d.take k) hdg (by
        by_cases h : k = 0
        · left; rw [h]; rfl
        · right; exact fun hv => hval ⟨h, hv⟩) hsk1 W hL
      have C3 := Lib.hid c3
      have HV : Hid (k = 0 ∨ 1073741824 < val 0 (d.take k)) := Lib.hid (by omega)
      clear hsk1 hval c3
      go_wp2_with fail
      rw [E2.out]
      refine (C3.out w2 (hL.below hb3)).mono ?_
      rintro e w3 ⟨z, ty, p, rfl, hb3'⟩
      have hr3 := HR2.out.below hb3'
      have hb4 := hb3.trans (hb3'.mono hb3.size)
      obtain ⟨⟨q0, q1, q2, q3⟩, f0, f1, f2, f3⟩ := hr3.cells
      have HR := Lib.hid hr3
      clear hr3
      go_wp2
      refine bodyPost_ret (results_cell_two rfl _ _ w.heap.size _ _ (0, 0) _ rfl (Rc.four HR.out _ _ _ _) Tryz.underlying24 rfl (by kernel_rfl)) rfl ?_
      refine nmb_none ?_ (below_four hb4 (Nat.le_refl _) _ _ _ _)
      rcases HV.out with h | h
      · exact dig_none2 (by rw [HK.out]; exact h)
      · exact dig_none3 (by rw [HK.out]; exact h)
  · have HJ0 := Lib.hid (fun h => hj0 (HJ.out.2 h))
    have hj0' : (0 : Int) < (j : Int) := by omega
    clear hj0
    go_enter Tryz.func49, Tryz.ntmps49
    go_wp2_with fail
    refine (cT _).mono ?_
    rintro e w' ⟨rfl, rfl⟩
    go_wp2_with fail
    refine (c1 _).mono ?_
    rintro e w1 ⟨rfl, hb1⟩
    go_wp2_with fail
    rw [E1.out]
    refine (c2 _).mono ?_
    rintro e w2 ⟨rfl, hb2⟩
    have hr2 := ((Rc.new_ w).below hb1).below hb2
    have hb3 := ((Below.refl _ _).alloc (Nat.le_refl _) _).trans ((hb1.mono (by simp)).trans (hb2.mono (by have := hb1.size; simp at this; omega)))
    obtain ⟨⟨q0, q1, q2, q3⟩, f0, f1, f2, f3⟩ := hr2.cells
    have HR := Lib.hid hr2
    clear hr2
    go_wp2
    refine bodyPost_ret (results_cell_two rfl _ _ w.heap.size _ _ (0, 0) _ rfl (Rc.four HR.out _ _ _ _) Tryz.underlying24 rfl (by kernel_rfl)) rfl ?_
    exact nmb_none (dig_none1 (by rw [HK.out]; exact HJ0.out)) (below_four hb3 (Nat.le_refl _) _ _ _ _)

theorem digT_n {b : Bool} {d : List Nat} {t : Tok} {n : Nat} (h : digT b d = some (t, n)) : n = (if b then 1 else 0) + cnt dig d := by
  unfold digT at h
  split at h
  · cases h
  split at h
  · cases h
  split at h
  · cases h
  · cases b
    · simp at h; simp; omega
    · simp at h; simp; omega
theorem sz_take_dig (d : List Nat) : sz (d.take (cnt dig d)) = cnt dig d := by
  have := cnt_le dig d
  rw [sz_ascii (digs_ascii (digs_take d)), List.length_take]
  omega
theorem numT_tilde (d : List Nat) : numT (126 :: d) = digT true d := rfl
theorem numT_other {l : List Nat} (h : ∀ d, l ≠ 126 :: d) : numT l = digT false l := by
  unfold numT
  split
  · rename_i d; exact absurd rfl (h d)
  · rfl
/-- What number tells. -/
theorem number_any (l : List Nat) (ho : okl l) (hsz : sz l ≤ 100000000) (w : World) (hL : Lx w) :
    Calls Tryz.prog 49 #[.string (T l)] w (TkPost l (numT l) w) := by
  by_cases h : ∃ d, l = 126 :: d
  · obtain ⟨d, rfl⟩ := h
    have h1 : sz (126 :: d) = 1 + sz d := by rw [sz_cons, (wd_ascii (r := 126) (by omega)).1]
    have hd := (okl_cons.1 ho).2
    refine (number_go (T (126 :: d)) d 1 (by omega) hd (by omega) (by rw [T_size, h1]) w hL fun W => (Tryz.strings_TrimPrefix _ _ W).mono fun _ _ k => ⟨?_, k.2.symm⟩).mono fun e w' k => ?_
    · rw [k.1, T_list]
      exact congrArg (fun x => Ending.returned (.string x)) (T_of (trim_T1 d))
    · obtain ⟨k1, k2⟩ := k
      refine ⟨?_, k2⟩
      rw [k1, numT_tilde, show decide (1 = 1) = true from rfl]
      cases hr : digT true d with
      | none => rfl
      | some r =>
        obtain ⟨t, n⟩ := r
        have hn := digT_n hr
        have e1 : (126 :: d).take n = 126 :: d.take (cnt dig d) := by
          rw [hn, if_pos rfl, Nat.add_comm, List.take_succ_cons]
        simp only [e1, sz_cons, sz_take_dig, (wd_ascii (r := 126) (by omega)).1]
  · have h' : ∀ d, l ≠ 126 :: d := fun d hd => h ⟨d, hd⟩
    refine (number_go (T l) l 0 (by omega) ho hsz (by rw [T_size]; omega) w hL fun W => (Tryz.strings_TrimPrefix _ _ W).mono fun _ _ k => ⟨?_, k.2.symm⟩).mono fun e w' k => ?_
    · rw [k.1, T_list]
      exact congrArg (fun x => Ending.returned (.string x)) (T_of (trim_T0 ho h'))
    · obtain ⟨k1, k2⟩ := k
      refine ⟨?_, k2⟩
      rw [k1, numT_other h', show decide (0 = 1) = false from rfl]
      cases hr : digT false l with
      | none => rfl
      | some r =>
        obtain ⟨t, n⟩ := r
        have hn := digT_n hr
        have e1 : n = cnt dig l := by rw [hn]; simp
        simp only [e1, sz_take_dig, Nat.zero_add]
end Go.Proofs.YteennkekpblccaaGreatDoor
