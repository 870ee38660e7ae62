/-
  The document's signs: the longest one is the first of the program's list that begins the text.
-/
import Derived.Test.YthonaeigacfmbaaGreatDoorGp12
namespace Go.Proofs.YthonaeigacfmbaaGreatDoor.B
open Go.RowKit

def RS : List (List Nat) := [[40], [41], [123], [125], [44], [58], [58, 62], [61], [61, 62], [45, 62], [42], [43], [45], [60], [124], [35, 49], [35, 50]]
def rs (k : Nat) : List Nat := RS.getD k []
def bstep (d b x : List Nat) : List Nat := if x.isPrefixOf d && decide (b.length < x.length) then x else b
def bst (d : List Nat) (k : Nat) : List Nat := (RS.take k).foldl (bstep d) []
theorem rs_get (k : Nat) (h : k < 17) : RS[k]? = some (rs k) := by
  unfold rs
  rw [List.getD_eq_getElem?_getD, List.getElem?_eq_getElem (show k < RS.length from h)]
  rfl
theorem bst_succ (d : List Nat) {k : Nat} (h : k < 17) : bst d (k + 1) = bstep d (bst d k) (rs k) := by
  unfold bst
  rw [List.take_add_one, rs_get k h, List.foldl_append]
  rfl
theorem rs_mem (k : Nat) (h : k < 17) : rs k ∈ RS := List.mem_of_getElem? (rs_get k h)
theorem rs_ok : ∀ x ∈ RS, (∀ r ∈ x, r < 128) ∧ 1 ≤ x.length ∧ x.length ≤ 2 := by decide
theorem bst_or (d : List Nat) : ∀ k, k ≤ 17 → bst d k = [] ∨ bst d k ∈ RS
  | 0, _ => .inl rfl
  | k + 1, h => by
    rw [bst_succ d (by omega)]
    unfold bstep
    split
    · exact .inr (rs_mem k (by omega))
    · exact bst_or d k (by omega)
theorem bst_len (d : List Nat) {k : Nat} (h : k ≤ 17) : (∀ r ∈ bst d k, r < 128) ∧ (bst d k).length ≤ 2 := by
  rcases bst_or d k h with e | e
  · rw [e]; simp
  · have := rs_ok _ e; exact ⟨this.1, this.2.2⟩
def ofb (b : List Nat) : Option (Tok × Nat) := match b with | [] => none | b => some (⟨3, b, 0⟩, b.length)
theorem sign_bst (d : List Nat) : signT d = ofb (bst d 17) := by
  cases d with
  | nil => rfl
  | cons r u =>
    by_cases h40 : r = 40; · subst h40; rfl
    by_cases h41 : r = 41; · subst h41; rfl
    by_cases h123 : r = 123; · subst h123; rfl
    by_cases h125 : r = 125; · subst h125; rfl
    by_cases h44 : r = 44; · subst h44; rfl
    by_cases h42 : r = 42; · subst h42; rfl
    by_cases h43 : r = 43; · subst h43; rfl
    by_cases h60 : r = 60; · subst h60; rfl
    by_cases h124 : r = 124; · subst h124; rfl
    by_cases h58 : r = 58
    · subst h58
      cases u with
      | nil => rfl
      | cons q t =>
        by_cases hq : q = 62; · subst hq; rfl
        have e : ((62 : Nat) == q) = false := by rw [beq_eq_false_iff_ne]; omega
        simp [signT, SIGNS, bst, RS, bstep, ofb, List.isPrefixOf, e, List.find?]
    by_cases h61 : r = 61
    · subst h61
      cases u with
      | nil => rfl
      | cons q t =>
        by_cases hq : q = 62; · subst hq; rfl
        have e : ((62 : Nat) == q) = false := by rw [beq_eq_false_iff_ne]; omega
        simp [signT, SIGNS, bst, RS, bstep, ofb, List.isPrefixOf, e, List.find?]
    by_cases h45 : r = 45
    · subst h45
      cases u with
      | nil => rfl
      | cons q t =>
        by_cases hq : q = 62; · subst hq; rfl
        have e : ((62 : Nat) == q) = false := by rw [beq_eq_false_iff_ne]; omega
        simp [signT, SIGNS, bst, RS, bstep, ofb, List.isPrefixOf, e, List.find?]
    by_cases h35 : r = 35
    · subst h35
      cases u with
      | nil => rfl
      | cons q t =>
        by_cases hq : q = 49; · subst hq; rfl
        by_cases hq2 : q = 50; · subst hq2; rfl
        have e : ((49 : Nat) == q) = false := by rw [beq_eq_false_iff_ne]; omega
        have e2 : ((50 : Nat) == q) = false := by rw [beq_eq_false_iff_ne]; omega
        simp [signT, SIGNS, bst, RS, bstep, ofb, List.isPrefixOf, e, e2, List.find?]
    have hb : ∀ c : Nat, c ≠ r → (c == r) = false := fun c h => by rw [beq_eq_false_iff_ne]; exact h
    simp [signT, SIGNS, bst, RS, bstep, ofb, List.isPrefixOf, List.find?, hb 40 (Ne.symm h40), hb 41 (Ne.symm h41), hb 123 (Ne.symm h123), hb 125 (Ne.symm h125), hb 44 (Ne.symm h44), hb 42 (Ne.symm h42), hb 43 (Ne.symm h43), hb 60 (Ne.symm h60), hb 124 (Ne.symm h124), hb 58 (Ne.symm h58), hb 61 (Ne.symm h61), hb 45 (Ne.symm h45), hb 35 (Ne.symm h35)]
def rsV : Array Value := (RS.map fun x => Value.string (T x)).toArray
theorem rsV_at (k : Nat) (h : k < 17) : rsV[k]? = some (.string (T (rs k))) := by
  unfold rsV
  rw [List.getElem?_toArray, List.getElem?_map, rs_get k h]
  rfl
theorem signs_ref (w : World) : Calls Tryz.prog 103 #[] w fun e w' => e = .returned (.slice (some ⟨w.heap.size, 0, none⟩) 17 17) ∧ w' = w.alloc (.cells rsV 9) := by
  have hv : rsV = #[.string ⟨#[40]⟩] ++ rsV.extract 1 17 := by kernel_rfl
  clear hv
  go_enter Tryz.func103, Tryz.ntmps103
  go_wp2
  go_ret
  refine ⟨rfl, ?_⟩
  exact congrArg (fun c => w.alloc (.cells c 9)) (by kernel_rfl)
end Go.Proofs.YthonaeigacfmbaaGreatDoor.B
namespace Go.Proofs.YthonaeigacfmbaaGreatDoor.B
open Go.RowKit

theorem rt_pass {r : Option (Tok × Nat)} {i : Nat} {W w' : World} {K M Z : Int} {S : ByteArray} (h : ∀ t n, r = some (t, n) → K = t.k ∧ S = T t.x ∧ M = t.n ∧ Z = ((i + n : Nat) : Int)) (hb : Below W.heap.size W w') :
    RT r i W (.returned (.tuple #[.agg #[.int .i64 K, .string S, .int .i64 M, .int .i64 0], .int .i64 Z, .bool r.isSome])) w' := ⟨⟨K, S, M, Z, rfl, h⟩, hb⟩

theorem pre_eq {x d : List Nat} (hx : ∀ r ∈ x, r < 128) (hd : okl d) : x.isPrefixOf d = decide (T (d.take x.length) = T x) := by
  rw [Bool.eq_iff_iff, List.isPrefixOf_iff_prefix, decide_eq_true_iff, List.prefix_iff_eq_take]
  exact ⟨fun h => by rw [← h], fun h => (T_inj (okl_take hd _) (ok_ascii hx) h).symm⟩
theorem pre_short {x d : List Nat} (h : d.length < x.length) : x.isPrefixOf d = false := by
  cases hp : x.isPrefixOf d
  · rfl
  · have := (List.isPrefixOf_iff_prefix.1 hp).length_le; omega

set_option maxHeartbeats 12800000 in
set_option maxRecDepth 100000 in
theorem token_ref (v : Value) (l : List Nat) (B i r : Nat) (w : World) (h : Sl w B v l) (hB : B ≤ w.heap.size) (ho : okl l) (hl : l.length ≤ 100000) (hr : l[i]? = some r) (hop : opens (l.drop i) = false) :
    Calls Tryz.prog 64 #[v, .int .i64 (i : Int)] w (RT (tokT (l.drop i)) i w) := by
  have hi : i < l.length := (List.getElem?_eq_some_iff.1 hr).1
  have hd : l.drop i = r :: l.drop (i + 1) := drop_succ hr
  have ht : tokT (l.drop i) = if cls r = 1 then nameT (l.drop i) else if cls r = 2 ∨ r = 126 then numT (l.drop i) else if opens (l.drop i) then none else signT (l.drop i) := by rw [hd]; rfl
  rw [hop] at ht
  obtain ⟨A, c, rfl, hlc, _⟩ := id h
  have HSL := Lib.hid h
  have hbn : Below w.heap.size w (w.alloc (.cells #[.int .i64 0, .string ⟨#[]⟩, .int .i64 0, .int .i64 0] 63)) := (Below.refl _ _).alloc (Nat.le_refl _) _
  obtain ⟨ad, rfl, hc⟩ := cell_of (h.below (hbn.mono hB)) hr
  have cC := fun W => refClass (r : Int) W
  obtain ⟨k0, hk0⟩ : ∃ c, cls (r : Int) = c := ⟨_, rfl⟩
  rw [hk0] at cC ht
  have HRC := Lib.hid (Rc.new_ w)
  have HBN := Lib.hid hbn
  have cN := fun W (hb : Below w.heap.size w W) => name_ref (.slice (some ad) l.length c) l B i W (h.below (hb.mono hB)) (Nat.le_trans hB hb.size) ho hl (Nat.le_of_lt hi)
  have cM := fun W (hb : Below w.heap.size w W) => number_ref (.slice (some ad) l.length c) l B i W (h.below (hb.mono hB)) (Nat.le_trans hB hb.size) (by omega) hi
  have cT := fun (W : World) (p q : Nat) (hb : Below w.heap.size w W) (h1 : p ≤ q) (h2 : q ≤ l.length) => text_any (.slice (some ad) l.length c) l B p q W (h.below (hb.mono hB)) ho h1 h2 (by omega)
  have HN := Lib.hid cN
  have HM := Lib.hid cM
  have HT := Lib.hid cT
  obtain ⟨d, hdd⟩ : ∃ d, l.drop i = d := ⟨_, rfl⟩
  have hod : okl d := by rw [← hdd]; exact okl_drop ho i
  have hdl : d.length = l.length - i := by rw [← hdd, List.length_drop]
  rw [hdd] at ht HN HM ⊢
  have HDD := Lib.hid hdd
  obtain ⟨n, hn⟩ : ∃ n, l.length = n := ⟨_, rfl⟩
  rw [hn] at hl hlc hi hdl HN HM HT HSL ⊢
  have HLN := Lib.hid hn
  have HDL := Lib.hid hdl
  clear h hd hop hbn hk0 cN cM cT hdd hn hr hdl
  by_cases h1 : k0 = 1
  · subst h1
    rw [if_pos rfl] at ht
    rw [ht]
    clear ht
    go_enter Tryz.func64, Tryz.ntmps64
    go_wp2_with fail
    refine (cC _).mono ?_
    rintro e w' ⟨rfl, rfl⟩
    go_wp2_with fail
    refine (HN.out _ HBN.out).mono ?_
    rintro e w2 ⟨⟨K, S, M, Z, rfl, hv⟩, hb2⟩
    have HV := Lib.hid hv
    have HR2 := Lib.hid (HRC.out.below hb2)
    have HB2 := Lib.hid (HBN.out.trans (hb2.mono (by simp)))
    clear hv hb2
    obtain ⟨⟨q0, q1, q2, q3⟩, f0, f1, f2, f3⟩ := HR2.out.cells
    go_wp2
    refine bodyPost_ret (results_cell_three rfl _ _ w.heap.size _ _ (0, 0) _ rfl (Rc.four HR2.out _ _ _ _) Tryz.underlying63 rfl (by kernel_rfl)) rfl ?_
    exact rt_pass HV.out (below_four HB2.out (Nat.le_refl _) _ _ _ _)
  · have hne1 : (k0 == 1) = false := by rw [beq_eq_false_iff_ne]; exact h1
    rw [if_neg h1] at ht
    by_cases h2 : k0 = 2 ∨ r = 126
    · rw [if_pos h2] at ht
      rw [ht]
      clear ht
      have h2b : (k0 == 2 || (r : Int) == 126) = true := by
        rcases h2 with e | e
        · rw [e]; rfl
        · rw [e]; simp
      go_enter Tryz.func64, Tryz.ntmps64
      go_wp2_with fail
      refine (cC _).mono ?_
      rintro e w' ⟨rfl, rfl⟩
      by_cases h2a : k0 = 2
      · subst h2a
        go_wp2_with fail
        refine (HM.out _ HBN.out).mono ?_
        rintro e w2 ⟨⟨K, S, M, Z, rfl, hv⟩, hb2⟩
        have HV := Lib.hid hv
        have HR2 := Lib.hid (HRC.out.below hb2)
        have HB2 := Lib.hid (HBN.out.trans (hb2.mono (by simp)))
        clear hv hb2
        obtain ⟨⟨q0, q1, q2, q3⟩, f0, f1, f2, f3⟩ := HR2.out.cells
        go_wp2
        refine bodyPost_ret (results_cell_three rfl _ _ w.heap.size _ _ (0, 0) _ rfl (Rc.four HR2.out _ _ _ _) Tryz.underlying63 rfl (by kernel_rfl)) rfl ?_
        exact rt_pass HV.out (below_four HB2.out (Nat.le_refl _) _ _ _ _)
      · have h2c : r = 126 := by omega
        subst h2c
        have h2d : (k0 == 2) = false := by rw [beq_eq_false_iff_ne]; exact h2a
        go_wp2_with fail
        refine (HM.out _ HBN.out).mono ?_
        rintro e w2 ⟨⟨K, S, M, Z, rfl, hv⟩, hb2⟩
        have HV := Lib.hid hv
        have HR2 := Lib.hid (HRC.out.below hb2)
        have HB2 := Lib.hid (HBN.out.trans (hb2.mono (by simp)))
        clear hv hb2
        obtain ⟨⟨q0, q1, q2, q3⟩, f0, f1, f2, f3⟩ := HR2.out.cells
        go_wp2
        refine bodyPost_ret (results_cell_three rfl _ _ w.heap.size _ _ (0, 0) _ rfl (Rc.four HR2.out _ _ _ _) Tryz.underlying63 rfl (by kernel_rfl)) rfl ?_
        exact rt_pass HV.out (below_four HB2.out (Nat.le_refl _) _ _ _ _)
    · rw [if_neg h2, if_neg (by simp)] at ht
      have hne2 : (k0 == 2) = false := by rw [beq_eq_false_iff_ne]; omega
      have hne3 : ((r : Int) == 126) = false := by rw [beq_eq_false_iff_ne]; omega
      rw [ht]
      obtain ⟨ANS, hans⟩ : ∃ s, signT d = s := ⟨_, rfl⟩
      rw [hans]
      have HANS := Lib.hid hans
      obtain ⟨V, hV⟩ : ∃ V, rsV = V := ⟨_, rfl⟩
      have cS := fun W => signs_ref W
      rw [hV] at cS
      have HV := Lib.hid hV
      clear ht hans hV h1 h2
      go_enter Tryz.func64, Tryz.ntmps64
      go_wp2_with fail
      refine (cC _).mono ?_
      rintro e w' ⟨rfl, rfl⟩
      go_wp2_with fail
      refine (cS _).mono ?_
      rintro e w1 ⟨rfl, rfl⟩
      have hs1 : (w.alloc (.cells #[.int .i64 0, .string ⟨#[]⟩, .int .i64 0, .int .i64 0] 63)).heap.size = w.heap.size + 1 := by simp
      have hbv := heap_alloc_new (w.alloc (.cells #[.int .i64 0, .string ⟨#[]⟩, .int .i64 0, .int .i64 0] 63)) (.cells V 9 (0, 0))
      have hb2 : Below w.heap.size w ((w.alloc (.cells #[.int .i64 0, .string ⟨#[]⟩, .int .i64 0, .int .i64 0] 63)).alloc (.cells V 9 (0, 0))) := HBN.out.alloc (by simp) _
      have hr2 := HRC.out.below ((Below.refl _ _).alloc (Nat.le_refl _) (.cells V 9 (0, 0)))
      rw [hs1] at hbv
      have HBV := Lib.hid hbv
      have HB2 := Lib.hid hb2
      have HR2 := Lib.hid hr2
      clear hbv hb2 hr2
      go_wp2_with fail
      generalize (w.alloc (.cells #[.int .i64 0, .string ⟨#[]⟩, .int .i64 0, .int .i64 0] 63)).alloc (.cells V 9 (0, 0)) = W0 at HBV HB2 HR2 ⊢
      go_loopw [9, 10, 11] (fun x y _ wr => ∃ (k : Nat) (b : List Nat), x = .string (T b) ∧ y = .int .i64 (k : Int) ∧ k ≤ 17 ∧ bst d k = b ∧ Below w.heap.size w wr ∧ Rc wr w.heap.size #[.int .i64 0, .string ⟨#[]⟩, .int .i64 0, .int .i64 0] ∧ wr.heap[w.heap.size + 1]? = some (.cells V 9 (0, 0))) (fun _ y _ _ => 17 - (intOf y).toNat)
      case atStart => exact ⟨0, [], rfl, rfl, by omega, rfl, HB2.out, HR2.out, HBV.out⟩
      case round =>
        obtain ⟨k, b, rfl, rfl, hk, hb, hbr, hrr, hbk⟩ := hrel
        have hbl := bst_len d hk
        rw [hb] at hbl
        obtain ⟨S, hS⟩ : ∃ S, T b = S := ⟨_, rfl⟩
        have hSz : S.size = b.length := by rw [← hS, T_size, sz_ascii hbl.1]
        rw [hS]
        have HBR := Lib.hid hbr
        have HRR := Lib.hid hrr
        have HBK := Lib.hid hbk
        have HS := Lib.hid hS
        have HBB := Lib.hid hb
        have HBL := Lib.hid hbl
        clear hbr hrr hb hS hbl
        by_cases hlt : k < 17
        · have hcell : wr.cell? ⟨w.heap.size + 1, k, none⟩ = some (.string (T (rs k))) := by
            rw [cell_of_row wr _ k _ _ _ hbk, ← HV.out]
            exact rsV_at k hlt
          have hrk := rs_ok _ (rs_mem k hlt)
          have hsu := bst_succ d hlt
          rw [HBB.out] at hsu
          obtain ⟨x, hx⟩ : ∃ x, rs k = x := ⟨_, rfl⟩
          rw [hx] at hcell hrk hsu
          obtain ⟨X, hX⟩ : ∃ X, T x = X := ⟨_, rfl⟩
          have hXz : X.size = x.length := by rw [← hX, T_size, sz_ascii hrk.1]
          rw [hX] at hcell
          unfold bstep at hsu
          have hx2 := hrk.2.2
          have HX := Lib.hid hX
          have HRK := Lib.hid hrk
          have HXZ := Lib.hid hXz
          have HSZ := Lib.hid hSz
          have hX2 : X.size ≤ 2 := by omega
          have hS2 : S.size ≤ 2 := by have := HBL.out.2; omega
          clear hbk hx hX hrk
          by_cases hfit : i + X.size ≤ n
          · have hzf : (i : Int) + (X.size : Int) ≤ (n : Int) := by omega
            obtain ⟨Y, hY⟩ : ∃ Y, T (d.take X.size) = Y := ⟨_, rfl⟩
            have cQ : ∀ m, Calls Tryz.prog 61 #[.slice (some ad) n c, .int .i64 (i : Int), .int .i64 ((i : Int) + (X.size : Int))] (wr.drewN m) fun e w' => e = .returned (.string Y) ∧ w' = wr.drewN m := by
              intro m
              have := HT.out (wr.drewN m) i (i + X.size) (HBR.out.trans (below_drewN' (Below.refl _ _) _)) (by omega) hfit
              rw [HDD.out, show i + X.size - i = X.size by omega, hY] at this
              exact this.mono fun _ _ ⟨h1, h2⟩ => ⟨h1, h2.symm⟩
            rw [pre_eq HRK.out.1 hod, HX.out, ← HXZ.out, hY, ← HSZ.out] at hsu
            have HSU := Lib.hid hsu
            clear hsu hY hXz hSz
            by_cases he : Y = X
            · have e1 : (Y.toList == X.toList) = true := by rw [he]; simp
              by_cases hln : S.size < X.size
              · have hzl : (S.size : Int) < (X.size : Int) := by omega
                have HNX : Hid (bst d (k + 1) = x) := Lib.hid (by rw [HSU.out]; simp [he, hln])
                clear he hln
                go_wp2_with fail
                go_quiet ((go_at_call 61; exact Calls.quiet_of_same (cQ _)))
                go_wp2_with fail
                go_roundw
                case rel => exact ⟨k + 1, x, by rw [HX.out], by go_num, by omega, HNX.out, HBR.out.trans (below_drewN' (Below.refl _ _) _), HRR.out.below (below_drewN' (Below.refl _ _) _), heap_below HBK.out (below_drewN' (Below.refl _ _) _)⟩
                case measure => simp [intOf]; omega
              · have hzl : ¬ (S.size : Int) < (X.size : Int) := by omega
                have HNX : Hid (bst d (k + 1) = b) := Lib.hid (by rw [HSU.out]; simp [hln])
                clear he hln
                go_wp2_with fail
                go_quiet ((go_at_call 61; exact Calls.quiet_of_same (cQ _)))
                go_wp2_with fail
                go_roundw
                case rel => exact ⟨k + 1, b, by rw [HS.out], by go_num, by omega, HNX.out, HBR.out.trans (below_drewN' (Below.refl _ _) _), HRR.out.below (below_drewN' (Below.refl _ _) _), heap_below HBK.out (below_drewN' (Below.refl _ _) _)⟩
                case measure => simp [intOf]; omega
            · have e1 : (Y.toList == X.toList) = false := by
                rw [beq_eq_false_iff_ne]
                intro h
                rw [Lib.toList_data, Lib.toList_data] at h
                exact he (ba_ext h)
              have HNX : Hid (bst d (k + 1) = b) := Lib.hid (by rw [HSU.out]; simp [he])
              clear he
              go_wp2_with fail
              go_quiet ((go_at_call 61; exact Calls.quiet_of_same (cQ _)))
              go_wp2_with fail
              go_roundw
              case rel => exact ⟨k + 1, b, by rw [HS.out], by go_num, by omega, HNX.out, HBR.out.trans (below_drewN' (Below.refl _ _) _), HRR.out.below (below_drewN' (Below.refl _ _) _), heap_below HBK.out (below_drewN' (Below.refl _ _) _)⟩
              case measure => simp [intOf]; omega
          · have hzf : decide ((i : Int) + (X.size : Int) ≤ (n : Int)) = false := by rw [decide_eq_false_iff_not]; omega
            rw [pre_short (by have := HDL.out; omega)] at hsu
            have HNX : Hid (bst d (k + 1) = b) := Lib.hid (by rw [hsu]; simp)
            clear hsu hXz hSz hfit
            go_wp2_with fail
            go_quiet (fail)
            go_wp2_with fail
            go_roundw
            case rel => exact ⟨k + 1, b, by rw [HS.out], by go_num, by omega, HNX.out, HBR.out.trans (below_drewN' (Below.refl _ _) _), HRR.out.below (below_drewN' (Below.refl _ _) _), heap_below HBK.out (below_drewN' (Below.refl _ _) _)⟩
            case measure => simp [intOf]; omega
        · have hk17 : k = 17 := by omega
          subst hk17
          have HF : Hid (ANS = ofb b) := Lib.hid (by rw [← HANS.out, sign_bst, HBB.out])
          obtain ⟨⟨q0, q1, q2, q3⟩, f0, f1, f2, f3⟩ := HRR.out.cells
          have HSZ := Lib.hid hSz
          clear hbk hSz
          cases b with
          | nil =>
            have hS0 : S = ⟨#[]⟩ := by rw [← HS.out]; rfl
            subst hS0
            go_wp2_with fail
            refine bodyPost_ret (results_cell_three rfl _ _ w.heap.size _ _ (0, 0) _ rfl (Rc.four HRR.out _ _ _ _) Tryz.underlying63 rfl (by kernel_rfl)) rfl ?_
            exact rt_none HF.out (below_four HBR.out (Nat.le_refl _) _ _ _ _)
          | cons b0 bt =>
            have hne : S.toList ≠ [] := by
              intro h
              rw [Lib.toList_data] at h
              have h1 : S.size = 0 := by
                show S.data.toList.length = 0
                rw [h]; rfl
              have h2 : S.size = bt.length + 1 := HSZ.out
              omega
            have hne2 : S.toList.isEmpty = false := by rw [List.isEmpty_eq_false_iff]; exact hne
            have hne3 : (S.toList == []) = false := by rw [beq_eq_false_iff_ne]; exact hne
            have hS2 : S.size ≤ 2 := by have := HBL.out.2; have := HSZ.out; omega
            go_wp2_with fail
            refine bodyPost_ret (results_cell_three rfl _ _ w.heap.size _ _ (0, 0) _ rfl (Rc.four HRR.out _ _ _ _) Tryz.underlying63 rfl (by kernel_rfl)) rfl ?_
            exact rt_some HF.out HS.out.symm (by have := HSZ.out; omega) (below_four HBR.out (Nat.le_refl _) _ _ _ _)
end Go.Proofs.YthonaeigacfmbaaGreatDoor.B
namespace Go.Proofs.YthonaeigacfmbaaGreatDoor.B
open Go.Lib

/-! ### where blanks and comments end -/
theorem cnt_app {f : Nat → Bool} {l : List Nat} (h : cnt f l < l.length) (y : List Nat) : cnt f (l ++ y) = cnt f l := by
  induction l with
  | nil => simp at h
  | cons r t ih =>
    cases hr : f r
    · simp [cnt, hr]
    · simp [cnt, hr] at h ⊢
      exact ih h
theorem cnt_all {f : Nat → Bool} {l : List Nat} (h : ∀ r ∈ l, f r = true) (y : List Nat) : cnt f (l ++ y) = l.length + cnt f y := by
  induction l with
  | nil => simp
  | cons r t ih =>
    have hr := h r (by simp)
    have := ih (fun x hx => h x (by simp [hx]))
    simp [cnt, hr, this]
    omega
theorem cnt_full {f : Nat → Bool} {l : List Nat} (h : cnt f l = l.length) : ∀ r ∈ l, f r = true := by
  have := cnt_take (f := f) l
  rw [h, List.take_length] at this
  exact this
theorem btw_zero {d : List Nat} (h1 : cnt blk d = 0) (h2 : cmt d = 0) : btw d = 0 := by
  rw [btw_end (by rw [h1]; exact h2), h1]
theorem pre_app {x l y : List Nat} (h : x.isPrefixOf l = true) : x.isPrefixOf (l ++ y) = true := by
  rw [List.isPrefixOf_iff_prefix] at h ⊢
  exact h.trans (List.prefix_append _ _)
theorem cm_app {d : Int} {last : Nat} {l : List Nat} {k : Nat} (h : cm d last l = some k) (y : List Nat) : cm d last (l ++ y) = some k := by
  induction l generalizing d last k with
  | nil => cases h
  | cons r t ih =>
    have key : ∀ {d' : Int} {last' : Nat}, (cm d' last' t).map (· + 1) = some k → (cm d' last' (t ++ y)).map (· + 1) = some k := by
      intro d' last' h
      obtain ⟨j, hj, rfl⟩ := Option.map_eq_some_iff.1 h
      rw [ih hj]
      rfl
    rw [List.cons_append]
    unfold cm at h ⊢
    by_cases c1 : last = 40 ∧ r = 42
    · rw [if_pos c1] at h ⊢
      by_cases c2 : d + 1 = 0
      · rw [if_pos c2] at h ⊢; exact h
      · rw [if_neg c2] at h ⊢; exact key h
    · rw [if_neg c1] at h ⊢
      by_cases c3 : last = 42 ∧ r = 41
      · rw [if_pos c3] at h ⊢
        by_cases c2 : d - 1 = 0
        · rw [if_pos c2] at h ⊢; exact h
        · rw [if_neg c2] at h ⊢; exact key h
      · rw [if_neg c3] at h ⊢; exact key h
theorem cmt_some {l : List Nat} (h : cmt l ≠ 0) : opens l = true ∧ cm 0 32 l = some (cmt l) := by
  unfold cmt at h ⊢
  cases ho : opens l
  · rw [ho] at h; exact absurd rfl h
  · refine ⟨rfl, ?_⟩
    rw [if_pos rfl]
    rw [ho, if_pos rfl] at h
    cases hc : cm 0 32 l with
    | none => rw [hc] at h; exact absurd rfl h
    | some k => rfl
theorem cmt_app {l : List Nat} (h : cmt l ≠ 0) (y : List Nat) : cmt (l ++ y) = cmt l := by
  obtain ⟨h1, h2⟩ := cmt_some h
  have h3 : opens (l ++ y) = true := pre_app h1
  have h4 := cm_app h2 y
  conv => lhs; unfold cmt
  rw [h3, if_pos rfl, h4]
  rfl
theorem btw_absorb : ∀ (n : Nat) (z y : List Nat), z.length ≤ n → btw z = z.length → btw (z ++ y) = z.length + btw y
  | n, z, y, hn, hz => by
    by_cases hc : cnt blk z = z.length
    · have hall := cnt_full hc
      have h1 : cnt blk (z ++ y) = z.length + cnt blk y := cnt_all hall y
      have h2 : (z ++ y).drop (cnt blk (z ++ y)) = y.drop (cnt blk y) := by
        rw [h1, ← List.drop_drop, List.drop_left]
      by_cases h : cmt (y.drop (cnt blk y)) = 0
      · rw [btw_end h, btw_end (by rw [h2]; exact h), h1]
      · rw [btw_step h, btw_step (by rw [h2]; exact h), h2, h1]
        have h3 : (z ++ y).drop (z.length + cnt blk y + cmt (y.drop (cnt blk y))) = y.drop (cnt blk y + cmt (y.drop (cnt blk y))) := by
          rw [Nat.add_assoc, ← List.drop_drop, List.drop_left]
        rw [h3]
        omega
    · have hl := cnt_le blk z
      have hlt : cnt blk z < z.length := by omega
      have h1 := cnt_app hlt y
      have h2 : (z ++ y).drop (cnt blk z) = z.drop (cnt blk z) ++ y := List.drop_append_of_le_length hl
      by_cases h : cmt (z.drop (cnt blk z)) = 0
      · rw [btw_end h] at hz
        omega
      · have h3 := cmt_le (z.drop (cnt blk z))
        simp only [List.length_drop] at h3
        have h4 := btw_step h
        have h5 := cmt_app h y
        have h6 : (z ++ y).drop (cnt blk z + cmt (z.drop (cnt blk z))) = z.drop (cnt blk z + cmt (z.drop (cnt blk z))) ++ y := List.drop_append_of_le_length (by omega)
        have h7 : btw (z ++ y) = cnt blk z + cmt (z.drop (cnt blk z)) + btw (z.drop (cnt blk z + cmt (z.drop (cnt blk z))) ++ y) := by
          rw [btw_step (by rw [h1, h2, h5]; exact h), h1, h2, h5, h6]
        have h8 : btw (z.drop (cnt blk z + cmt (z.drop (cnt blk z)))) = (z.drop (cnt blk z + cmt (z.drop (cnt blk z)))).length := by
          rw [List.length_drop]; omega
        cases n with
        | zero => omega
        | succ n =>
          have ih := btw_absorb n (z.drop (cnt blk z + cmt (z.drop (cnt blk z)))) y (by rw [List.length_drop]; omega) h8
          rw [h7, ih, List.length_drop]
          omega
/-! ### places -/
theorem lex_absorb {z : List Nat} (h : btw z = z.length) (y : List Nat) (p : Nat) : lexL (z ++ y) p = lexL y (p + sz z) := by
  have hb := btw_absorb z.length z y (Nat.le_refl _) h
  have hd : (z ++ y).drop (btw (z ++ y)) = y.drop (btw y) := by rw [hb, ← List.drop_drop, List.drop_left]
  have ht : sz ((z ++ y).take (btw (z ++ y))) = sz z + sz (y.take (btw y)) := by
    rw [hb, List.take_append, List.take_of_length_le (by omega), show z.length + btw y - z.length = btw y by omega, sz_app]
  by_cases he : y.drop (btw y) = []
  · rw [lex_end he, lex_end (by rw [hd]; exact he)]
  · cases e : tokT (y.drop (btw y)) with
    | none => rw [lex_bad he e, lex_bad (by rw [hd]; exact he) (by rw [hd]; exact e), ht, Nat.add_assoc]
    | some tn =>
      obtain ⟨t, k⟩ := tn
      rw [lex_next he e, lex_next (by rw [hd]; exact he) (by rw [hd]; exact e), ht, hd, ← Nat.add_assoc p (sz z) (sz (y.take (btw y)))]
end Go.Proofs.YthonaeigacfmbaaGreatDoor.B
