/-
  The document's kids, sign by sign, and whole: what it tells, if Is tells what it should of smaller trees.
-/
import Derived.Test.YthonaeigacfmbaaGreatDoorGq05
import Derived.Test.YthonaeigacfmbaaGreatDoorGq26
namespace Go.Proofs.YthonaeigacfmbaaGreatDoor
open Go.RowKit

set_option maxHeartbeats 3200000 in
set_option maxRecDepth 100000 in
theorem kids_nil {nk lg : ByteArray → Bool} (f : Fr) (W w : World) (v : Value) (hv : HasK W v f) (hu : Up W w) :
    Calls Tryz.prog 180 #[v, .string (byt [])] w (BoP (seqOk (infF nk lg f) []) W) := by
  have t1 : (byt []).toList.isEmpty = true := by rw [Lib.toList_data]; rfl
  have t2 : ((byt []).toList == []) = true := by rw [Lib.toList_data]; rfl
  obtain ⟨A, cp, rfl, hc, -⟩ := hv
  have hls : seqOk (infF nk lg f) [] = ((f.len : Int) == 0) := by
    unfold seqOk
    rw [← infF_len (nk := nk) (lg := lg)]
    cases infF nk lg f with
    | nil => rfl
    | cons x l =>
      show false = _
      symm
      rw [beq_eq_false_iff_ne]
      simp
      omega
  have HLS := Lib.hid hls
  clear hls
  go_enter Tryz.func180, Tryz.ntmps180
  go_wp2_with fail
  go_ret
  exact bop_ret HLS.out hu
theorem HasK.tail {W : World} {x : Nod} {k r : Fr} {cp : Nat} {kb ko : Nat} (h : HasK W (.slice (some ⟨kb, ko, none⟩) (Fr.cons x k r).len cp) (.cons x k r)) :
    HasK W (.slice (if cp = 1 then some ⟨kb, ko, none⟩ else some ⟨kb, ko + 1, none⟩) r.len (cp - 1)) r := by
  obtain ⟨A, c, hv, hc, hk⟩ := h
  injection hv with h1 h2 h3
  subst h3
  refine ⟨_, _, rfl, by simp only [Fr.len] at hc; omega, fun h0 => ?_⟩
  obtain ⟨kb', ko', hA, hkb, hin⟩ := hk (by simp only [Fr.len]; omega)
  rw [hA] at h1
  injection h1 with h1
  injection h1 with h1 h4
  subst h1 h4
  refine ⟨kb, ko + 1, ?_, hkb, hin.2⟩
  rw [if_neg (by simp only [Fr.len] at hc; omega)]
set_option maxHeartbeats 6400000 in
set_option maxRecDepth 100000 in
theorem kids_sign {nk lg : ByteArray → Bool} {n : Nat} (ih : IsAt nk lg n) (c : UInt8) (r : List UInt8) (g1 : c ≠ 42) (g2 : c ≠ 67) (g3 : c ≠ 65) (f : Fr) (hf : f.sz ≤ n) (hs : okS f) (hn : n ≤ 1000000) (W : World) (v : Value) (hv : HasK W v f)
    (hr : ∀ (f' : Fr) (v' : Value) (w' : World), f'.sz ≤ n → okS f' → HasK W v' f' → Up W w' → Calls Tryz.prog 180 #[v', .string (byt r)] w' (BoP (seqOk (infF nk lg f') r) W)) (w : World) (hu : Up W w) :
    Calls Tryz.prog 180 #[v, .string (byt (c :: r))] w (BoP (seqOk (infF nk lg f) (c :: r)) W) := by
  obtain ⟨T, hT, t1, t2, t3, t4, t5, t6, t7⟩ := byt_facts c r
  rw [hT]
  have h42 : ((c.toNat : Int) == 42) = false := u8_ne (d := 42) g1
  have h67 : ((c.toNat : Int) == 67) = false := u8_ne (d := 67) g2
  have h65 : ((c.toNat : Int) == 65) = false := u8_ne (d := 65) g3
  have hc0 : T[0]'t3 = c := t5 t3
  have hcat := fun W => cat_any c W
  have hsg := seq_sign (l := infF nk lg f) (r := r) g1 g2 g3
  have HC := Lib.hid hcat
  have HI := Lib.hid ih
  have HU := Lib.hid hu
  have HR := Lib.hid hr
  have HSG := Lib.hid hsg
  have t1z : (1 : Int) ≤ (T.size : Int) := by omega
  clear hcat ih hu hr hsg t2 t4 t5 t6 hT g1 g2 g3
  cases f with
  | nil =>
    obtain ⟨A, cp, rfl, hc, -⟩ := hv
    have HE : Hid (seqOk (infF nk lg .nil) (c :: r) = false) := Lib.hid (by rw [HSG.out]; rfl)
    have hl0 : (Fr.nil).len = 0 := rfl
    rw [hl0]
    clear HSG
    go_enter Tryz.func180, Tryz.ntmps180
    go_wp2_with fail
    refine wp_region_up HU.out (by kernel_rfl) (by kernel_rfl) ?_
    repeat (go_big_quiet_step (fail))
    refine wpQuiet_nil ?_
    rintro _ ⟨⟨w9, u9⟩, rfl⟩
    go_wp2_with fail
    go_ret
    exact bop_ret HE.out u9
  | cons x k rs =>
    obtain ⟨A, cp, rfl, hc, hk⟩ := id hv
    obtain ⟨kb, ko, rfl, hkb, ⟨u, hcell, hu⟩, hin⟩ := hk (Nat.succ_pos _)
    have htl := HasK.tail hv
    have hu : InT W (fun q => q < W.heap.size) u (x, k) := hu
    obtain ⟨q, p, rfl⟩ := hu.ptr
    have hT : HasT W (.pointer (some ⟨q, p, none⟩)) (some (x, k)) := hu
    have hsz : (Fr.cons x k rs).sz = 1 + k.sz + rs.sz := rfl
    have hsz2 : szT (x, k) = 1 + k.sz := rfl
    have cI := fun W' (h : Up W W') => HI.out (x, k) (by omega) ⟨hs.1, hs.2.1, hs.2.2.1⟩ (catOf c) W W' _ hT h
    have cR := fun W' (h : Up W W') => HR.out rs _ W' (by omega) hs.2.2.2 htl h
    obtain ⟨b, hb⟩ : ∃ b, isT nk lg (x, k) (catOf c) = b := ⟨_, rfl⟩
    have HSQ : Hid (seqOk (infF nk lg (.cons x k rs)) (c :: r) = (b && seqOk (infF nk lg rs) r)) := Lib.hid (by rw [HSG.out, ← hb]; rfl)
    rw [hb] at cI
    obtain ⟨M, hM⟩ : ∃ M, rs.len = M := ⟨_, rfl⟩
    have hl : (Fr.cons x k rs).len = M + 1 := by show rs.len + 1 = _; rw [hM]
    rw [hl] at hc ⊢
    rw [hM] at cR
    obtain ⟨D, hD⟩ : ∃ D, seqOk (infF nk lg rs) r = D := ⟨_, rfl⟩
    rw [hD] at cR HSQ
    have CI := Lib.hid cI
    have CR := Lib.hid cR
    have hll := Fr.len_le (Fr.cons x k rs)
    have hM6 : M ≤ 1000000 := by omega
    have hcu : ∀ u : Upw W, u.w.cell? ⟨kb, ko, none⟩ = some (.pointer (some ⟨q, p, none⟩)) := fun u => u.cell hcell
    have hm0 : (0 : Int) < ((M + 1 : Nat) : Int) := by omega
    have hm1 : (1 : Int) ≤ ((M + 1 : Nat) : Int) := by omega
    have hm2 : ((M + 1 : Nat) : Int) ≤ (cp : Int) := by omega
    clear hcell hin hu hT cI cR hb hsz hsz2 htl hk hv HSG hs hf hl hll hD hM
    cases b with
    | false =>
      go_enter Tryz.func180, Tryz.ntmps180
      go_wp2_with fail
      refine wp_region_up HU.out (by kernel_rfl) (by kernel_rfl) ?_
      repeat (go_big_quiet_step (first
            | (go_at_call 225; exact Calls.upw ((HC.out _).mono fun _ _ h => ⟨h.1, h.2 ▸ (by assumption : Upw W).h⟩))
            | (go_at_call 113; exact Calls.upw (CI.out _ (by assumption : Upw W).h))))
      refine wpQuiet_nil ?_
      rintro _ ⟨⟨w9, u9⟩, rfl⟩
      go_wp2_with fail
      go_ret
      exact bop_ret HSQ.out u9
    | true =>
      by_cases h1 : cp = 1
      · subst h1
        obtain rfl : M = 0 := by omega
        rw [if_pos rfl] at CR
        go_enter Tryz.func180, Tryz.ntmps180
        go_wp2_with fail
        refine wp_region_up HU.out (by kernel_rfl) (by kernel_rfl) ?_
        repeat (go_big_quiet_step (first
            | (go_at_call 225; exact Calls.upw ((HC.out _).mono fun _ _ h => ⟨h.1, h.2 ▸ (by assumption : Upw W).h⟩))
            | (go_at_call 113; exact Calls.upw (CI.out _ (by assumption : Upw W).h))
            | (go_at_call 180; exact Calls.upw (CR.out _ (by assumption : Upw W).h))))
        refine wpQuiet_nil ?_
        rintro _ ⟨⟨w9, u9⟩, rfl⟩
        go_wp2_with fail
        go_ret
        exact bop_ret HSQ.out u9
      · rw [if_neg h1] at CR
        go_enter Tryz.func180, Tryz.ntmps180
        go_wp2_with fail
        refine wp_region_up HU.out (by kernel_rfl) (by kernel_rfl) ?_
        repeat (go_big_quiet_step (first
            | (go_at_call 225; exact Calls.upw ((HC.out _).mono fun _ _ h => ⟨h.1, h.2 ▸ (by assumption : Upw W).h⟩))
            | (go_at_call 113; exact Calls.upw (CI.out _ (by assumption : Upw W).h))
            | (go_at_call 180; exact Calls.upw (CR.out _ (by assumption : Upw W).h))))
        refine wpQuiet_nil ?_
        rintro _ ⟨⟨w9, u9⟩, rfl⟩
        go_wp2_with fail
        go_ret
        exact bop_ret HSQ.out u9
theorem kids_any {nk lg : ByteArray → Bool} {n : Nat} (ih : IsAt nk lg n) (hn : n ≤ 1000000) (W : World) : ∀ (l : List UInt8), goodW l = true → ∀ (f : Fr) (v : Value) (w : World), f.sz ≤ n → okS f → HasK W v f → Up W w →
    Calls Tryz.prog 180 #[v, .string (byt l)] w (BoP (seqOk (infF nk lg f) l) W)
  | [], _, f, v, w, _, _, hv, hu => kids_nil f W w v hv hu
  | c :: r, hg, f, v, w, hf, hs, hv, hu => by
    unfold goodW at hg
    by_cases g1 : c = 42
    · subst g1
      cases r with
      | nil => simp at hg
      | cons d r => exact kids_star ih d r f hf hs hn W w v hv hu
    · by_cases g2 : c = 67
      · subst g2
        exact kids_C ih r f hf hs hn W w v hv hu
      · by_cases g3 : c = 65
        · subst g3
          exact kids_A ih r f hf hs hn W w v hv hu
        · rw [if_neg g1, if_neg g2, if_neg g3] at hg
          exact kids_sign ih c r g1 g2 g3 f hf hs hn W v hv (fun f' v' w' h1 h2 h3 h4 => kids_any ih hn W r hg f' v' w' h1 h2 h3 h4) w hu
end Go.Proofs.YthonaeigacfmbaaGreatDoor
namespace Go.Proofs.YthonaeigacfmbaaGreatDoor
open Go.RowKit

theorem flat7 : ∀ (L : List Rw) (i : Nat) (R : Rw) (j : Nat), L[i]? = some R → j < 7 → (L.flatMap rcl)[i * 7 + j]? = (rcl R)[j]?
  | [], _, _, _, h, _ => by simp at h
  | x :: L, 0, R, j, h, hj => by
    have : x = R := by simpa using h
    subst this
    rw [List.flatMap_cons, List.getElem?_append_left (by show 0 * 7 + j < 7; omega)]
    simp
  | x :: L, i + 1, R, j, h, hj => by
    rw [List.flatMap_cons, List.getElem?_append_right (by show 7 ≤ (i + 1) * 7 + j; omega)]
    have := flat7 L i R j (by simpa using h) hj
    rw [← this]
    congr 1
    show (i + 1) * 7 + j - 7 = _
    omega
theorem Tbl.cell {w : World} {g I : Nat} {R : Rw} (h : Tbl w g) (hR : RWS[I]? = some R) (j : Nat) (hj : j < 7) : w.cell? ⟨g, I * 7 + j, none⟩ = (rcl R)[j]? := by
  rw [← flat7 RWS I R j hR hj]
  rw [cell_of_row w g (I * 7 + j) _ _ _ h]
  simp [RWC]
theorem row_cells (w : World) (vs : List Value) (e : TypeId) (j : Nat) (v : Value) (hj : vs[j]? = some v) : (w.alloc (.cells vs.toArray e)).cell? ⟨w.heap.size, j, none⟩ = some v := by
  rw [cell_of_row _ w.heap.size j _ _ _ (heap_alloc_new w _)]
  simpa using hj
set_option maxHeartbeats 12800000 in
set_option maxRecDepth 100000 in
theorem is_step (n : Nat) (hn : n ≤ 1000000) (ih : IsAt B.nck B.long n) : IsAt B.nck B.long (n + 1) := by
  rintro ⟨x, ks⟩ hsz ⟨ha, hm, hs⟩ c W w v hv hu
  have hsz2 : szT (x, ks) = 1 + ks.sz := rfl
  have cK := fun (W' : World) (l : List UInt8) (hl : goodW l = true) (v' : Value) (w' : World) (h1 : HasK W' v' ks) (h2 : Up W' w') => kids_any ih hn W' l hl ks v' w' (by omega) hs h1 h2
  obtain ⟨q, p, A, cp, rfl, hq, c0, c1, c2, c3, c4, hc, hkid⟩ := InT.open (x := x) (ks := ks) hv
  have hk : HasK W (.slice A ks.len cp) ks := ⟨A, cp, rfl, hc, fun h0 => by
    obtain ⟨kb, ko, hA, h1, h2⟩ := hkid h0
    exact ⟨kb, ko, hA, h1, h2⟩⟩
  have CK := Lib.hid cK
  have HA := Lib.hid ha
  have HM := Lib.hid hm
  have HU := Lib.hid hu
  have HK := Lib.hid hk
  obtain ⟨N, hN⟩ : ∃ N, ks.len = N := ⟨_, rfl⟩
  rw [hN] at c4 hk
  have HK := Lib.hid hk
  have C0 := Lib.hid c0
  have C1 := Lib.hid c1
  have C2 := Lib.hid c2
  have C3 := Lib.hid c3
  have C4 := Lib.hid c4
  clear cK ha hm hu hk hv hsz hsz2 hkid hc hs hq ih c0 c1 c2 c3 c4 hN
  go_enter Tryz.func113, Tryz.ntmps113
  go_wp2_with fail
  refine (rows_any _).mono ?_
  rintro e w1 ⟨g, rfl, hg, htb, hb1⟩
  have HU1 := Lib.hid (HU.out.of hb1)
  have HT := Lib.hid htb
  clear hb1 htb hg
  go_wp2_with fail
  go_loopw [6, 7] (fun i _ wr => ∃ I : Nat, i = .int .i64 I ∧ I ≤ 47 ∧ (∀ (j : Nat) R, j < I → RWS[j]? = some R → fitR B.nck B.long x (infF B.nck B.long ks) c R = false) ∧ Up w1 wr) (fun i _ _ => 47 - (intOf i).toNat)
  case atStart => exact ⟨0, rfl, by omega, fun j x hj => absurd hj (Nat.not_lt_zero _), Up.refl _⟩
  case round =>
    obtain ⟨I, rfl, hI, hall, hur⟩ := hrel
    have HALL := Lib.hid hall
    have HUR := Lib.hid hur
    clear hall hur
    by_cases hlt : I < 47
    · have hiz : (I : Int) < 47 := by omega
      obtain ⟨R, hR⟩ : ∃ R, RWS[I]? = some R := ⟨_, List.getElem?_eq_getElem (by rw [rows_num]; exact hlt)⟩
      obtain ⟨hgw, hkl, hnm, hmr⟩ := rows_good R (List.mem_of_getElem? hR)
      have tb := HUR.out.row HT.out
      have r0 := Tbl.cell tb hR 0 (by omega)
      have r1 := Tbl.cell tb hR 1 (by omega)
      have r2 := Tbl.cell tb hR 2 (by omega)
      have r3 := Tbl.cell tb hR 3 (by omega)
      have r4 := Tbl.cell tb hR 4 (by omega)
      have r5 := Tbl.cell tb hR 5 (by omega)
      have r6 := Tbl.cell tb hR 6 (by omega)
      have HRI := Lib.hid hR
      clear hR tb
      obtain ⟨rc, rk, rn, rm, rf, rt, rs⟩ := R
      simp only [rcl, List.getElem?_cons_zero, List.getElem?_cons_succ, Nat.add_zero] at r0 r1 r2 r3 r4 r5 r6
      have HNX : Hid (fitR B.nck B.long x (infF B.nck B.long ks) c ⟨rc, rk, rn, rm, rf, rt, rs⟩ = false → ∀ (j : Nat) R, j < I + 1 → RWS[j]? = some R → fitR B.nck B.long x (infF B.nck B.long ks) c R = false) := Lib.hid fun h j R hj hR => by
        by_cases e : j = I
        · subst e
          rw [HRI.out] at hR
          injection hR with hR
          rw [← hR]
          exact h
        · exact HALL.out j R (by omega) hR
      have hw1 := fun W' => word_any x.a rn hnm W' HA.out
      have hw2 := fun W' => word_any x.m rm hmr W' HM.out
      have hfit : fitR B.nck B.long x (infF B.nck B.long ks) c ⟨rc, rk, rn, rm, rf, rt, rs⟩ = (decide (rc = c) && decide (rk = x.k) && wordR B.nck B.long x.a rn && wordR B.nck B.long x.m rm && decide (rf ≤ x.n) && decide (x.n ≤ rt) && seqOk (infF B.nck B.long ks) rs) := rfl
      obtain ⟨F, hF⟩ : ∃ F, fitR B.nck B.long x (infF B.nck B.long ks) c ⟨rc, rk, rn, rm, rf, rt, rs⟩ = F := ⟨_, rfl⟩
      have UW2 : Hid (Up w1 (wr.alloc (.cells [Value.int .i64 rc, .int .i64 rk, .string (byt rn), .string (byt rm), .int .i64 rf, .int .i64 rt, .string (byt rs)].toArray 188))) := Lib.hid (HUR.out.alloc _)
      have rcell := row_cells wr [Value.int .i64 rc, .int .i64 rk, .string (byt rn), .string (byt rm), .int .i64 rf, .int .i64 rt, .string (byt rs)] 188
      obtain ⟨W2, hW2⟩ : ∃ W2, wr.alloc (.cells [Value.int .i64 rc, .int .i64 rk, .string (byt rn), .string (byt rm), .int .i64 rf, .int .i64 rt, .string (byt rs)].toArray 188) = W2 := ⟨_, rfl⟩
      rw [hW2] at UW2 rcell
      have HKK := Lib.hid fun w' (h : Up W2 w') => CK.out W2 rs hgw _ w' (HK.out.up (HU1.out.trans UW2.out)) h
      rw [hF] at hfit
      obtain ⟨b1, hb1⟩ : ∃ b, wordR B.nck B.long x.a rn = b := ⟨_, rfl⟩
      obtain ⟨b2, hb2⟩ : ∃ b, wordR B.nck B.long x.m rm = b := ⟨_, rfl⟩
      obtain ⟨b3, hb3⟩ : ∃ b, seqOk (infF B.nck B.long ks) rs = b := ⟨_, rfl⟩
      rw [hb1] at hw1 hfit
      rw [hb2] at hw2 hfit
      rw [hb3] at HKK hfit
      have HW1 := Lib.hid hw1
      have HW2 := Lib.hid hw2
      obtain ⟨Q, hQ⟩ : ∃ Q, wr.heap.size = Q := ⟨_, rfl⟩
      rw [hQ] at rcell
      have s0 : ∀ u : Upw W2, u.w.cell? ⟨Q, 0, none⟩ = some (.int .i64 rc) := fun u => u.cell (rcell 0 _ rfl)
      have s1 : ∀ u : Upw W2, u.w.cell? ⟨Q, 1, none⟩ = some (.int .i64 rk) := fun u => u.cell (rcell 1 _ rfl)
      have s2 : ∀ u : Upw W2, u.w.cell? ⟨Q, 2, none⟩ = some (.string (byt rn)) := fun u => u.cell (rcell 2 _ rfl)
      have s3 : ∀ u : Upw W2, u.w.cell? ⟨Q, 3, none⟩ = some (.string (byt rm)) := fun u => u.cell (rcell 3 _ rfl)
      have s4 : ∀ u : Upw W2, u.w.cell? ⟨Q, 4, none⟩ = some (.int .i64 rf) := fun u => u.cell (rcell 4 _ rfl)
      have s5 : ∀ u : Upw W2, u.w.cell? ⟨Q, 5, none⟩ = some (.int .i64 rt) := fun u => u.cell (rcell 5 _ rfl)
      have s6 : ∀ u : Upw W2, u.w.cell? ⟨Q, 6, none⟩ = some (.string (byt rs)) := fun u => u.cell (rcell 6 _ rfl)
      have UU := Lib.hid (HU1.out.trans UW2.out)
      have n0 : ∀ u : Upw W2, u.w.cell? ⟨q, p, none⟩ = some (.int .i64 x.k) := fun u => u.cell (UU.out.cell C0.out)
      have n1 : ∀ u : Upw W2, u.w.cell? ⟨q, p + 1, none⟩ = some (.int .i64 x.n) := fun u => u.cell (UU.out.cell C1.out)
      have n2 : ∀ u : Upw W2, u.w.cell? ⟨q, p + 2, none⟩ = some (.string x.a) := fun u => u.cell (UU.out.cell C2.out)
      have n3 : ∀ u : Upw W2, u.w.cell? ⟨q, p + 3, none⟩ = some (.string x.m) := fun u => u.cell (UU.out.cell C3.out)
      have n4 : ∀ u : Upw W2, u.w.cell? ⟨q, p + 4, none⟩ = some (.slice A N cp) := fun u => u.cell (UU.out.cell C4.out)
      have hcase : ((rc == c) = false ∧ F = false) ∨ ((rc == c) = true ∧ (rk == x.k) = false ∧ F = false) ∨ ((rc == c) = true ∧ (rk == x.k) = true ∧ b1 = false ∧ F = false) ∨ ((rc == c) = true ∧ (rk == x.k) = true ∧ b1 = true ∧ b2 = false ∧ F = false) ∨
          ((rc == c) = true ∧ (rk == x.k) = true ∧ b1 = true ∧ b2 = true ∧ decide (rf ≤ x.n) = false ∧ F = false) ∨ ((rc == c) = true ∧ (rk == x.k) = true ∧ b1 = true ∧ b2 = true ∧ decide (rf ≤ x.n) = true ∧ decide (x.n ≤ rt) = false ∧ F = false) ∨
          ((rc == c) = true ∧ (rk == x.k) = true ∧ b1 = true ∧ b2 = true ∧ decide (rf ≤ x.n) = true ∧ decide (x.n ≤ rt) = true ∧ b3 = F) := by
        have e1 : (rc == c) = decide (rc = c) := rfl
        have e2 : (rk == x.k) = decide (rk = x.k) := rfl
        rw [e1, e2, hfit]
        cases decide (rc = c) <;> cases decide (rk = x.k) <;> cases b1 <;> cases b2 <;> cases decide (rf ≤ x.n) <;> cases decide (x.n ≤ rt) <;> simp
      have HB := Lib.hid (⟨hb1, hb2, hb3⟩ : _ ∧ _ ∧ _)
      clear rcell hb1 hb2 hb3 hfit hw1 hw2 hnm hmr hgw
      rcases hcase with ⟨d1, rfl⟩ | ⟨d1, d2, rfl⟩ | ⟨d1, d2, rfl, rfl⟩ | ⟨d1, d2, rfl, rfl, rfl⟩ | ⟨d1, d2, rfl, rfl, d3, rfl⟩ | ⟨d1, d2, rfl, rfl, d3, d4, rfl⟩ | ⟨d1, d2, rfl, rfl, d3, d4, rfl⟩
      · have HFF := Lib.hid hF
        clear hF
        go_wp2_with fail
        refine wp_region_up (W := W2) (Up.refl _) (by kernel_rfl) (by kernel_rfl) ?_
        repeat (go_big_quiet_step (first
            | (go_at_call_of 179 (Value.string x.a); exact Calls.upw ((HW1.out _).mono fun _ _ h => ⟨h.1, (by assumption : Upw W2).h.of h.2⟩))
            | (go_at_call_of 179 (Value.string x.m); exact Calls.upw ((HW2.out _).mono fun _ _ h => ⟨h.1, (by assumption : Upw W2).h.of h.2⟩))
            | (go_at_call 180; exact Calls.upw (HKK.out _ (by assumption : Upw W2).h))))
        refine wpQuiet_nil ?_
        rintro _ ⟨⟨w9, u9⟩, rfl⟩
        go_wp2_with fail
        go_roundw
        case rel => exact ⟨I + 1, by go_num, by omega, HNX.out HFF.out, UW2.out.trans u9⟩
        case measure => simp [intOf]; omega
      · have HFF := Lib.hid hF
        clear hF
        go_wp2_with fail
        refine wp_region_up (W := W2) (Up.refl _) (by kernel_rfl) (by kernel_rfl) ?_
        repeat (go_big_quiet_step (first
            | (go_at_call_of 179 (Value.string x.a); exact Calls.upw ((HW1.out _).mono fun _ _ h => ⟨h.1, (by assumption : Upw W2).h.of h.2⟩))
            | (go_at_call_of 179 (Value.string x.m); exact Calls.upw ((HW2.out _).mono fun _ _ h => ⟨h.1, (by assumption : Upw W2).h.of h.2⟩))
            | (go_at_call 180; exact Calls.upw (HKK.out _ (by assumption : Upw W2).h))))
        refine wpQuiet_nil ?_
        rintro _ ⟨⟨w9, u9⟩, rfl⟩
        go_wp2_with fail
        go_roundw
        case rel => exact ⟨I + 1, by go_num, by omega, HNX.out HFF.out, UW2.out.trans u9⟩
        case measure => simp [intOf]; omega
      · have HFF := Lib.hid hF
        clear hF
        go_wp2_with fail
        refine wp_region_up (W := W2) (Up.refl _) (by kernel_rfl) (by kernel_rfl) ?_
        repeat (go_big_quiet_step (first
            | (go_at_call_of 179 (Value.string x.a); exact Calls.upw ((HW1.out _).mono fun _ _ h => ⟨h.1, (by assumption : Upw W2).h.of h.2⟩))
            | (go_at_call_of 179 (Value.string x.m); exact Calls.upw ((HW2.out _).mono fun _ _ h => ⟨h.1, (by assumption : Upw W2).h.of h.2⟩))
            | (go_at_call 180; exact Calls.upw (HKK.out _ (by assumption : Upw W2).h))))
        refine wpQuiet_nil ?_
        rintro _ ⟨⟨w9, u9⟩, rfl⟩
        go_wp2_with fail
        go_roundw
        case rel => exact ⟨I + 1, by go_num, by omega, HNX.out HFF.out, UW2.out.trans u9⟩
        case measure => simp [intOf]; omega
      · have HFF := Lib.hid hF
        clear hF
        go_wp2_with fail
        refine wp_region_up (W := W2) (Up.refl _) (by kernel_rfl) (by kernel_rfl) ?_
        repeat (go_big_quiet_step (first
            | (go_at_call_of 179 (Value.string x.a); exact Calls.upw ((HW1.out _).mono fun _ _ h => ⟨h.1, (by assumption : Upw W2).h.of h.2⟩))
            | (go_at_call_of 179 (Value.string x.m); exact Calls.upw ((HW2.out _).mono fun _ _ h => ⟨h.1, (by assumption : Upw W2).h.of h.2⟩))
            | (go_at_call 180; exact Calls.upw (HKK.out _ (by assumption : Upw W2).h))))
        refine wpQuiet_nil ?_
        rintro _ ⟨⟨w9, u9⟩, rfl⟩
        go_wp2_with fail
        go_roundw
        case rel => exact ⟨I + 1, by go_num, by omega, HNX.out HFF.out, UW2.out.trans u9⟩
        case measure => simp [intOf]; omega
      · have HFF := Lib.hid hF
        clear hF
        go_wp2_with fail
        refine wp_region_up (W := W2) (Up.refl _) (by kernel_rfl) (by kernel_rfl) ?_
        repeat (go_big_quiet_step (first
            | (go_at_call_of 179 (Value.string x.a); exact Calls.upw ((HW1.out _).mono fun _ _ h => ⟨h.1, (by assumption : Upw W2).h.of h.2⟩))
            | (go_at_call_of 179 (Value.string x.m); exact Calls.upw ((HW2.out _).mono fun _ _ h => ⟨h.1, (by assumption : Upw W2).h.of h.2⟩))
            | (go_at_call 180; exact Calls.upw (HKK.out _ (by assumption : Upw W2).h))))
        refine wpQuiet_nil ?_
        rintro _ ⟨⟨w9, u9⟩, rfl⟩
        go_wp2_with fail
        go_roundw
        case rel => exact ⟨I + 1, by go_num, by omega, HNX.out HFF.out, UW2.out.trans u9⟩
        case measure => simp [intOf]; omega
      · have HFF := Lib.hid hF
        clear hF
        go_wp2_with fail
        refine wp_region_up (W := W2) (Up.refl _) (by kernel_rfl) (by kernel_rfl) ?_
        repeat (go_big_quiet_step (first
            | (go_at_call_of 179 (Value.string x.a); exact Calls.upw ((HW1.out _).mono fun _ _ h => ⟨h.1, (by assumption : Upw W2).h.of h.2⟩))
            | (go_at_call_of 179 (Value.string x.m); exact Calls.upw ((HW2.out _).mono fun _ _ h => ⟨h.1, (by assumption : Upw W2).h.of h.2⟩))
            | (go_at_call 180; exact Calls.upw (HKK.out _ (by assumption : Upw W2).h))))
        refine wpQuiet_nil ?_
        rintro _ ⟨⟨w9, u9⟩, rfl⟩
        go_wp2_with fail
        go_roundw
        case rel => exact ⟨I + 1, by go_num, by omega, HNX.out HFF.out, UW2.out.trans u9⟩
        case measure => simp [intOf]; omega
      · cases b3 with
        | false =>
          have HFF := Lib.hid hF
          clear hF
          go_wp2_with fail
          refine wp_region_up (W := W2) (Up.refl _) (by kernel_rfl) (by kernel_rfl) ?_
          repeat (go_big_quiet_step (first
              | (go_at_call_of 179 (Value.string x.a); exact Calls.upw ((HW1.out _).mono fun _ _ h => ⟨h.1, (by assumption : Upw W2).h.of h.2⟩))
              | (go_at_call_of 179 (Value.string x.m); exact Calls.upw ((HW2.out _).mono fun _ _ h => ⟨h.1, (by assumption : Upw W2).h.of h.2⟩))
              | (go_at_call 180; exact Calls.upw (HKK.out _ (by assumption : Upw W2).h))))
          refine wpQuiet_nil ?_
          rintro _ ⟨⟨w9, u9⟩, rfl⟩
          go_wp2_with fail
          go_roundw
          case rel => exact ⟨I + 1, by go_num, by omega, HNX.out HFF.out, UW2.out.trans u9⟩
          case measure => simp [intOf]; omega
        | true =>
          have HE : Hid (isT B.nck B.long (x, ks) c = true) := Lib.hid (isX_row.2 ⟨_, List.mem_of_getElem? HRI.out, hF⟩)
          clear hF
          go_wp2_with fail
          refine wp_region_up (W := W2) (Up.refl _) (by kernel_rfl) (by kernel_rfl) ?_
          repeat (go_big_quiet_step (first
              | (go_at_call_of 179 (Value.string x.a); exact Calls.upw ((HW1.out _).mono fun _ _ h => ⟨h.1, (by assumption : Upw W2).h.of h.2⟩))
              | (go_at_call_of 179 (Value.string x.m); exact Calls.upw ((HW2.out _).mono fun _ _ h => ⟨h.1, (by assumption : Upw W2).h.of h.2⟩))
              | (go_at_call 180; exact Calls.upw (HKK.out _ (by assumption : Upw W2).h))))
          refine wpQuiet_nil ?_
          rintro _ ⟨⟨w9, u9⟩, rfl⟩
          go_wp2_with fail
          go_ret
          exact bop_ret HE.out (UU.out.trans u9)
    · have hI47 : I = 47 := by omega
      have hiz : ¬ (I : Int) < 47 := by omega
      have HE : Hid (isT B.nck B.long (x, ks) c = false) := Lib.hid (by
        cases h : isT B.nck B.long (x, ks) c with
        | false => rfl
        | true =>
          obtain ⟨R, hR, hf⟩ := isX_row.1 h
          obtain ⟨j, hj⟩ := List.getElem?_of_mem hR
          have := (List.getElem?_eq_some_iff.1 hj).1
          rw [rows_num] at this
          rw [HALL.out j R (by omega) hj] at hf
          cases hf)
      go_wp2_with fail
      go_ret
      exact bop_ret HE.out (HU1.out.trans HUR.out)
end Go.Proofs.YthonaeigacfmbaaGreatDoor
namespace Go.Proofs.YthonaeigacfmbaaGreatDoor
open Go.RowKit

theorem is_all : ∀ n, n ≤ 1000000 → IsAt B.nck B.long n
  | 0, _ => fun t h => absurd h (by unfold szT; omega)
  | n + 1, h => is_step n (by omega) (is_all n (by omega))
def pkE (o : Option Tr) : Int := match o with
  | none => 1
  | some t => if 8192 < szT t then 3 else 0
def PkE (z : Int) (W : World) (e : Ending) (w' : World) : Prop := ∃ (A : Option Addr) (l k : Nat), e = .returned (.tuple #[.agg #[.slice A l k], .int .i64 z]) ∧ Up W w'
set_option maxHeartbeats 1600000 in
set_option maxRecDepth 100000 in
theorem pack_none (W w : World) (hu : Up W w) : Calls Tryz.prog 111 #[.pointer none] w (PkE 1 W) := by
  have hc : ∀ w, Calls Tryz.prog 175 #[.pointer none] w fun e w' => e = .returned (.bool true) ∧ w = w' := by
    intro w
    go_enter Tryz.func175, Tryz.ntmps175
    go_wp2_with fail
    go_ret
    exact ⟨rfl, rfl⟩
  have hb : Up W (w.alloc (.cells #[.slice none 0 0] 46)) := hu.alloc _
  have hk : (w.alloc (.cells #[.slice none 0 0] 46)).cell? ⟨w.heap.size, 0, none⟩ = some (.slice none 0 0) := cell_of_row _ w.heap.size 0 _ _ _ (heap_alloc_new w _)
  have hf : (w.alloc (.cells #[.slice none 0 0] 46)).frozen? ⟨w.heap.size, 0, none⟩ = false := frozen_of_row _ w.heap.size 0 _ _ (heap_alloc_new w _)
  go_enter Tryz.func111, Tryz.ntmps111
  go_wp2_with fail
  refine (hc _).mono ?_
  rintro e w1 ⟨rfl, rfl⟩
  go_wp2_with fail
  exact bodyPost_ret (v := .tuple #[.agg #[.slice none 0 0], .int .i64 1]) (by simp [results, Tryz.results111, go_sem, hk]) rfl ⟨_, _, _, rfl, hb⟩
set_option maxHeartbeats 1600000 in
set_option maxRecDepth 100000 in
theorem pack_long (t : Tr) (hl : 8192 < szT t) (hz : szT t ≤ 1000000) (W w : World) (v : Value) (hv : HasT W v (some t)) (hu : Up W w) : Calls Tryz.prog 111 #[v] w (PkE 3 W) := by
  have hb : Up W (w.alloc (.cells #[.slice none 0 0] 46)) := hu.alloc _
  have hk : (w.alloc (.cells #[.slice none 0 0] 46)).cell? ⟨w.heap.size, 0, none⟩ = some (.slice none 0 0) := cell_of_row _ w.heap.size 0 _ _ _ (heap_alloc_new w _)
  have hf : (w.alloc (.cells #[.slice none 0 0] 46)).frozen? ⟨w.heap.size, 0, none⟩ = false := frozen_of_row _ w.heap.size 0 _ _ (heap_alloc_new w _)
  have c1 := refHole (szT t) t (Nat.le_refl _) (by omega) _ _ v (hv.up hb)
  have c2 := refSize (szT t) t (Nat.le_refl _) (by omega) _ _ v (hv.up hb)
  obtain ⟨Z, hZ⟩ : ∃ Z, szT t = Z := ⟨_, rfl⟩
  rw [hZ] at c2 hl
  have hz1 : (8192 : Int) < (Z : Int) := by omega
  clear hv hZ
  go_enter Tryz.func111, Tryz.ntmps111
  go_wp2_with fail
  refine c1.mono ?_
  rintro e w1 ⟨rfl, rfl⟩
  go_wp2_with fail
  refine c2.mono ?_
  rintro e w1 ⟨rfl, rfl⟩
  go_wp2_with fail
  exact bodyPost_ret (v := .tuple #[.agg #[.slice none 0 0], .int .i64 3]) (by simp [results, Tryz.results111, go_sem, hk]) rfl ⟨_, _, _, rfl, hb⟩
theorem pack_any (o : Option Tr) (hz : szO o ≤ 60000) (W w : World) (v : Value) (hv : HasT W v o) (hu : Up W w) : Calls Tryz.prog 111 #[v] w (PkE (pkE o) W) := by
  cases o with
  | none =>
    obtain rfl : v = .pointer none := hv
    exact pack_none W w hu
  | some t =>
    have hz : szT t ≤ 60000 := hz
    by_cases h : 8192 < szT t
    · have : pkE (some t) = 3 := if_pos h
      rw [this]
      exact pack_long t h (by omega) W w v hv hu
    · have : pkE (some t) = 0 := if_neg h
      rw [this]
      refine (refPack t (by omega) w _ v HasT.bel (hv.up hu)).mono ?_
      rintro e w' ⟨u, rfl, ⟨A, k, rfl, -, -⟩, hb⟩
      exact ⟨A, _, k, rfl, hu.of hb⟩
def okSO (o : Option Tr) : Prop := ∀ t, o = some t → okST t
def InP (z : Int) (W : World) (e : Ending) (w' : World) : Prop := e = .returned (.int .i64 z) ∧ Up W w'
theorem in_ret {a b : Int} {W w' : World} (h : a = b) (u : Up W w') : InP a W (.returned (.int .i64 b)) w' := ⟨by rw [h], u⟩
set_option maxHeartbeats 1600000 in
set_option maxRecDepth 100000 in
theorem check_any (o : Option Tr) (c : Int) (hz : szO o ≤ 60000) (hs : okSO o) (W w : World) (v : Value) (hv : HasT W v o) (hu : Up W w) :
    Calls Tryz.prog 68 #[v, .int .i64 c] w (InP (chk B.nck B.long o c) W) := by
  have cP := pack_any o hz W w v hv hu
  have HV := Lib.hid hv
  have HZ := Lib.hid hz
  have HS := Lib.hid hs
  cases o with
  | none =>
    have hp : pkE none = 1 := rfl
    rw [hp] at cP
    have HE : Hid (chk B.nck B.long none c = 1) := Lib.hid rfl
    clear hv hz hs hp
    go_enter Tryz.func68, Tryz.ntmps68
    go_wp2_with fail
    refine cP.mono ?_
    rintro e w1 ⟨A1, l1, k1, rfl, u1⟩
    go_wp2_with fail
    go_ret
    exact in_ret HE.out (u1.alloc _)
  | some t =>
    by_cases hl : 8192 < szT t
    · have hp : pkE (some t) = 3 := if_pos hl
      rw [hp] at cP
      have HE : Hid (chk B.nck B.long (some t) c = 3) := Lib.hid (if_pos hl)
      clear hv hz hs hp hl
      go_enter Tryz.func68, Tryz.ntmps68
      go_wp2_with fail
      refine cP.mono ?_
      rintro e w1 ⟨A1, l1, k1, rfl, u1⟩
      go_wp2_with fail
      go_ret
      exact in_ret HE.out (u1.alloc _)
    · have hp : pkE (some t) = 0 := if_neg hl
      rw [hp] at cP
      have hz : szT t ≤ 60000 := hz
      have cD := fun w' (h : Up W w') => refDeep (szT t) t (Nat.le_refl _) (by omega) w' _ v (hv.up h)
      have cI := fun w' (h : Up W w') => is_all (szT t) (by omega) t (Nat.le_refl _) (hs t rfl) c W w' v hv h
      have hdc : chk B.nck B.long (some t) c = if 60 < dpT t then 7 else if isT B.nck B.long t c then 0 else 16 := if_neg hl
      obtain ⟨D, hD⟩ : ∃ D, dpT t = D := ⟨_, rfl⟩
      obtain ⟨b, hb⟩ : ∃ b, isT B.nck B.long t c = b := ⟨_, rfl⟩
      rw [hD] at cD hdc
      rw [hb] at cI hdc
      have CD := Lib.hid cD
      have CI := Lib.hid cI
      by_cases hd : 60 < D
      · rw [if_pos hd] at hdc
        have HE := Lib.hid hdc
        have hd1 : (60 : Int) < (D : Int) := by omega
        clear hv hz hs hp hl hdc hb hD hd cD cI
        go_enter Tryz.func68, Tryz.ntmps68
        go_wp2_with fail
        refine cP.mono ?_
        rintro e w1 ⟨A1, l1, k1, rfl, u1⟩
        have U1 := Lib.hid (u1.alloc (.cells #[.slice A1 l1 k1] 46))
        clear u1
        go_wp2_with fail
        refine (CD.out _ U1.out).mono ?_
        rintro e w2 ⟨rfl, rfl⟩
        go_wp2_with fail
        go_ret
        exact in_ret HE.out U1.out
      · rw [if_neg hd] at hdc
        have hd1 : ¬ (60 : Int) < (D : Int) := by omega
        cases b
        all_goals
          have HE := Lib.hid hdc
          clear hv hz hs hp hl hdc hb hD hd cD cI
          go_enter Tryz.func68, Tryz.ntmps68
          go_wp2_with fail
          refine cP.mono ?_
          rintro e w1 ⟨A1, l1, k1, rfl, u1⟩
          have U1 := Lib.hid (u1.alloc (.cells #[.slice A1 l1 k1] 46))
          clear u1
          go_wp2_with fail
          refine (CD.out _ U1.out).mono ?_
          rintro e w2 ⟨rfl, rfl⟩
          go_wp2_with fail
          refine (CI.out _ U1.out).mono ?_
          rintro e w2 ⟨rfl, u2⟩
          go_wp2_with fail
          go_ret
          exact in_ret HE.out u2
end Go.Proofs.YthonaeigacfmbaaGreatDoor
namespace Go.Proofs.YthonaeigacfmbaaGreatDoor
open Go.RowKit

def ShpAt (f : FuncId) (c : Int) : Prop := ∀ (o : Option Tr), szO o ≤ 60000 → okSO o → ∀ (W w : World) (v : Value), B.Nx W → HasT W v o → Up W w → Calls Tryz.prog f #[v] w (InP (chk B.nck B.long o c) W)
theorem Nx.up {W w : World} (h : B.Nx W) (u : Up W w) : B.Nx w := B.Nx.below h u
/-! ### works -/
end Go.Proofs.YthonaeigacfmbaaGreatDoor
