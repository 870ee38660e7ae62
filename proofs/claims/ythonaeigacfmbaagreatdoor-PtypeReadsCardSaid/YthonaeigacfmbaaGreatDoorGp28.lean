/-
  The document's kids, sign by sign, and whole: what it tells, if Is tells what it should of smaller trees.
-/
import Derived.Test.YthonaeigacfmbaaGreatDoorGp27
namespace Go.Proofs.YthonaeigacfmbaaGreatDoor
open Go.RowKit

set_option maxHeartbeats 3200000 in
set_option maxRecDepth 100000 in
theorem kids_nil {nk lg : ByteArray → Bool} (f : Fr) (W w : World) (v : Value) (hv : HasK W v f) (hu : Up W w) :
    Calls Tryz.prog 180 #[v, .string (byt [])] w (BoP (seqOk (infF nk lg f) []) W) := by
  have t1 : (byt []).toList.isEmpty = true := by rw [Lib.toList_data]; rfl
  have t2 : ((byt []).toList == []) = true := by rw [Lib.toList_data]; rfl
  obtain ⟨A, cp, rfl, hc, -⟩ := hv
  have hls : seqOk (infF nk lg f) [] = ((f.len : Int) == 0) := by
    unfold seqOk
    rw [← infF_len (nk := nk) (lg := lg)]
    cases infF nk lg f with
    | nil => rfl
    | cons x l =>
      show false = _
      symm
      rw [beq_eq_false_iff_ne]
      simp
      omega
  have HLS := Lib.hid hls
  clear hls
  go_enter Tryz.func180, Tryz.ntmps180
  go_wp2_with fail
  go_ret
  exact bop_ret HLS.out hu
theorem HasK.tail {W : World} {x : Nod} {k r : Fr} {cp : Nat} {kb ko : Nat} (h : HasK W (.slice (some ⟨kb, ko, none⟩) (Fr.cons x k r).len cp) (.cons x k r)) :
    HasK W (.slice (if cp = 1 then some ⟨kb, ko, none⟩ else some ⟨kb, ko + 1, none⟩) r.len (cp - 1)) r := by
  obtain ⟨A, c, hv, hc, hk⟩ := h
  injection hv with h1 h2 h3
  subst h3
  refine ⟨_, _, rfl, by simp only [Fr.len] at hc; omega, fun h0 => ?_⟩
  obtain ⟨kb', ko', hA, hkb, hin⟩ := hk (by simp only [Fr.len]; omega)
  rw [hA] at h1
  injection h1 with h1
  injection h1 with h1 h4
  subst h1 h4
  refine ⟨kb, ko + 1, ?_, hkb, hin.2⟩
  rw [if_neg (by simp only [Fr.len] at hc; omega)]
set_option maxHeartbeats 6400000 in
set_option maxRecDepth 100000 in
theorem kids_sign {nk lg : ByteArray → Bool} {n : Nat} (ih : IsAt nk lg n) (c : UInt8) (r : List UInt8) (g1 : c ≠ 42) (g2 : c ≠ 67) (g3 : c ≠ 65) (f : Fr) (hf : f.sz ≤ n) (hs : okS f) (hn : n ≤ 1000000) (W : World) (v : Value) (hv : HasK W v f)
    (hr : ∀ (f' : Fr) (v' : Value) (w' : World), f'.sz ≤ n → okS f' → HasK W v' f' → Up W w' → Calls Tryz.prog 180 #[v', .string (byt r)] w' (BoP (seqOk (infF nk lg f') r) W)) (w : World) (hu : Up W w) :
    Calls Tryz.prog 180 #[v, .string (byt (c :: r))] w (BoP (seqOk (infF nk lg f) (c :: r)) W) := by
  obtain ⟨T, hT, t1, t2, t3, t4, t5, t6, t7⟩ := byt_facts c r
  rw [hT]
  have h42 : ((c.toNat : Int) == 42) = false := u8_ne (d := 42) g1
  have h67 : ((c.toNat : Int) == 67) = false := u8_ne (d := 67) g2
  have h65 : ((c.toNat : Int) == 65) = false := u8_ne (d := 65) g3
  have hc0 : T[0]'t3 = c := t5 t3
  have hcat := fun W => cat_any c W
  have hsg := seq_sign (l := infF nk lg f) (r := r) g1 g2 g3
  have HC := Lib.hid hcat
  have HI := Lib.hid ih
  have HU := Lib.hid hu
  have HR := Lib.hid hr
  have HSG := Lib.hid hsg
  have t1z : (1 : Int) ≤ (T.size : Int) := by omega
  clear hcat ih hu hr hsg t2 t4 t5 t6 hT g1 g2 g3
  cases f with
  | nil =>
    obtain ⟨A, cp, rfl, hc, -⟩ := hv
    have HE : Hid (seqOk (infF nk lg .nil) (c :: r) = false) := Lib.hid (by rw [HSG.out]; rfl)
    have hl0 : (Fr.nil).len = 0 := rfl
    rw [hl0]
    clear HSG
    go_enter Tryz.func180, Tryz.ntmps180
    go_wp2_with fail
    refine wp_region_up HU.out (by kernel_rfl) (by kernel_rfl) ?_
    repeat (go_big_quiet_step (fail))
    refine wpQuiet_nil ?_
    rintro _ ⟨⟨w9, u9⟩, rfl⟩
    go_wp2_with fail
    go_ret
    exact bop_ret HE.out u9
  | cons x k rs =>
    obtain ⟨A, cp, rfl, hc, hk⟩ := id hv
    obtain ⟨kb, ko, rfl, hkb, ⟨u, hcell, hu⟩, hin⟩ := hk (Nat.succ_pos _)
    have htl := HasK.tail hv
    have hu : InT W (fun q => q < W.heap.size) u (x, k) := hu
    obtain ⟨q, p, rfl⟩ := hu.ptr
    have hT : HasT W (.pointer (some ⟨q, p, none⟩)) (some (x, k)) := hu
    have hsz : (Fr.cons x k rs).sz = 1 + k.sz + rs.sz := rfl
    have hsz2 : szT (x, k) = 1 + k.sz := rfl
    have cI := fun W' (h : Up W W') => HI.out (x, k) (by omega) ⟨hs.1, hs.2.1, hs.2.2.1⟩ (catOf c) W W' _ hT h
    have cR := fun W' (h : Up W W') => HR.out rs _ W' (by omega) hs.2.2.2 htl h
    obtain ⟨b, hb⟩ : ∃ b, isT nk lg (x, k) (catOf c) = b := ⟨_, rfl⟩
    have HSQ : Hid (seqOk (infF nk lg (.cons x k rs)) (c :: r) = (b && seqOk (infF nk lg rs) r)) := Lib.hid (by rw [HSG.out, ← hb]; rfl)
    rw [hb] at cI
    obtain ⟨M, hM⟩ : ∃ M, rs.len = M := ⟨_, rfl⟩
    have hl : (Fr.cons x k rs).len = M + 1 := by show rs.len + 1 = _; rw [hM]
    rw [hl] at hc ⊢
    rw [hM] at cR
    obtain ⟨D, hD⟩ : ∃ D, seqOk (infF nk lg rs) r = D := ⟨_, rfl⟩
    rw [hD] at cR HSQ
    have CI := Lib.hid cI
    have CR := Lib.hid cR
    have hll := Fr.len_le (Fr.cons x k rs)
    have hM6 : M ≤ 1000000 := by omega
    have hcu : ∀ u : Upw W, u.w.cell? ⟨kb, ko, none⟩ = some (.pointer (some ⟨q, p, none⟩)) := fun u => u.cell hcell
    have hm0 : (0 : Int) < ((M + 1 : Nat) : Int) := by omega
    have hm1 : (1 : Int) ≤ ((M + 1 : Nat) : Int) := by omega
    have hm2 : ((M + 1 : Nat) : Int) ≤ (cp : Int) := by omega
    clear hcell hin hu hT cI cR hb hsz hsz2 htl hk hv HSG hs hf hl hll hD hM
    cases b with
    | false =>
      go_enter Tryz.func180, Tryz.ntmps180
      go_wp2_with fail
      refine wp_region_up HU.out (by kernel_rfl) (by kernel_rfl) ?_
      repeat (go_big_quiet_step (first
            | (go_at_call 225; exact Calls.upw ((HC.out _).mono fun _ _ h => ⟨h.1, h.2 ▸ (by assumption : Upw W).h⟩))
            | (go_at_call 113; exact Calls.upw (CI.out _ (by assumption : Upw W).h))))
      refine wpQuiet_nil ?_
      rintro _ ⟨⟨w9, u9⟩, rfl⟩
      go_wp2_with fail
      go_ret
      exact bop_ret HSQ.out u9
    | true =>
      by_cases h1 : cp = 1
      · subst h1
        obtain rfl : M = 0 := by omega
        rw [if_pos rfl] at CR
        go_enter Tryz.func180, Tryz.ntmps180
        go_wp2_with fail
        refine wp_region_up HU.out (by kernel_rfl) (by kernel_rfl) ?_
        repeat (go_big_quiet_step (first
            | (go_at_call 225; exact Calls.upw ((HC.out _).mono fun _ _ h => ⟨h.1, h.2 ▸ (by assumption : Upw W).h⟩))
            | (go_at_call 113; exact Calls.upw (CI.out _ (by assumption : Upw W).h))
            | (go_at_call 180; exact Calls.upw (CR.out _ (by assumption : Upw W).h))))
        refine wpQuiet_nil ?_
        rintro _ ⟨⟨w9, u9⟩, rfl⟩
        go_wp2_with fail
        go_ret
        exact bop_ret HSQ.out u9
      · rw [if_neg h1] at CR
        go_enter Tryz.func180, Tryz.ntmps180
        go_wp2_with fail
        refine wp_region_up HU.out (by kernel_rfl) (by kernel_rfl) ?_
        repeat (go_big_quiet_step (first
            | (go_at_call 225; exact Calls.upw ((HC.out _).mono fun _ _ h => ⟨h.1, h.2 ▸ (by assumption : Upw W).h⟩))
            | (go_at_call 113; exact Calls.upw (CI.out _ (by assumption : Upw W).h))
            | (go_at_call 180; exact Calls.upw (CR.out _ (by assumption : Upw W).h))))
        refine wpQuiet_nil ?_
        rintro _ ⟨⟨w9, u9⟩, rfl⟩
        go_wp2_with fail
        go_ret
        exact bop_ret HSQ.out u9
theorem kids_any {nk lg : ByteArray → Bool} {n : Nat} (ih : IsAt nk lg n) (hn : n ≤ 1000000) (W : World) : ∀ (l : List UInt8), goodW l = true → ∀ (f : Fr) (v : Value) (w : World), f.sz ≤ n → okS f → HasK W v f → Up W w →
    Calls Tryz.prog 180 #[v, .string (byt l)] w (BoP (seqOk (infF nk lg f) l) W)
  | [], _, f, v, w, _, _, hv, hu => kids_nil f W w v hv hu
  | c :: r, hg, f, v, w, hf, hs, hv, hu => by
    unfold goodW at hg
    by_cases g1 : c = 42
    · subst g1
      cases r with
      | nil => simp at hg
      | cons d r => exact kids_star ih d r f hf hs hn W w v hv hu
    · by_cases g2 : c = 67
      · subst g2
        exact kids_C ih r f hf hs hn W w v hv hu
      · by_cases g3 : c = 65
        · subst g3
          exact kids_A ih r f hf hs hn W w v hv hu
        · rw [if_neg g1, if_neg g2, if_neg g3] at hg
          exact kids_sign ih c r g1 g2 g3 f hf hs hn W v hv (fun f' v' w' h1 h2 h3 h4 => kids_any ih hn W r hg f' v' w' h1 h2 h3 h4) w hu
end Go.Proofs.YthonaeigacfmbaaGreatDoor
namespace Go.Proofs.YthonaeigacfmbaaGreatDoor
open Go.RowKit

theorem flat7 : ∀ (L : List Rw) (i : Nat) (R : Rw) (j : Nat), L[i]? = some R → j < 7 → (L.flatMap rcl)[i * 7 + j]? = (rcl R)[j]?
  | [], _, _, _, h, _ => by simp at h
  | x :: L, 0, R, j, h, hj => by
    have : x = R := by simpa using h
    subst this
    rw [List.flatMap_cons, List.getElem?_append_left (by show 0 * 7 + j < 7; omega)]
    simp
  | x :: L, i + 1, R, j, h, hj => by
    rw [List.flatMap_cons, List.getElem?_append_right (by show 7 ≤ (i + 1) * 7 + j; omega)]
    have := flat7 L i R j (by simpa using h) hj
    rw [← this]
    congr 1
    show (i + 1) * 7 + j - 7 = _
    omega
theorem Tbl.cell {w : World} {g I : Nat} {R : Rw} (h : Tbl w g) (hR : RWS[I]? = some R) (j : Nat) (hj : j < 7) : w.cell? ⟨g, I * 7 + j, none⟩ = (rcl R)[j]? := by
  rw [← flat7 RWS I R j hR hj]
  rw [cell_of_row w g (I * 7 + j) _ _ _ h]
  simp [RWC]
theorem row_cells (w : World) (vs : List Value) (e : TypeId) (j : Nat) (v : Value) (hj : vs[j]? = some v) : (w.alloc (.cells vs.toArray e)).cell? ⟨w.heap.size, j, none⟩ = some v := by
  rw [cell_of_row _ w.heap.size j _ _ _ (heap_alloc_new w _)]
  simpa using hj
set_option maxHeartbeats 12800000 in
set_option maxRecDepth 100000 in
theorem is_step (n : Nat) (hn : n ≤ 1000000) (ih : IsAt B.nck B.long n) : IsAt B.nck B.long (n + 1) := by
  rintro ⟨x, ks⟩ hsz ⟨ha, hm, hs⟩ c W w v hv hu
  have hsz2 : szT (x, ks) = 1 + ks.sz := rfl
  have cK := fun (W' : World) (l : List UInt8) (hl : goodW l = true) (v' : Value) (w' : World) (h1 : HasK W' v' ks) (h2 : Up W' w') => kids_any ih hn W' l hl ks v' w' (by omega) hs h1 h2
  obtain ⟨q, p, A, cp, rfl, hq, c0, c1, c2, c3, c4, hc, hkid⟩ := InT.open (x := x) (ks := ks) hv
  have hk : HasK W (.slice A ks.len cp) ks := ⟨A, cp, rfl, hc, fun h0 => by
    obtain ⟨kb, ko, hA, h1, h2⟩ := hkid h0
    exact ⟨kb, ko, hA, h1, h2⟩⟩
  have CK := Lib.hid cK
  have HA := Lib.hid ha
  have HM := Lib.hid hm
  have HU := Lib.hid hu
  have HK := Lib.hid hk
  obtain ⟨N, hN⟩ : ∃ N, ks.len = N := ⟨_, rfl⟩
  rw [hN] at c4 hk
  have HK := Lib.hid hk
  have C0 := Lib.hid c0
  have C1 := Lib.hid c1
  have C2 := Lib.hid c2
  have C3 := Lib.hid c3
  have C4 := Lib.hid c4
  clear cK ha hm hu hk hv hsz hsz2 hkid hc hs hq ih c0 c1 c2 c3 c4 hN
  go_enter Tryz.func113, Tryz.ntmps113
  go_wp2_with fail
  refine (rows_any _).mono ?_
  rintro e w1 ⟨g, rfl, hg, htb, hb1⟩
  have HU1 := Lib.hid (HU.out.of hb1)
  have HT := Lib.hid htb
  clear hb1 htb hg
  go_wp2_with fail
  go_loopw [6, 7] (fun i _ wr => ∃ I : Nat, i = .int .i64 I ∧ I ≤ 47 ∧ (∀ (j : Nat) R, j < I → RWS[j]? = some R → fitR B.nck B.long x (infF B.nck B.long ks) c R = false) ∧ Up w1 wr) (fun i _ _ => 47 - (intOf i).toNat)
  case atStart => exact ⟨0, rfl, by omega, fun j x hj => absurd hj (Nat.not_lt_zero _), Up.refl _⟩
  case round =>
    obtain ⟨I, rfl, hI, hall, hur⟩ := hrel
    have HALL := Lib.hid hall
    have HUR := Lib.hid hur
    clear hall hur
    by_cases hlt : I < 47
    · have hiz : (I : Int) < 47 := by omega
      obtain ⟨R, hR⟩ : ∃ R, RWS[I]? = some R := ⟨_, List.getElem?_eq_getElem (by rw [rows_num]; exact hlt)⟩
      obtain ⟨hgw, hkl, hnm, hmr⟩ := rows_good R (List.mem_of_getElem? hR)
      have tb := HUR.out.row HT.out
      have r0 := Tbl.cell tb hR 0 (by omega)
      have r1 := Tbl.cell tb hR 1 (by omega)
      have r2 := Tbl.cell tb hR 2 (by omega)
      have r3 := Tbl.cell tb hR 3 (by omega)
      have r4 := Tbl.cell tb hR 4 (by omega)
      have r5 := Tbl.cell tb hR 5 (by omega)
      have r6 := Tbl.cell tb hR 6 (by omega)
      have HRI := Lib.hid hR
      clear hR tb
      obtain ⟨rc, rk, rn, rm, rf, rt, rs⟩ := R
      simp only [rcl, List.getElem?_cons_zero, List.getElem?_cons_succ, Nat.add_zero] at r0 r1 r2 r3 r4 r5 r6
      have HNX : Hid (fitR B.nck B.long x (infF B.nck B.long ks) c ⟨rc, rk, rn, rm, rf, rt, rs⟩ = false → ∀ (j : Nat) R, j < I + 1 → RWS[j]? = some R → fitR B.nck B.long x (infF B.nck B.long ks) c R = false) := Lib.hid fun h j R hj hR => by
        by_cases e : j = I
        · subst e
          rw [HRI.out] at hR
          injection hR with hR
          rw [← hR]
          exact h
        · exact HALL.out j R (by omega) hR
      have hw1 := fun W' => word_any x.a rn hnm W' HA.out
      have hw2 := fun W' => word_any x.m rm hmr W' HM.out
      have hfit : fitR B.nck B.long x (infF B.nck B.long ks) c ⟨rc, rk, rn, rm, rf, rt, rs⟩ = (decide (rc = c) && decide (rk = x.k) && wordR B.nck B.long x.a rn && wordR B.nck B.long x.m rm && decide (rf ≤ x.n) && decide (x.n ≤ rt) && seqOk (infF B.nck B.long ks) rs) := rfl
      obtain ⟨F, hF⟩ : ∃ F, fitR B.nck B.long x (infF B.nck B.long ks) c ⟨rc, rk, rn, rm, rf, rt, rs⟩ = F := ⟨_, rfl⟩
      have UW2 : Hid (Up w1 (wr.alloc (.cells [Value.int .i64 rc, .int .i64 rk, .string (byt rn), .string (byt rm), .int .i64 rf, .int .i64 rt, .string (byt rs)].toArray 188))) := Lib.hid (HUR.out.alloc _)
      have rcell := row_cells wr [Value.int .i64 rc, .int .i64 rk, .string (byt rn), .string (byt rm), .int .i64 rf, .int .i64 rt, .string (byt rs)] 188
      obtain ⟨W2, hW2⟩ : ∃ W2, wr.alloc (.cells [Value.int .i64 rc, .int .i64 rk, .string (byt rn), .string (byt rm), .int .i64 rf, .int .i64 rt, .string (byt rs)].toArray 188) = W2 := ⟨_, rfl⟩
      rw [hW2] at UW2 rcell
      have HKK := Lib.hid fun w' (h : Up W2 w') => CK.out W2 rs hgw _ w' (HK.out.up (HU1.out.trans UW2.out)) h
      rw [hF] at hfit
      obtain ⟨b1, hb1⟩ : ∃ b, wordR B.nck B.long x.a rn = b := ⟨_, rfl⟩
      obtain ⟨b2, hb2⟩ : ∃ b, wordR B.nck B.long x.m rm = b := ⟨_, rfl⟩
      obtain ⟨b3, hb3⟩ : ∃ b, seqOk (infF B.nck B.long ks) rs = b := ⟨_, rfl⟩
      rw [hb1] at hw1 hfit
      rw [hb2] at hw2 hfit
      rw [hb3] at HKK hfit
      have HW1 := Lib.hid hw1
      have HW2 := Lib.hid hw2
      obtain ⟨Q, hQ⟩ : ∃ Q, wr.heap.size = Q := ⟨_, rfl⟩
      rw [hQ] at rcell
      have s0 : ∀ u : Upw W2, u.w.cell? ⟨Q, 0, none⟩ = some (.int .i64 rc) := fun u => u.cell (rcell 0 _ rfl)
      have s1 : ∀ u : Upw W2, u.w.cell? ⟨Q, 1, none⟩ = some (.int .i64 rk) := fun u => u.cell (rcell 1 _ rfl)
      have s2 : ∀ u : Upw W2, u.w.cell? ⟨Q, 2, none⟩ = some (.string (byt rn)) := fun u => u.cell (rcell 2 _ rfl)
      have s3 : ∀ u : Upw W2, u.w.cell? ⟨Q, 3, none⟩ = some (.string (byt rm)) := fun u => u.cell (rcell 3 _ rfl)
      have s4 : ∀ u : Upw W2, u.w.cell? ⟨Q, 4, none⟩ = some (.int .i64 rf) := fun u => u.cell (rcell 4 _ rfl)
      have s5 : ∀ u : Upw W2, u.w.cell? ⟨Q, 5, none⟩ = some (.int .i64 rt) := fun u => u.cell (rcell 5 _ rfl)
      have s6 : ∀ u : Upw W2, u.w.cell? ⟨Q, 6, none⟩ = some (.string (byt rs)) := fun u => u.cell (rcell 6 _ rfl)
      have UU := Lib.hid (HU1.out.trans UW2.out)
      have n0 : ∀ u : Upw W2, u.w.cell? ⟨q, p, none⟩ = some (.int .i64 x.k) := fun u => u.cell (UU.out.cell C0.out)
      have n1 : ∀ u : Upw W2, u.w.cell? ⟨q, p + 1, none⟩ = some (.int .i64 x.n) := fun u => u.cell (UU.out.cell C1.out)
      have n2 : ∀ u : Upw W2, u.w.cell? ⟨q, p + 2, none⟩ = some (.string x.a) := fun u => u.cell (UU.out.cell C2.out)
      have n3 : ∀ u : Upw W2, u.w.cell? ⟨q, p + 3, none⟩ = some (.string x.m) := fun u => u.cell (UU.out.cell C3.out)
      have n4 : ∀ u : Upw W2, u.w.cell? ⟨q, p + 4, none⟩ = some (.slice A N cp) := fun u => u.cell (UU.out.cell C4.out)
      have hcase : ((rc == c) = false ∧ F = false) ∨ ((rc == c) = true ∧ (rk == x.k) = false ∧ F = false) ∨ ((rc == c) = true ∧ (rk == x.k) = true ∧ b1 = false ∧ F = false) ∨ ((rc == c) = true ∧ (rk == x.k) = true ∧ b1 = true ∧ b2 = false ∧ F = false) ∨
          ((rc == c) = true ∧ (rk == x.k) = true ∧ b1 = true ∧ b2 = true ∧ decide (rf ≤ x.n) = false ∧ F = false) ∨ ((rc == c) = true ∧ (rk == x.k) = true ∧ b1 = true ∧ b2 = true ∧ decide (rf ≤ x.n) = true ∧ decide (x.n ≤ rt) = false ∧ F = false) ∨
          ((rc == c) = true ∧ (rk == x.k) = true ∧ b1 = true ∧ b2 = true ∧ decide (rf ≤ x.n) = true ∧ decide (x.n ≤ rt) = true ∧ b3 = F) := by
        have e1 : (rc == c) = decide (rc = c) := rfl
        have e2 : (rk == x.k) = decide (rk = x.k) := rfl
        rw [e1, e2, hfit]
        cases decide (rc = c) <;> cases decide (rk = x.k) <;> cases b1 <;> cases b2 <;> cases decide (rf ≤ x.n) <;> cases decide (x.n ≤ rt) <;> simp
      have HB := Lib.hid (⟨hb1, hb2, hb3⟩ : _ ∧ _ ∧ _)
      clear rcell hb1 hb2 hb3 hfit hw1 hw2 hnm hmr hgw
      rcases hcase with ⟨d1, rfl⟩ | ⟨d1, d2, rfl⟩ | ⟨d1, d2, rfl, rfl⟩ | ⟨d1, d2, rfl, rfl, rfl⟩ | ⟨d1, d2, rfl, rfl, d3, rfl⟩ | ⟨d1, d2, rfl, rfl, d3, d4, rfl⟩ | ⟨d1, d2, rfl, rfl, d3, d4, rfl⟩
      · have HFF := Lib.hid hF
        clear hF
        go_wp2_with fail
        refine wp_region_up (W := W2) (Up.refl _) (by kernel_rfl) (by kernel_rfl) ?_
        repeat (go_big_quiet_step (first
            | (go_at_call_of 179 (Value.string x.a); exact Calls.upw ((HW1.out _).mono fun _ _ h => ⟨h.1, (by assumption : Upw W2).h.of h.2⟩))
            | (go_at_call_of 179 (Value.string x.m); exact Calls.upw ((HW2.out _).mono fun _ _ h => ⟨h.1, (by assumption : Upw W2).h.of h.2⟩))
            | (go_at_call 180; exact Calls.upw (HKK.out _ (by assumption : Upw W2).h))))
        refine wpQuiet_nil ?_
        rintro _ ⟨⟨w9, u9⟩, rfl⟩
        go_wp2_with fail
        go_roundw
        case rel => exact ⟨I + 1, by go_num, by omega, HNX.out HFF.out, UW2.out.trans u9⟩
        case measure => simp [intOf]; omega
      · have HFF := Lib.hid hF
        clear hF
        go_wp2_with fail
        refine wp_region_up (W := W2) (Up.refl _) (by kernel_rfl) (by kernel_rfl) ?_
        repeat (go_big_quiet_step (first
            | (go_at_call_of 179 (Value.string x.a); exact Calls.upw ((HW1.out _).mono fun _ _ h => ⟨h.1, (by assumption : Upw W2).h.of h.2⟩))
            | (go_at_call_of 179 (Value.string x.m); exact Calls.upw ((HW2.out _).mono fun _ _ h => ⟨h.1, (by assumption : Upw W2).h.of h.2⟩))
            | (go_at_call 180; exact Calls.upw (HKK.out _ (by assumption : Upw W2).h))))
        refine wpQuiet_nil ?_
        rintro _ ⟨⟨w9, u9⟩, rfl⟩
        go_wp2_with fail
        go_roundw
        case rel => exact ⟨I + 1, by go_num, by omega, HNX.out HFF.out, UW2.out.trans u9⟩
        case measure => simp [intOf]; omega
      · have HFF := Lib.hid hF
        clear hF
        go_wp2_with fail
        refine wp_region_up (W := W2) (Up.refl _) (by kernel_rfl) (by kernel_rfl) ?_
        repeat (go_big_quiet_step (first
            | (go_at_call_of 179 (Value.string x.a); exact Calls.upw ((HW1.out _).mono fun _ _ h => ⟨h.1, (by assumption : Upw W2).h.of h.2⟩))
            | (go_at_call_of 179 (Value.string x.m); exact Calls.upw ((HW2.out _).mono fun _ _ h => ⟨h.1, (by assumption : Upw W2).h.of h.2⟩))
            | (go_at_call 180; exact Calls.upw (HKK.out _ (by assumption : Upw W2).h))))
        refine wpQuiet_nil ?_
        rintro _ ⟨⟨w9, u9⟩, rfl⟩
        go_wp2_with fail
        go_roundw
        case rel => exact ⟨I + 1, by go_num, by omega, HNX.out HFF.out, UW2.out.trans u9⟩
        case measure => simp [intOf]; omega
      · have HFF := Lib.hid hF
        clear hF
        go_wp2_with fail
        refine wp_region_up (W := W2) (Up.refl _) (by kernel_rfl) (by kernel_rfl) ?_
        repeat (go_big_quiet_step (first
            | (go_at_call_of 179 (Value.string x.a); exact Calls.upw ((HW1.out _).mono fun _ _ h => ⟨h.1, (by assumption : Upw W2).h.of h.2⟩))
            | (go_at_call_of 179 (Value.string x.m); exact Calls.upw ((HW2.out _).mono fun _ _ h => ⟨h.1, (by assumption : Upw W2).h.of h.2⟩))
            | (go_at_call 180; exact Calls.upw (HKK.out _ (by assumption : Upw W2).h))))
        refine wpQuiet_nil ?_
        rintro _ ⟨⟨w9, u9⟩, rfl⟩
        go_wp2_with fail
        go_roundw
        case rel => exact ⟨I + 1, by go_num, by omega, HNX.out HFF.out, UW2.out.trans u9⟩
        case measure => simp [intOf]; omega
      · have HFF := Lib.hid hF
        clear hF
        go_wp2_with fail
        refine wp_region_up (W := W2) (Up.refl _) (by kernel_rfl) (by kernel_rfl) ?_
        repeat (go_big_quiet_step (first
            | (go_at_call_of 179 (Value.string x.a); exact Calls.upw ((HW1.out _).mono fun _ _ h => ⟨h.1, (by assumption : Upw W2).h.of h.2⟩))
            | (go_at_call_of 179 (Value.string x.m); exact Calls.upw ((HW2.out _).mono fun _ _ h => ⟨h.1, (by assumption : Upw W2).h.of h.2⟩))
            | (go_at_call 180; exact Calls.upw (HKK.out _ (by assumption : Upw W2).h))))
        refine wpQuiet_nil ?_
        rintro _ ⟨⟨w9, u9⟩, rfl⟩
        go_wp2_with fail
        go_roundw
        case rel => exact ⟨I + 1, by go_num, by omega, HNX.out HFF.out, UW2.out.trans u9⟩
        case measure => simp [intOf]; omega
      · have HFF := Lib.hid hF
        clear hF
        go_wp2_with fail
        refine wp_region_up (W := W2) (Up.refl _) (by kernel_rfl) (by kernel_rfl) ?_
        repeat (go_big_quiet_step (first
            | (go_at_call_of 179 (Value.string x.a); exact Calls.upw ((HW1.out _).mono fun _ _ h => ⟨h.1, (by assumption : Upw W2).h.of h.2⟩))
            | (go_at_call_of 179 (Value.string x.m); exact Calls.upw ((HW2.out _).mono fun _ _ h => ⟨h.1, (by assumption : Upw W2).h.of h.2⟩))
            | (go_at_call 180; exact Calls.upw (HKK.out _ (by assumption : Upw W2).h))))
        refine wpQuiet_nil ?_
        rintro _ ⟨⟨w9, u9⟩, rfl⟩
        go_wp2_with fail
        go_roundw
        case rel => exact ⟨I + 1, by go_num, by omega, HNX.out HFF.out, UW2.out.trans u9⟩
        case measure => simp [intOf]; omega
      · cases b3 with
        | false =>
          have HFF := Lib.hid hF
          clear hF
          go_wp2_with fail
          refine wp_region_up (W := W2) (Up.refl _) (by kernel_rfl) (by kernel_rfl) ?_
          repeat (go_big_quiet_step (first
              | (go_at_call_of 179 (Value.string x.a); exact Calls.upw ((HW1.out _).mono fun _ _ h => ⟨h.1, (by assumption : Upw W2).h.of h.2⟩))
              | (go_at_call_of 179 (Value.string x.m); exact Calls.upw ((HW2.out _).mono fun _ _ h => ⟨h.1, (by assumption : Upw W2).h.of h.2⟩))
              | (go_at_call 180; exact Calls.upw (HKK.out _ (by assumption : Upw W2).h))))
          refine wpQuiet_nil ?_
          rintro _ ⟨⟨w9, u9⟩, rfl⟩
          go_wp2_with fail
          go_roundw
          case rel => exact ⟨I + 1, by go_num, by omega, HNX.out HFF.out, UW2.out.trans u9⟩
          case measure => simp [intOf]; omega
        | true =>
          have HE : Hid (isT B.nck B.long (x, ks) c = true) := Lib.hid (isX_row.2 ⟨_, List.mem_of_getElem? HRI.out, hF⟩)
          clear hF
          go_wp2_with fail
          refine wp_region_up (W := W2) (Up.refl _) (by kernel_rfl) (by kernel_rfl) ?_
          repeat (go_big_quiet_step (first
              | (go_at_call_of 179 (Value.string x.a); exact Calls.upw ((HW1.out _).mono fun _ _ h => ⟨h.1, (by assumption : Upw W2).h.of h.2⟩))
              | (go_at_call_of 179 (Value.string x.m); exact Calls.upw ((HW2.out _).mono fun _ _ h => ⟨h.1, (by assumption : Upw W2).h.of h.2⟩))
              | (go_at_call 180; exact Calls.upw (HKK.out _ (by assumption : Upw W2).h))))
          refine wpQuiet_nil ?_
          rintro _ ⟨⟨w9, u9⟩, rfl⟩
          go_wp2_with fail
          go_ret
          exact bop_ret HE.out (UU.out.trans u9)
    · have hI47 : I = 47 := by omega
      have hiz : ¬ (I : Int) < 47 := by omega
      have HE : Hid (isT B.nck B.long (x, ks) c = false) := Lib.hid (by
        cases h : isT B.nck B.long (x, ks) c with
        | false => rfl
        | true =>
          obtain ⟨R, hR, hf⟩ := isX_row.1 h
          obtain ⟨j, hj⟩ := List.getElem?_of_mem hR
          have := (List.getElem?_eq_some_iff.1 hj).1
          rw [rows_num] at this
          rw [HALL.out j R (by omega) hj] at hf
          cases hf)
      go_wp2_with fail
      go_ret
      exact bop_ret HE.out (HU1.out.trans HUR.out)
end Go.Proofs.YthonaeigacfmbaaGreatDoor
namespace Go.Proofs.YthonaeigacfmbaaGreatDoor
open Go.RowKit

/-! ### lists of paths -/
def Spp (w : World) (B : Nat) (v : Value) (l : List (List Int)) : Prop :=
  ∃ A c, v = .slice A l.length c ∧ l.length ≤ c ∧ ∀ (j : Nat) (u : List Int), l[j]? = some u → ∃ b o pv, A = some ⟨b, o, none⟩ ∧ b < B ∧ w.cell? ⟨b, o + j, none⟩ = some pv ∧ Sp w B pv u
theorem Spp.keep {w w' : World} {B B' : Nat} {v : Value} {l : List (List Int)} (h : Spp w B v l) (hB : B ≤ B') (hk : ∀ p : Addr, p.block < B → w'.cell? p = w.cell? p) : Spp w' B' v l := by
  obtain ⟨A, c, hv, hlc, hc⟩ := h
  refine ⟨A, c, hv, hlc, fun j u hu => ?_⟩
  obtain ⟨b, o, pv, hA, hlt, hcell, hs⟩ := hc j u hu
  exact ⟨b, o, pv, hA, by omega, (hk _ hlt).trans hcell, hs.keep hB hk⟩
theorem Sp.slice {w : World} {B : Nat} {v : Value} {l : List Int} (h : Sp w B v l) : ∃ A c, v = .slice A l.length c := by
  obtain ⟨A, c, hv, _⟩ := h
  exact ⟨A, c, hv⟩
theorem Sp.drew {w : World} {B : Nat} {v : Value} {l : List Int} (h : Sp w B v l) (q : Nat) : Sp (w.drewN q) B v l := h.keep (Nat.le_refl _) fun _ _ => rfl
end Go.Proofs.YthonaeigacfmbaaGreatDoor
namespace Go.Proofs.YthonaeigacfmbaaGreatDoor
open Go.RowKit

def Sl1 (w : World) (S : Nat → Prop) (v : Value) (l : List Int) : Prop :=
  (l = [] ∧ v = .slice none 0 0) ∨ ∃ b c, v = .slice (some ⟨b, 0, none⟩) l.length c ∧ l.length ≤ c ∧ 0 < l.length ∧ S b ∧ ∀ (j : Nat) (u : Int), l[j]? = some u → w.cell? ⟨b, 0 + j, none⟩ = some (.int .i64 u)
theorem Sl1.keep {w w' : World} {S S' : Nat → Prop} {v : Value} {l : List Int} (h : Sl1 w S v l) (hS : ∀ q, S q → S' q) (hk : ∀ p : Addr, S p.block → w'.cell? p = w.cell? p) : Sl1 w' S' v l := by
  rcases h with h | ⟨b, c, hv, h1, h2, h3, h4⟩
  · exact .inl h
  · exact .inr ⟨b, c, hv, h1, h2, hS b h3, fun j u hu => (hk ⟨b, 0 + j, none⟩ h3).trans (h4 j u hu)⟩
theorem Sl1.sp {w : World} {S : Nat → Prop} {B : Nat} {v : Value} {l : List Int} (h : Sl1 w S v l) (hB : Bel S B) : Sp w B v l := by
  rcases h with ⟨rfl, rfl⟩ | ⟨b, c, rfl, h1, h2, h3, h4⟩
  · exact ⟨none, 0, rfl, Nat.le_refl _, fun j u hu => by simp at hu⟩
  · exact ⟨_, c, rfl, h1, fun j u hu => ⟨b, 0, rfl, hB b h3, h4 j u hu⟩⟩
theorem Sl1.one {w : World} {S : Nat → Prop} {v : Value} {l : List Int} (h : Sl1 w S v l) : v.oneCell' = true := by
  rcases h with ⟨_, rfl⟩ | ⟨b, c, rfl, _⟩ <;> rfl
def PpF (w : World) (S : Nat → Prop) : List Value → List (List Int) → Prop
  | [], [] => True
  | v :: vs, l :: ls => Sl1 w S v l ∧ PpF w S vs ls
  | _, _ => False
theorem PpF.len {w : World} {S : Nat → Prop} : ∀ {vs : List Value} {f : List (List Int)}, PpF w S vs f → vs.length = f.length
  | [], [], _ => rfl
  | [], _ :: _, h => h.elim
  | _ :: _, [], h => h.elim
  | _ :: vs, _ :: ls, h => by simp only [List.length_cons, PpF.len (vs := vs) (f := ls) h.2]
theorem PpF.keep {w w' : World} {S S' : Nat → Prop} (hS : ∀ q, S q → S' q) (hk : ∀ p : Addr, S p.block → w'.cell? p = w.cell? p) : ∀ {vs : List Value} {f : List (List Int)}, PpF w S vs f → PpF w' S' vs f
  | [], [], _ => trivial
  | [], _ :: _, h => h.elim
  | _ :: _, [], h => h.elim
  | _ :: vs, _ :: ls, h => ⟨h.1.keep hS hk, PpF.keep hS hk (vs := vs) (f := ls) h.2⟩
theorem PpF.snoc {w : World} {S : Nat → Prop} {v : Value} {t : List Int} (hv : Sl1 w S v t) : ∀ {vs : List Value} {f : List (List Int)}, PpF w S vs f → PpF w S (vs ++ [v]) (f ++ [t])
  | [], [], _ => ⟨hv, trivial⟩
  | [], _ :: _, h => h.elim
  | _ :: _, [], h => h.elim
  | _ :: vs, _ :: ls, h => ⟨h.1, PpF.snoc hv (vs := vs) (f := ls) h.2⟩
theorem PpF.at {w : World} {S : Nat → Prop} : ∀ {vs : List Value} {f : List (List Int)} {j : Nat} {l : List Int}, PpF w S vs f → f[j]? = some l → ∃ v, vs[j]? = some v ∧ Sl1 w S v l
  | [], [], _, _, _, h => by simp at h
  | [], _ :: _, _, _, h, _ => h.elim
  | _ :: _, [], _, _, h, _ => h.elim
  | v :: vs, l' :: ls, 0, l, h, hl => by simp at hl; subst hl; exact ⟨v, rfl, h.1⟩
  | v :: vs, l' :: ls, j + 1, l, h, hl => PpF.at (vs := vs) (f := ls) h.2 hl
def So (H : Nat) (w : World) (v : Value) (q : Nat) : Prop := H ≤ q ∧ q < w.heap.size ∧ v.ownBlock ≠ some q
def OwnP (w : World) (H : Nat) (v : Value) (L : List (List Int)) : Prop := ∃ ps, w.ownsRow H 87 1 v L.length ps ∧ PpF w (So H w v) ps L
theorem OwnP.nil (w : World) (H : Nat) : OwnP w H (.slice none 0 0) [] := ⟨[], World.ownsRow_nil _ _ _ _, trivial⟩
theorem infoI : (Tryz.prog.info? 3).map (fun i => (i.zero, i.size, i.bytes)) = some (some (.int .i64 0), 1, 8) := by kernel_rfl
theorem path_more {wa w4 : World} {H : Nat} {vo v' u : Value} {L : List (List Int)} {t : List Int} {ps : List Value} {ob : Obj} (hp : PpF wa (So H wa vo) ps L) (hu : Sl1 wa (So H wa vo) u t)
    (ho : w4.ownsRow H 87 1 v' (L.length + 1) (ps ++ [u])) (hg : (wa.alloc ob).grownBy w4 vo.ownBlock) (hat : v'.ownBlock = vo.ownBlock ∨ v'.ownBlock = some (wa.heap.size + 1)) : OwnP w4 H v' (L ++ [t]) := by
  have hasz : (wa.alloc ob).heap.size = wa.heap.size + 1 := by simp
  have hs4 := hg.size
  have hk : ∀ p : Addr, So H wa vo p.block → w4.cell? p = wa.cell? p := by
    rintro p ⟨h1, h2, h3⟩
    rw [hg.cell_far p (by omega) (fun e => h3 e.symm)]
    exact ((Below.refl wa.heap.size wa).alloc (Nat.le_refl _) ob).cell h2
  have hS : ∀ q, So H wa vo q → So H w4 v' q := by
    rintro q ⟨h1, h2, h3⟩
    refine ⟨h1, by omega, ?_⟩
    rcases hat with h | h
    · rw [h]; exact h3
    · rw [h]; intro e; injection e with e; omega
  refine ⟨ps ++ [u], by rw [List.length_append]; exact ho, PpF.snoc (hu.keep hS hk) (hp.keep hS hk)⟩
end Go.Proofs.YthonaeigacfmbaaGreatDoor
namespace Go.Proofs.YthonaeigacfmbaaGreatDoor
open Go.RowKit

def ints (l : List Int) : List Value := l.map fun u => .int .i64 u
theorem Sl1.made {w : World} {S : Nat → Prop} {B : Nat} {v : Value} {l : List Int} {e : TypeId} (h : w.ownsRow B e 1 v l.length (ints l)) (hl : 0 < l.length) (hS : ∀ g, v.ownBlock = some g → S g) : Sl1 w S v l := by
  obtain ⟨g, cap, hv, _, hc⟩ : ∃ g cap, v = .slice (some ⟨g, 0, none⟩) l.length cap ∧ True ∧ l.length ≤ cap := by
    rcases h.2 with ⟨hv, h0⟩ | ⟨g, cap, cur, hv, _, _, hc, _⟩
    · omega
    · exact ⟨g, cap, hv, trivial, hc⟩
  subst hv
  refine .inr ⟨g, cap, rfl, hc, hl, hS g rfl, fun j u hu => ?_⟩
  have h1 := h.cells (g := g) rfl j (.int .i64 u) (by unfold ints; rw [List.getElem?_map, hu]; rfl)
  have e1 : (⟨g, 0, none⟩ : Addr).add j = ⟨g, 0 + j, none⟩ := by unfold Addr.add; split <;> simp_all
  rwa [e1] at h1
theorem OwnP.below {w w' : World} {H : Nat} {v : Value} {L : List (List Int)} (h : OwnP w H v L) (hb : Below w.heap.size w w') : OwnP w' H v L := by
  obtain ⟨ps, h1, h2⟩ := h
  have hs := hb.size
  exact ⟨ps, own_below h1 hb, h2.keep (by rintro q ⟨a, b, c⟩; exact ⟨a, by omega, c⟩) fun p hp => hb.cell hp.2.1⟩
theorem OwnP.open {w : World} {H : Nat} {v : Value} {L : List (List Int)} (h : OwnP w H v L) : ∃ A c, v = .slice A L.length c ∧ L.length ≤ c ∧ ∀ (j : Nat) (t : List Int), L[j]? = some t → ∃ g u, A = some ⟨g, 0, none⟩ ∧ H ≤ g ∧ g < w.heap.size ∧ w.cell? ⟨g, 0 + j, none⟩ = some u ∧ Sl1 w (So H w v) u t := by
  obtain ⟨ps, h1, h2⟩ := h
  rcases h1.2 with ⟨hv, h0⟩ | ⟨g, cap, cur, hv, hg, hh, hc, _⟩
  · rw [h0]
    refine ⟨none, 0, hv, Nat.le_refl _, fun j t ht => ?_⟩
    have := (List.getElem?_eq_some_iff.1 ht).1
    omega
  · refine ⟨_, cap, hv, hc, fun j t ht => ?_⟩
    obtain ⟨u, hu, hs⟩ := h2.at ht
    have h3 := h1.cells (g := g) (by rw [hv]; rfl) j u hu
    have e1 : (⟨g, 0, none⟩ : Addr).add j = ⟨g, 0 + j, none⟩ := by unfold Addr.add; split <;> simp_all
    rw [e1] at h3
    exact ⟨g, u, rfl, hg, heap_lt hh, h3, hs⟩
def PIn (w w2 : World) (H H2 H3 : Nat) (L : List (List Int)) (vo : Value) (wa : World) : Prop :=
  OwnP wa H vo L ∧ Below H w wa ∧ (∀ g, vo.ownBlock = some g → g < H2 ∨ H3 ≤ g) ∧ (∀ p : Addr, H2 ≤ p.block → p.block < H3 → wa.cell? p = w2.cell? p) ∧ H3 ≤ wa.heap.size
theorem PIn.step {w w2 wa w5 w6 : World} {H H2 H3 : Nat} {L : List (List Int)} {vo v' vo' : Value} {i : Int} {t : List Int} {ps : List Value} {ob1 ob2 : Obj} (hH : H ≤ H2) (h23 : H2 ≤ H3)
    (hb : Below H w wa) (hpp : PpF wa (So H wa vo) ps L) (hlt : ∀ g, vo.ownBlock = some g → g < wa.heap.size) (hvo : ∀ g, vo.ownBlock = some g → g < H2 ∨ H3 ≤ g) (hk : ∀ p : Addr, H2 ≤ p.block → p.block < H3 → wa.cell? p = w2.cell? p) (hs : H3 ≤ wa.heap.size)
    (ho5 : w5.ownsRow wa.heap.size 3 1 v' (i :: t).length (ints (i :: t))) (hg5 : (wa.alloc ob1).grownBy w5 (some wa.heap.size))
    (ho6 : w6.ownsRow H 87 1 vo' (L.length + 1) (ps ++ [v'])) (hg6 : (w5.alloc ob2).grownBy w6 vo.ownBlock) (hat6 : vo'.ownBlock = vo.ownBlock ∨ vo'.ownBlock = some (w5.heap.size + 1)) (hge : ∀ g, vo.ownBlock = some g → H ≤ g) :
    PIn w w2 H H2 H3 (L ++ [i :: t]) vo' w6 := by
  have hasz : (wa.alloc ob1).heap.size = wa.heap.size + 1 := by simp
  have h5sz : (w5.alloc ob2).heap.size = w5.heap.size + 1 := by simp
  have hs5 := hg5.size
  have hs6 := hg6.size
  have hb5 : Below wa.heap.size wa w5 := ((Below.refl wa.heap.size wa).alloc (Nat.le_refl _) ob1).grown hg5 (by omega) (fun k hk => by injection hk with hk; omega)
  have hpp5 : PpF w5 (So H w5 vo) ps L := hpp.keep (by rintro q ⟨a, b, c⟩; exact ⟨a, by omega, c⟩) fun p hp => hb5.cell hp.2.1
  have hu5 : Sl1 w5 (So H w5 vo) v' (i :: t) := Sl1.made ho5 (by simp) fun g hg => by
    have h1 := ho5.lt g hg
    refine ⟨by omega, h1.2, fun he => ?_⟩
    have := hlt g he
    omega
  refine ⟨path_more hpp5 hu5 ho6 hg6 hat6, ?_, ?_, ?_, by omega⟩
  · have h1 := hb.trans (hb5.mono (by omega))
    exact (h1.alloc (by have := h1.size; have := hb.size; omega) ob2).grown hg6 (by have := h1.size; have := hb.size; omega) hge
  · intro g hg
    rcases hat6 with h | h
    · exact hvo g (by rw [← h]; exact hg)
    · rw [h] at hg; injection hg with hg; omega
  · intro p h1 h2
    rw [hg6.cell_far p (by omega) (fun e => by have := hvo _ e.symm; omega), ((Below.refl w5.heap.size w5).alloc (Nat.le_refl _) ob2).cell (by omega), hb5.cell (by omega)]
    exact hk p h1 h2
end Go.Proofs.YthonaeigacfmbaaGreatDoor
