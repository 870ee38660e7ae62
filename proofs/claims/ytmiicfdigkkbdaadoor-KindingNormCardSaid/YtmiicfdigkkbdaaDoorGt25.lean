/-
  Layer 10, the program's side: whole, plain, kids, isKind.
-/
import Derived.Test.YtmiicfdigkkbdaaDoorGt05
import Derived.Test.YtmiicfdigkkbdaaDoorGt07
namespace Go.Proofs.YtmiicfdigkkbdaaDoor
open Go.RowKit

def EntF (k : FuncId) : Prop := ∀ (args : Array Value) (w : World), (callFunc k args).run Tryd.prog w = .ok (.enter k args) w
theorem ent_isKind : EntF 29 := fun _ _ => by kernel_rfl
theorem ent_isCon : EntF 38 := fun _ _ => by kernel_rfl
theorem bo_r {a b : Bool} {W w' : World} (h : b = a) (u : Up W w') : BoP b W (.returned (.bool a)) w' := ⟨by rw [h], u⟩
set_option maxHeartbeats 3200000 in
set_option maxRecDepth 100000 in
theorem pPlain {w : World} {Sq : Nat → Prop} {v : Value} {x : Nod} {k : Fr} (hin : InT w Sq v (x, k)) :
    Calls Tryd.prog 54 #[v] w (SbB (plnB x false) w) := by
  obtain ⟨q, p, A, c, rfl, hq1, c0, c1, c2, c3, c4, hc, hkid⟩ := hin.open
  obtain ⟨M, hM⟩ : ∃ M, x.m = M := ⟨_, rfl⟩
  obtain ⟨Z, hZ⟩ : ∃ M, x.n = M := ⟨_, rfl⟩
  obtain ⟨Y, hY⟩ : ∃ M, x.a = M := ⟨_, rfl⟩
  have HP : Hid (plnB x false = (M.toList.isEmpty && ((Z == 0) && (false || Y.toList.isEmpty)))) := Lib.hid (by rw [← hM, ← hZ, ← hY]; rfl)
  rw [HP.out]
  rw [hM] at c3
  rw [hZ] at c1
  rw [hY] at c2
  obtain ⟨b1, h1⟩ : ∃ b, M.toList.isEmpty = b := ⟨_, rfl⟩
  obtain ⟨b2, h2⟩ : ∃ b, (Z == 0) = b := ⟨_, rfl⟩
  obtain ⟨b3, h3⟩ : ∃ b, Y.toList.isEmpty = b := ⟨_, rfl⟩
  clear hin hkid HP hM hZ hY c0 c4 hc
  rw [h1, h2, h3]
  cases b1 <;> cases b2 <;> cases b3
  all_goals
    go_enter Tryd.func54, Tryd.ntmps54
    go_wp2_with fail
    go_ret
    exact ⟨rfl, rfl⟩
set_option maxHeartbeats 3200000 in
set_option maxRecDepth 100000 in
theorem pWhole : ∀ (n : Nat) (t : Tr), szT t ≤ n → n ≤ 1000000000 → ∀ (w : World) (Sq : Nat → Prop) (v : Value), InT w Sq v t → Calls Tryd.prog 53 #[v] w (SbB true w)
  | 0, t, h, _, _, _, _, _ => absurd h (by unfold szT; omega)
  | n + 1, (x, ks), hn, hbig, w, Sq, v, hin => by
    have ih := pWhole n
    obtain ⟨q, p, A, c, rfl, hq1, c0, c1, c2, c3, c4, hc, hkid⟩ := hin.open
    have hnil : ∀ W, (binOp .eql 25 (.pointer (some ⟨q, p, none⟩)) (.pointer none)).run Tryd.prog W = .ok (.bool false) W := fun W => ptr_nil2 W _
    have hsz : szT (x, ks) = 1 + ks.sz := rfl
    rw [hsz] at hn
    have hll := Fr.len_le ks
    obtain ⟨N, hN⟩ : ∃ N, ks.len = N := ⟨_, rfl⟩
    rw [hN] at c4 hll
    have hN1 : N ≤ 1000000000 := by omega
    have HK := Lib.hid hkid
    have HNN := Lib.hid hN
    have HSZ := Lib.hid (by omega : ks.sz ≤ n)
    have HIH := Lib.hid (fun t h => ih t h (by omega))
    clear hin hkid hc hN hsz hn ih
    go_enter Tryd.func53, Tryd.ntmps53
    go_wp2_with fail
    go_loopw [4, 12] (fun _ i wr => w = wr ∧ ∃ (k : Nat) (done rest : Fr), i = .int .i64 k ∧ k = done.len ∧ ks = done.app rest ∧ Kid w Sq A rest k) (fun _ i _ => N - (intOf i).toNat)
    case atStart => exact ⟨rfl, 0, .nil, ks, rfl, rfl, rfl, HK.out⟩
    case round =>
      obtain ⟨rfl, k, done, rest, rfl, hk, hks, hkid⟩ := hrel
      have hl : N = done.len + rest.len := by rw [← HNN.out, hks, Fr.len_app]
      have hs : ks.sz = done.sz + rest.sz := by rw [hks, Fr.sz_app]
      have hsz := HSZ.out
      have HKS := Lib.hid hks
      by_cases hlt : 0 < rest.len
      · obtain ⟨y, l, r, rfl⟩ := Fr.cut hlt
        obtain ⟨kb, ko, u, rfl, hkb, hcell, hu, hnext⟩ := hkid.next
        have hyl : szT (y, l) = 1 + l.sz := rfl
        have hsr : (Fr.cons y l r).sz = 1 + l.sz + r.sz := rfl
        have hlr : (Fr.cons y l r).len = r.len + 1 := rfl
        have cI := HIH.out (y, l) (by omega) w Sq u hu
        have HN := Lib.hid hnext
        have hkN : k < N := by omega
        have hkz : (k : Int) < (N : Int) := by omega
        have HK1 := Lib.hid hk
        clear hkid hnext hu hks hk hl hs hlr hsr hsz hyl
        go_wp2_with (go_at_call 53; refine cI.mono ?_; rintro e w' ⟨rfl, rfl⟩)
        go_roundw
        case rel => exact ⟨trivial, k + 1, done.app (.cons y l .nil), r, by go_num, by rw [Fr.len_app, HK1.out]; rfl, by rw [HKS.out, Fr.app_cons], HN.out⟩
        case measure => simp [intOf]; omega
      · have h0 : rest = .nil := by
          cases rest with
          | nil => rfl
          | cons y l r => exact absurd (Nat.succ_pos _) hlt
        subst h0
        have hl' : N = done.len := by simpa [Fr.len] using hl
        have hkz : ¬ (k : Int) < (N : Int) := by omega
        clear hkid hks hk hl hl' hs hsz
        go_wp2_with fail
        go_ret
        exact sbb rfl
/-! ### kids -/
def allB (B : Nat → Tr → Bool) : Nat → Fr → Bool
  | _, .nil => true
  | k, .cons x l r => B k (x, l) && allB B (k + 1) r
theorem allB_app (B : Nat → Tr → Bool) (a b : Fr) : ∀ k, allB B k (a.app b) = (allB B k a && allB B (k + a.len) b) := by
  induction a with
  | nil => intro k; show _ = (true && _); rw [Bool.true_and]; rfl
  | cons x l r _ ih =>
    intro k
    show (B k (x, l) && allB B (k + 1) (r.app b)) = ((B k (x, l) && allB B (k + 1) r) && allB B (k + (r.len + 1)) b)
    rw [ih, Bool.and_assoc, show k + 1 + r.len = k + (r.len + 1) by omega]
set_option maxHeartbeats 3200000 in
set_option maxRecDepth 100000 in
theorem pKids0 {w : World} {Sq : Nat → Prop} {v : Value} {x : Nod} {ks : Fr} (hin : InT w Sq v (x, ks)) (hz : ks.len ≤ 1000000000) :
    Calls Tryd.prog 55 #[v, .slice none 0 0] w (SbB (ks.len == 0) w) := by
  obtain ⟨q, p, A, c, rfl, hq1, c0, c1, c2, c3, c4, hc, hkid⟩ := hin.open
  obtain ⟨N, hN⟩ : ∃ N, ks.len = N := ⟨_, rfl⟩
  rw [hN] at c4 hz ⊢
  clear hin hkid hc c0 c1 c2 c3 hN
  by_cases h0 : N = 0
  · subst h0
    go_enter Tryd.func55, Tryd.ntmps55
    go_wp2_with fail
    go_loopw [5, 6, 17] (fun _ _ i wr => i = .int .i64 0 ∧ w = wr) (fun _ _ _ _ => 0)
    case atStart => exact ⟨rfl, rfl⟩
    case round =>
      obtain ⟨rfl, rfl⟩ := hrel
      go_wp2_with fail
      go_ret
      exact sbb rfl
  · have hz1 : ((N : Int) != 0) = true := by rw [bne_iff_ne]; omega
    have HR : Hid ((N == 0) = false) := Lib.hid (by rw [beq_eq_false_iff_ne]; exact h0)
    go_enter Tryd.func55, Tryd.ntmps55
    go_wp2_with fail
    go_ret
    exact sbb HR.out.symm
set_option maxHeartbeats 6400000 in
set_option maxRecDepth 100000 in
theorem pKids {w : World} {Sq : Nat → Prop} {v : Value} {x : Nod} {ks : Fr} (hS : Bel Sq w.heap.size) (hin : InT w Sq v (x, ks)) (hz : ks.len ≤ 1000000000) (gs : List FuncId) (hg : gs.length ≤ 10) (hg0 : 0 < gs.length) (hE : ∀ g ∈ gs, EntF g) (H : Nat) (hH : ∀ j g, gs[j]? = some g → w.cell? ⟨H, j, none⟩ = some (.func (.func g) #[] #[]))
    (B : Nat → Tr → Bool) (hC : ∀ (j : Nat) (g : FuncId) (t : Tr), gs[j]? = some g → ks.get j = some t → ∀ (W : World) (u : Value), Up w W → InT W Sq u t → Calls Tryd.prog g #[u] W (BoP (B j t) W)) :
    Calls Tryd.prog 55 #[v, .slice (some ⟨H, 0, none⟩) gs.length gs.length] w (BoP (ks.len == gs.length && allB B 0 ks) w) := by
  obtain ⟨q, p, A, c, rfl, hq1, c0, c1, c2, c3, c4, hc, hkid⟩ := hin.open
  obtain ⟨N, hN⟩ : ∃ N, ks.len = N := ⟨_, rfl⟩
  obtain ⟨M, hM⟩ : ∃ N, gs.length = N := ⟨_, rfl⟩
  have HM := Lib.hid hM
  have HN := Lib.hid hN
  rw [hN] at c4 hz ⊢
  rw [hM] at hg hg0 ⊢
  by_cases h0 : N = M
  · subst h0
    obtain ⟨R, hR⟩ : ∃ R, (N == N && allB B 0 ks) = R := ⟨_, rfl⟩
    have HR : Hid (R = allB B 0 ks) := Lib.hid (by rw [← hR, beq_self_eq_true, Bool.true_and])
    rw [hR]
    have HK := Lib.hid hkid
    have HBEL := Lib.hid hS
    have HE := Lib.hid hE
    have HH := Lib.hid hH
    have HC := Lib.hid hC
    have hqw := hS q hq1
    clear hin hkid hc c0 c1 c2 c3 hN hM hS hE hH hC hR
    go_enter Tryd.func55, Tryd.ntmps55
    go_wp2_with fail
    go_loopw [5, 6, 17] (fun _ _ i wr => Up w wr ∧ ∃ (k : Nat) (done rest : Fr), i = .int .i64 k ∧ k = done.len ∧ ks = done.app rest ∧ allB B 0 done = true ∧ Kid wr Sq A rest k) (fun _ _ i _ => N - (intOf i).toNat)
    case atStart => exact ⟨Up.refl _, 0, .nil, ks, rfl, rfl, rfl, rfl, HK.out⟩
    case round =>
      obtain ⟨hu, k, done, rest, rfl, hk, hks, hall, hkid⟩ := hrel
      have hl : N = done.len + rest.len := by rw [← HN.out, hks, Fr.len_app]
      have HKS := Lib.hid hks
      have HALL := Lib.hid hall
      have HU := Lib.hid hu
      have c4r := hu.cell c4
      by_cases hlt : 0 < rest.len
      · obtain ⟨y, l, r, rfl⟩ := Fr.cut hlt
        obtain ⟨kb, ko, u, rfl, hkb, hcell, hut, hnext⟩ := hkid.next
        have hlr : (Fr.cons y l r).len = r.len + 1 := rfl
        have hkN : k < N := by omega
        have hkz : (k : Int) < (N : Int) := by omega
        obtain ⟨g, hgk⟩ : ∃ g, gs[k]? = some g := ⟨_, List.getElem?_eq_getElem (by rw [HM.out]; exact hkN)⟩
        have hget : ks.get k = some (y, l) := by rw [hks, hk, Fr.get_app]; rfl
        have hHg := hu.cell (HH.out k g hgk)
        have cI := HC.out k g (y, l) hgk hget wr u hu hut
        have HEg := Lib.hid (HE.out g (List.mem_of_getElem? hgk))
        have HN1 := Lib.hid hnext
        have HK1 := Lib.hid hk
        obtain ⟨b, hb⟩ : ∃ b, B k (y, l) = b := ⟨_, rfl⟩
        rw [hb] at cI
        have HB := Lib.hid hb
        clear hkid hnext hut hks hk hl hlr hall hu hgk hget hb
        cases b with
        | false =>
          have HX : Hid (R = false) := Lib.hid (by rw [HR.out, HKS.out, allB_app, HALL.out]; show (true && (B (0 + done.len) (y, l) && _)) = false; rw [Nat.zero_add, ← HK1.out, HB.out]; rfl)
          go_wp2_with fail
          rw [HEg.out, Oper.upon_enter]
          refine cI.mono ?_
          rintro e w2 ⟨rfl, u2⟩
          go_wp2_with fail
          go_ret
          exact bo_r HX.out (HU.out.trans u2)
        | true =>
          have HX : Hid (allB B 0 (done.app (.cons y l .nil)) = true) := Lib.hid (by rw [allB_app, HALL.out]; show (true && (B (0 + done.len) (y, l) && true)) = true; rw [Nat.zero_add, ← HK1.out, HB.out]; rfl)
          go_wp2_with fail
          rw [HEg.out, Oper.upon_enter]
          refine cI.mono ?_
          rintro e w2 ⟨rfl, u2⟩
          have U2 := Lib.hid u2
          clear u2 cI
          go_wp2_with fail
          go_roundw
          case rel => exact ⟨HU.out.trans U2.out, k + 1, done.app (.cons y l .nil), r, by go_num, by rw [Fr.len_app, HK1.out]; rfl, by rw [HKS.out, Fr.app_cons], HX.out, HN1.out.keep (fun _ h => h) fun b hb => U2.out.block b (Nat.lt_of_lt_of_le (HBEL.out b hb) HU.out.size)⟩
          case measure => simp [intOf]; omega
      · have h0 : rest = .nil := by
          cases rest with
          | nil => rfl
          | cons y l r => exact absurd (Nat.succ_pos _) hlt
        subst h0
        have hl' : N = done.len := by simpa [Fr.len] using hl
        have hkz : ¬ (k : Int) < (N : Int) := by omega
        have HX : Hid (R = true) := Lib.hid (by rw [HR.out, HKS.out, allB_app, HALL.out]; rfl)
        clear hkid hks hk hl hl' hall hu
        go_wp2_with fail
        go_ret
        exact bo_r HX.out HU.out
  · have hz1 : ((N : Int) != (M : Int)) = true := by rw [bne_iff_ne]; omega
    have HR : Hid ((N == M) = false) := Lib.hid (by rw [beq_eq_false_iff_ne]; exact h0)
    rw [HR.out, Bool.false_and]
    clear hin hkid hc c0 c1 c2 c3 hN hM hS hE hH hC
    go_enter Tryd.func55, Tryd.ntmps55
    go_wp2_with fail
    go_ret
    exact bo_r rfl (Up.refl _)
theorem allB_kd (f : Fr) : ∀ k, allB (fun _ t => kdT t) k f = kdF f := by
  induction f with
  | nil => intro k; rfl
  | cons x l r _ ih => intro k; rw [kdF_cons, ← ih (k + 1)]; rfl
def KdAt (n : Nat) : Prop := ∀ (t : Tr), szT t ≤ n → ∀ (w : World) (Sq : Nat → Prop) (v : Value), Bel Sq w.heap.size → InT w Sq v t → Calls Tryd.prog 29 #[v] w (BoP (kdT t) w)
theorem Fr.get_le {f : Fr} {j : Nat} {t : Tr} (h : f.get j = some t) : szT t ≤ f.sz := by
  induction f generalizing j with
  | nil => cases h
  | cons x k r _ ih =>
    cases j with
    | zero => injection h with h; rw [← h]; unfold szT; simp only [Fr.sz]; omega
    | succ j => have := ih (j := j) h; simp only [Fr.sz]; omega
theorem cells_two {w : World} {a b : Value} {e : TypeId} {w' : World} (u : Up (w.alloc (.cells #[a, b] e)) w') : w'.cell? ⟨w.heap.size, 0, none⟩ = some a ∧ w'.cell? ⟨w.heap.size, 1, none⟩ = some b :=
  ⟨u.cell (cell_of_row _ w.heap.size 0 _ _ _ (heap_alloc_new w _)), u.cell (cell_of_row _ w.heap.size 1 _ _ _ (heap_alloc_new w _))⟩
theorem pKids2 {w : World} {Sq : Nat → Prop} {v : Value} {x : Nod} {ks : Fr} (hS : Bel Sq w.heap.size) (hin : InT w Sq v (x, ks)) (hz : ks.len ≤ 1000000000) (g0 g1 : FuncId) (E0 : EntF g0) (E1 : EntF g1) (B0 B1 : Tr → Bool)
    (C0 : ∀ (t : Tr), ks.get 0 = some t → ∀ (W : World) (u : Value), Up w W → InT W Sq u t → Calls Tryd.prog g0 #[u] W (BoP (B0 t) W)) (C1 : ∀ (t : Tr), ks.get 1 = some t → ∀ (W : World) (u : Value), Up w W → InT W Sq u t → Calls Tryd.prog g1 #[u] W (BoP (B1 t) W)) :
    Calls Tryd.prog 55 #[v, .slice (some ⟨w.heap.size, 0, none⟩) 2 2] (w.alloc (.cells #[.func (.func g0) #[] #[], .func (.func g1) #[] #[]] 90)) (BoP (ks.len == 2 && allB (fun j t => if j = 0 then B0 t else B1 t) 0 ks) w) := by
  have u0 : Up w (w.alloc (.cells #[.func (.func g0) #[] #[], .func (.func g1) #[] #[]] 90)) := (Up.refl w).alloc _
  obtain ⟨d1, d2⟩ := cells_two (Up.refl (w.alloc (.cells #[.func (.func g0) #[] #[], .func (.func g1) #[] #[]] 90)))
  refine (pKids (Sq := Sq) (fun q h => Nat.lt_of_lt_of_le (hS q h) u0.size) (hin.keep (fun _ h => h) fun b hb => u0.block b (hS b hb)) hz [g0, g1] (by show 2 ≤ 10; omega) (by show 0 < 2; omega) (by intro g hg; simp at hg; rcases hg with rfl | rfl; exact E0; exact E1) w.heap.size ?_ (fun j t => if j = 0 then B0 t else B1 t) ?_).mono fun e w' ⟨h1, h2⟩ => ⟨h1, u0.trans h2⟩
  · intro j g hg
    match j, hg with
    | 0, hg => injection hg with hg; subst hg; exact d1
    | 1, hg => injection hg with hg; subst hg; exact d2
  · intro j g t hg ht W u hu hin
    match j, hg with
    | 0, hg => injection hg with hg; subst hg; exact C0 t ht W u (u0.trans hu) hin
    | 1, hg => injection hg with hg; subst hg; exact C1 t ht W u (u0.trans hu) hin
set_option maxHeartbeats 6400000 in
set_option maxRecDepth 100000 in
theorem pKd : ∀ (n : Nat), n ≤ 1000000000 → KdAt n
  | 0, _ => fun t h => absurd h (by unfold szT; omega)
  | n + 1, hbig => by
    have ih := pKd n (by omega)
    rintro ⟨x, ks⟩ hn w Sq v hS hin
    have hsz : szT (x, ks) = 1 + ks.sz := rfl
    have hll := Fr.len_le ks
    have cP := pPlain hin
    have cK0 := pKids0 hin (by omega)
    have cK := pKids2 hS hin (by omega) 29 29 ent_isKind ent_isKind kdT kdT (fun t ht W u hu h => ih t (by have := Fr.get_le ht; omega) W Sq u (fun q hq => Nat.lt_of_lt_of_le (hS q hq) hu.size) h) (fun t ht W u hu h => ih t (by have := Fr.get_le ht; omega) W Sq u (fun q hq => Nat.lt_of_lt_of_le (hS q hq) hu.size) h)
    rw [show (fun (j : Nat) t => if j = 0 then kdT t else kdT t) = fun _ t => kdT t from funext fun j => funext fun t => by split <;> rfl, allB_kd] at cK
    obtain ⟨q, p, A, c, rfl, hq1, c0, c1, c2, c3, c4, hc, hkid⟩ := hin.open
    obtain ⟨R, hR⟩ : ∃ R, kdT (x, ks) = R := ⟨_, rfl⟩
    have hV : R = (plnB x false && (if x.k = 100 then ks.len == 0 else x.k == 101 && (ks.len == 2 && kdF ks))) := hR.symm
    obtain ⟨K, hK⟩ : ∃ K, x.k = K := ⟨_, rfl⟩
    obtain ⟨b, hb⟩ : ∃ b, plnB x false = b := ⟨_, rfl⟩
    obtain ⟨b0, hb0⟩ : ∃ b, (ks.len == 0) = b := ⟨_, rfl⟩
    obtain ⟨b2, hb2⟩ : ∃ b, (ks.len == 2 && kdF ks) = b := ⟨_, rfl⟩
    rw [hK] at c0 hV
    rw [hb] at cP hV
    rw [hb0] at cK0 hV
    rw [hb2] at cK hV
    rw [hR]
    clear hR hb hb0 hb2 hK c1 c2 c3 c4 hc hkid hin hS ih hsz hll hn
    by_cases h0 : K = 100
    · subst h0
      rw [if_pos rfl] at hV
      have HV := Lib.hid hV
      clear hV cK
      cases b
      all_goals
        go_enter Tryd.func29, Tryd.ntmps29
        go_wp2_with fail
        refine cP.mono ?_
        rintro e w' ⟨rfl, rfl⟩
        go_wp2_with fail
        first
          | (go_ret; exact bo_r HV.out (Up.refl _))
          | (refine cK0.mono ?_
             rintro e w' ⟨rfl, rfl⟩
             go_wp2_with fail
             go_ret
             exact bo_r HV.out (Up.refl _))
    · rw [if_neg h0] at hV
      by_cases h1 : K = 101
      · subst h1
        rw [beq_self_eq_true, Bool.true_and] at hV
        have HV := Lib.hid hV
        clear hV cK0 h0
        cases b
        all_goals
          go_enter Tryd.func29, Tryd.ntmps29
          go_wp2_with fail
          refine cP.mono ?_
          rintro e w' ⟨rfl, rfl⟩
          go_wp2_with fail
          first
            | (go_ret; exact bo_r HV.out (Up.refl _))
            | (refine cK.mono ?_
               rintro e w' ⟨rfl, u'⟩
               go_wp2_with fail
               go_ret
               exact bo_r HV.out u')
      · have HV : Hid (R = false) := Lib.hid (by rw [hV, beq_eq_false_iff_ne.2 h1, Bool.false_and, Bool.and_false])
        clear hV cK0 cK
        go_enter Tryd.func29, Tryd.ntmps29
        go_wp2_with fail
        go_ret
        exact bo_r HV.out (Up.refl _)
end Go.Proofs.YtmiicfdigkkbdaaDoor
namespace Go.Proofs.YtmiicfdigkkbdaaDoor
open Go.RowKit

set_option maxHeartbeats 3200000 in
set_option maxRecDepth 100000 in
theorem pLabel (s : ByteArray) (w : World) : Calls Tryd.prog 88 #[.string s] w (SbB (labB s) w) := by
  have HB : Hid (labB s = (decide (1 ≤ s.size) && decide (s.size ≤ 160))) := Lib.hid rfl
  by_cases h1 : (0 : Int) < (s.size : Int)
  · by_cases h2 : (s.size : Int) ≤ 160
    · have HX : Hid (labB s = true) := Lib.hid (by rw [HB.out, decide_eq_true (by omega), decide_eq_true (by omega)]; rfl)
      rw [HX.out]
      go_enter Tryd.func88, Tryd.ntmps88
      go_wp2_with fail
      go_ret
      exact sbb rfl
    · have HX : Hid (labB s = false) := Lib.hid (by rw [HB.out, decide_eq_false (by omega : ¬ s.size ≤ 160), Bool.and_false])
      rw [HX.out]
      go_enter Tryd.func88, Tryd.ntmps88
      go_wp2_with fail
      go_ret
      exact sbb rfl
  · have HX : Hid (labB s = false) := Lib.hid (by rw [HB.out, decide_eq_false (by omega : ¬ 1 ≤ s.size), Bool.false_and])
    rw [HX.out]
    go_enter Tryd.func88, Tryd.ntmps88
    go_wp2_with fail
    go_ret
    exact sbb rfl
def CnAt (n : Nat) : Prop := ∀ (t : Tr), szT t ≤ n → ∀ (w : World) (Sq : Nat → Prop) (v : Value), Bel Sq w.heap.size → InT w Sq v t → Calls Tryd.prog 38 #[v] w (BoP (coT t) w)
theorem cells_one {w : World} {a : Value} {e : TypeId} {w' : World} (u : Up (w.alloc (.cells #[a] e)) w') : w'.cell? ⟨w.heap.size, 0, none⟩ = some a :=
  u.cell (cell_of_row _ w.heap.size 0 _ _ _ (heap_alloc_new w _))
theorem pKids1 {n : Nat} (hco : CnAt n) {w W : World} {Sq : Nat → Prop} {v : Value} {x : Nod} {ks : Fr} (hu : Up W w) (hS : Bel Sq w.heap.size) (hin : InT w Sq v (x, ks)) (hz : ks.sz ≤ n) (hz1 : n ≤ 1000000000) :
    Calls Tryd.prog 55 #[v, .slice (some ⟨w.heap.size, 0, none⟩) 1 1] (w.alloc (.cells #[.func (.func 38) #[] #[]] 90)) (BoP (ks.len == 1 && coF 0 ks) W) := by
  have u0 : Up w (w.alloc (.cells #[.func (.func 38) #[] #[]] 90)) := (Up.refl w).alloc _
  have d1 := cells_one (Up.refl (w.alloc (.cells #[.func (.func 38) #[] #[]] 90)))
  have hll := Fr.len_le ks
  have e : (ks.len == 1 && coF 0 ks) = (ks.len == 1 && allB (fun _ t => coT t) 0 ks) := by
    cases h : (ks.len == 1) with
    | false => rfl
    | true =>
      obtain ⟨y, l, rfl⟩ := Fr.one (beq_iff_eq.1 h)
      rfl
  rw [e]
  refine (pKids (Sq := Sq) (fun q h => Nat.lt_of_lt_of_le (hS q h) u0.size) (hin.keep (fun _ h => h) fun b hb => u0.block b (hS b hb)) (by omega) [38] (by show 1 ≤ 10; omega) (by show 0 < 1; omega) (by intro g hg; simp at hg; subst hg; exact ent_isCon) w.heap.size ?_ (fun _ t => coT t) ?_).mono fun e w' ⟨h1, h2⟩ => ⟨h1, hu.trans (u0.trans h2)⟩
  · intro j g hg
    match j, hg with
    | 0, hg => injection hg with hg; subst hg; exact d1
  · intro j g t hg ht W' u hu' hin'
    match j, hg with
    | 0, hg =>
      injection hg with hg
      subst hg
      exact hco t (by have := Fr.get_le ht; omega) W' Sq u (fun q h => Nat.lt_of_lt_of_le (hS q h) (Nat.le_trans u0.size hu'.size)) hin'
theorem emq_beq (s : ByteArray) : emq s = s.toList.isEmpty := rfl
set_option maxHeartbeats 12800000 in
set_option maxRecDepth 100000 in
theorem pParts1 {n : Nat} (hco : CnAt n) (hbig : n ≤ 1000000000) (m : Nat) {w : World} {Sq : Nat → Prop} {v : Value} {x : Nod} {ks : Fr} (hS : Bel Sq w.heap.size) (hin : InT w Sq v (x, ks)) (hz : ks.sz ≤ n) (Bk : Nat) (hB : w.cell? ⟨Bk, 0, none⟩ = some (.int .i64 (fdK m))) :
    Calls Tryd.prog 87 #[v, .pointer (some ⟨Bk, 0, none⟩)] w (BoP (!fdT m (x, ks)) w) := by
  have HKI := Lib.hid (fun W (u : Up w W) => pKids1 hco u (fun q h => Nat.lt_of_lt_of_le (hS q h) u.size) (hin.keep (fun _ h => h) fun b hb => u.block b (hS b hb)) hz hbig)
  have cL := fun W => pLabel x.a W
  obtain ⟨q, p, A, c, rfl, hq1, c0, c1, c2, c3, c4, hc, hkid⟩ := hin.open
  obtain ⟨R, hR⟩ : ∃ R, (!fdT m (x, ks)) = R := ⟨_, rfl⟩
  have hV : R = !(x.k == fdK m && ((emq x.m && (x.n == 0 && true)) && (labB x.a && (ks.len == 1 && coF 0 ks)))) := hR.symm
  obtain ⟨kd, hkd⟩ : ∃ R, fdK m = R := ⟨_, rfl⟩
  obtain ⟨K, hK⟩ : ∃ K, x.k = K := ⟨_, rfl⟩
  obtain ⟨Z, hZ⟩ : ∃ K, x.n = K := ⟨_, rfl⟩
  obtain ⟨M, hM⟩ : ∃ K, x.m = K := ⟨_, rfl⟩
  obtain ⟨Y, hY⟩ : ∃ K, x.a = K := ⟨_, rfl⟩
  rw [hkd] at hB hV
  rw [hK] at c0 hV
  rw [hZ] at c1 hV
  rw [hM, emq_beq] at hV
  rw [hM] at c3
  rw [hY] at c2 cL hV
  obtain ⟨b4, hb4⟩ : ∃ b, labB Y = b := ⟨_, rfl⟩
  obtain ⟨b5, hb5⟩ : ∃ b, (ks.len == 1 && coF 0 ks) = b := ⟨_, rfl⟩
  rw [hb4] at cL hV
  rw [hb5] at HKI hV
  obtain ⟨b1, h1⟩ : ∃ b, (K == kd) = b := ⟨_, rfl⟩
  obtain ⟨b2, h2⟩ : ∃ b, (Z == 0) = b := ⟨_, rfl⟩
  obtain ⟨b3, h3⟩ : ∃ b, M.toList.isEmpty = b := ⟨_, rfl⟩
  have h1' : (K != kd) = !b1 := by rw [← h1]; rfl
  have h2' : (Z != 0) = !b2 := by rw [← h2]; rfl
  rw [h1, h2, h3] at hV
  rw [hR]
  clear hR hkd hK hZ hM hY hb4 hb5 c4 hc hkid hS hin h1 h2
  have CL := Lib.hid cL
  clear cL
  have HV := Lib.hid hV
  clear hV
  have hl1 : Hid (∀ w', Up w w' → w'.cell? ⟨q, p, none⟩ = some (.int .i64 K) ∧ w'.cell? ⟨q, p + 1, none⟩ = some (.int .i64 Z) ∧ w'.cell? ⟨q, p + 2, none⟩ = some (.string Y) ∧ w'.cell? ⟨q, p + 3, none⟩ = some (.string M) ∧ w'.cell? ⟨Bk, 0, none⟩ = some (.int .i64 kd)) := Lib.hid fun w' u => ⟨u.cell c0, u.cell c1, u.cell c2, u.cell c3, u.cell hB⟩
  cases b1 with
  | false =>
    have HX : Hid (R = true) := Lib.hid (by rw [HV.out]; simp)
    clear HKI CL
    go_enter Tryd.func87, Tryd.ntmps87
    go_wp2_with fail
    go_big_quiet (fail)
    go_wp2_with fail
    go_ret
    exact bo_r HX.out ((Up.refl _).drewN _)
  | true =>
    cases b2 with
    | false =>
      have HX : Hid (R = true) := Lib.hid (by rw [HV.out]; simp)
      clear HKI CL
      go_enter Tryd.func87, Tryd.ntmps87
      go_wp2_with fail
      go_big_quiet (fail)
      go_wp2_with fail
      go_ret
      exact bo_r HX.out ((Up.refl _).drewN _)
    | true =>
      cases b3 with
      | false =>
        have HX : Hid (R = true) := Lib.hid (by rw [HV.out]; simp)
        clear HKI CL
        go_enter Tryd.func87, Tryd.ntmps87
        go_wp2_with fail
        go_big_quiet (fail)
        go_wp2_with fail
        go_ret
        exact bo_r HX.out ((Up.refl _).drewN _)
      | true =>
        cases b4 with
        | false =>
          have HX : Hid (R = true) := Lib.hid (by rw [HV.out]; simp)
          clear HKI
          go_enter Tryd.func87, Tryd.ntmps87
          go_wp2_with fail
          go_big_quiet (first | (go_at_call 88; refine Calls.quiet_of_same (CL.out _)))
          go_wp2_with fail
          go_ret
          exact bo_r HX.out ((Up.refl _).drewN _)
        | true =>
          have HX : Hid (R = !b5) := Lib.hid (by rw [HV.out]; simp)
          go_enter Tryd.func87, Tryd.ntmps87
          go_wp2_with fail
          go_region_held3 (fun w' => w'.cell? ⟨q, p, none⟩ = some (.int .i64 K) ∧ w'.cell? ⟨q, p + 1, none⟩ = some (.int .i64 Z) ∧ w'.cell? ⟨q, p + 2, none⟩ = some (.string Y) ∧ w'.cell? ⟨q, p + 3, none⟩ = some (.string M) ∧ w'.cell? ⟨Bk, 0, none⟩ = some (.int .i64 kd)) (first | go_keep | exact hl1.out _ (by first | exact Up.refl _ | exact (Up.refl _).drew)) (first
            | (go_at_call 88; refine (CL.out _).mono ?_; rintro e w' ⟨rfl, rfl⟩)
            | (go_at_call 55; refine Calls.mono (HKI.out w.drew (Up.refl _).drew) ?_; rintro e w2 ⟨rfl, u2⟩; have hk2 := hl1.out w2 u2))
          all_goals
            go_wp2_with fail
            go_ret
            exact bo_r HX.out u2
end Go.Proofs.YtmiicfdigkkbdaaDoor
