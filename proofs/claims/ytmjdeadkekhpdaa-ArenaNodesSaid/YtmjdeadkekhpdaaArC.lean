/-
  The program's Clone over nodes, twin, Copy: what they tell.
-/
import Derived.Test.YtmjdeadkekhpdaaArM
import Derived.Test.YtmjdeadkekhpdaaRtD
import Derived.Laws.OwnMore
import Derived.Deep.Onto
import Derived.Deep.RegionHeld3
namespace Go.Proofs.Ytmjdeadkekhpdaa
open Go.RowKit

theorem own_made {B : Nat} {w : World} (h : B ≤ w.heap.size) (e : TypeId) : (w.alloc (.cells #[] e)).ownsRow B e 1 (.slice (some ⟨w.heap.size, 0, none⟩) 0 0) 0 [] :=
  ⟨rfl, .inr ⟨w.heap.size, 0, #[], rfl, h, heap_alloc_new w _, Nat.le_refl _, Nat.zero_le _, rfl, rfl⟩⟩
theorem addAt (b o j : Nat) : (⟨b, o, none⟩ : Addr).add j = ⟨b, o + j, none⟩ := by unfold Addr.add; split <;> simp_all
/-- A slice of nodes that the call has made: these values. -/
def ClPost (n : Nat) (vs : List Value) (w : World) (e : Ending) (w' : World) : Prop := ∃ v, e = .returned v ∧ (∃ B, w.heap.size ≤ B ∧ w'.ownsRow B 26 1 v n vs) ∧ Below w.heap.size w w'
theorem sl_nil (w : World) (a : Addr) (n c : Nat) : (binOp .eql 42 (.slice (some a) n c) (.slice none 0 0)).run Try.prog w = .ok (.bool false) w := by
  have h : ∀ d : Nat, (Op.equalIn (d + 1) 42 (.slice (some a) n c) (.slice none 0 0)).run Try.prog w = .ok false w := fun d => by simp [Op.equalIn, run_underlying Try.underlying42]
  simp only [binOp]
  simp [Op.equal, Op.maxDepth, h 9999]
theorem sl_none (w : World) (n c : Nat) : (binOp .eql 42 (.slice none n c) (.slice none 0 0)).run Try.prog w = .ok (.bool true) w := by
  have h : ∀ d : Nat, (Op.equalIn (d + 1) 42 (.slice none n c) (.slice none 0 0)).run Try.prog w = .ok true w := fun d => by simp [Op.equalIn, run_underlying Try.underlying42]
  simp only [binOp]
  simp [Op.equal, Op.maxDepth, h 9999]
set_option maxHeartbeats 1600000 in
set_option maxRecDepth 100000 in
theorem clone_any (A : Option Addr) (n c : Nat) (vs : List Value) (w : World) (hvs : vs.length = n) (hn : n ≤ 1000000) (hA : 0 < n → ∃ b o, A = some ⟨b, o, none⟩ ∧ b < w.heap.size ∧ ∀ (j : Nat) u, vs[j]? = some u → w.cell? ⟨b, o + j, none⟩ = some u) (h1 : ∀ u ∈ vs, u.oneCell' = true) :
    Calls Try.prog 40 #[.slice A n c] w (ClPost n vs w) := by
  cases A with
  | none =>
    have h0 : n = 0 := by
      rcases Nat.eq_zero_or_pos n with h | h
      · exact h
      · obtain ⟨b, o, e, _⟩ := hA h
        cases e
    have hv0 : vs = [] := List.length_eq_zero_iff.1 (by rw [hvs]; exact h0)
    subst hv0
    have heq := sl_none w n c
    have H0 := Lib.hid h0
    clear hA h1 hvs hn h0
    go_enter Try.func40, Try.ntmps40
    go_wp2_with fail
    go_ret
    exact ⟨_, rfl, ⟨w.heap.size, Nat.le_refl _, by rw [H0.out]; exact World.ownsRow_nil _ _ _ _⟩, Below.refl _ _⟩
  | some a =>
    have heq := sl_nil w a n c
    have hcells : ∀ (j : Nat) u, vs[j]? = some u → (w.alloc (.cells #[] 26)).cell? (a.add j) = some u := by
      intro j u hu
      obtain ⟨b, o, e, hb, hc⟩ := hA (by have := (List.getElem?_eq_some_iff.1 hu).1; omega)
      injection e with e
      subst e
      rw [addAt]
      exact (((Below.refl w.heap.size w).alloc (Nat.le_refl _) _).cell hb).trans (hc j u hu)
    have HV := Lib.hid hvs
    have HC := Lib.hid hcells
    have H1 := Lib.hid h1
    have HM := Lib.hid (own_made (w := w) (Nat.le_refl _) 26)
    obtain ⟨i0, hi, hz0, hz1, hz2⟩ := info_parts infoPtr
    clear hA h1 hvs hcells
    go_enter Try.func40, Try.ntmps40
    go_wp2_with (at_builtin; (refine wpList_append_own_at _ rfl _ _ 42 rfl w.heap.size 26 i0 (.pointer none) 1 8 Try.underlying42 hi hz0 hz1 hz2 rfl (by decide) (.slice (some ⟨w.heap.size, 0, none⟩) 0 0) 0 [] rfl HM.out a n c vs rfl (by rw [HV.out, Nat.mul_one]) HC.out H1.out (by unfold maxLen; omega) (by omega) (by simp) ?_); intro v4 w4 hown4 hgrow4 _ _)
    go_ret
    have hb := ((Below.refl w.heap.size w).alloc (Nat.le_refl _) (.cells #[] 26)).grown hgrow4 (by simp) (fun k hk => by simp [Value.ownBlock] at hk; omega)
    exact ⟨_, rfl, ⟨w.heap.size, Nat.le_refl _, by simpa using hown4⟩, hb⟩

/-! ### twin -/
theorem ptr_nil2 (w : World) (a : Addr) : (binOp .eql 26 (.pointer (some a)) (.pointer none)).run Try.prog w = .ok (.bool false) w := by
  have h : ∀ d : Nat, (Op.equalIn (d + 1) 26 (.pointer (some a)) (.pointer none)).run Try.prog w = .ok false w := fun d => by simp [Op.equalIn, run_underlying Try.underlying26]
  simp only [binOp]
  simp [Op.equal, Op.maxDepth, h 9999]
/-- The values of a row of pointers. -/
theorem InF.vals {w : World} {S : Nat → Prop} : ∀ {f : Fr} {b o : Nat}, InF w S f b o → ∃ us, PtF w S us f ∧ ∀ (j : Nat) u, us[j]? = some u → w.cell? ⟨b, o + j, none⟩ = some u
  | .nil, b, o, _ => ⟨[], trivial, fun j u h => by simp at h⟩
  | .cons x k r, b, o, ⟨⟨v, hv, hn⟩, hr⟩ => by
    obtain ⟨us, h1, h2⟩ := InF.vals (f := r) hr
    refine ⟨v :: us, ⟨hn, h1⟩, fun j u hu => ?_⟩
    cases j with
    | zero => simp at hu; subst hu; exact hv
    | succ j =>
      have := h2 j u (by simpa using hu)
      rw [show o + (j + 1) = o + 1 + j by omega]
      exact this
theorem Kid.vals {w : World} {S : Nat → Prop} {A : Option Addr} {f : Fr} (h : Kid w S A f 0) (hS : Bel S w.heap.size) : ∃ us, PtF w S us f ∧ (0 < f.len → ∃ b o, A = some ⟨b, o, none⟩ ∧ b < w.heap.size ∧ ∀ (j : Nat) u, us[j]? = some u → w.cell? ⟨b, o + j, none⟩ = some u) := by
  rcases Nat.eq_zero_or_pos f.len with h0 | h0
  · have : f = .nil := by
      cases f with
      | nil => rfl
      | cons x k r => simp [Fr.len] at h0
    subst this
    exact ⟨[], trivial, fun h => by omega⟩
  · obtain ⟨kb, ko, hA, h1, h2⟩ := h h0
    obtain ⟨us, h3, h4⟩ := InF.vals h2
    exact ⟨us, h3, fun _ => ⟨kb, ko, hA, hS _ h1, h4⟩⟩
theorem PtF.snocL {w : World} {S : Nat → Prop} {ps : List Value} {done : Fr} {v : Value} {x : Nod} {l : Fr} (h : PtF w S ps done) (hv : InT w S v (x, l)) : PtF w S (ps ++ [v]) (done.app (.cons x l .nil)) := PtF.snoc (t := (x, l)) hv h
theorem setKid {ps rs : List Value} {u v : Value} (j : Nat) (h : ps.length = j) : (ps ++ u :: rs).set j v = (ps ++ [v]) ++ rs := by
  subst h
  simp
theorem own_slice {w : World} {base : Nat} {e : TypeId} {v : Value} {n : Nat} {xs : List Value} (h : w.ownsRow base e 1 v n xs) : ∃ A c, v = .slice A n c := by
  rcases h.2 with ⟨h1, h2⟩ | ⟨g, cap, cur, h1, _⟩
  · exact ⟨none, 0, by rw [h1, h2]⟩
  · exact ⟨_, _, h1⟩
def TwinAt (n : Nat) : Prop := ∀ (t : Tr), szT t ≤ n → ∀ (w : World) (Sq : Nat → Prop) (v : Value), Bel Sq w.heap.size → InT w Sq v t → Calls Try.prog 39 #[v] w (WiPost t No w)
set_option maxHeartbeats 3200000 in
set_option maxRecDepth 100000 in
theorem twin_all : ∀ n, n ≤ 65536 → TwinAt n
  | 0, _ => fun t h => absurd h (by unfold szT; omega)
  | n + 1, hbig => by
    have ih := twin_all n (by omega)
    rintro ⟨x, ks⟩ hn w Sq v hS hin
    obtain ⟨q, p, A, c, rfl, hq1, c0, c1, c2, c3, c4, hc, hkid⟩ := hin.open
    obtain ⟨us, hus, hA⟩ := hkid.vals hS
    have hnil := ptr_nil2 w ⟨q, p, none⟩
    have hqw := hS q hq1
    have hsz : szT (x, ks) = 1 + ks.sz := rfl
    have hll := Fr.len_le ks
    obtain ⟨N, hN⟩ : ∃ N, ks.len = N := ⟨_, rfl⟩
    have hul : us.length = N := by rw [hus.len, hN]
    rw [hN] at c4 hll hA
    have hN1 : N ≤ 1000000 := by omega
    obtain ⟨H, hH⟩ : ∃ H, w.heap.size = H := ⟨_, rfl⟩
    have HIH := Lib.hid ih
    have HB := Lib.hid hS
    have HUS := Lib.hid hus
    have HA := Lib.hid hA
    have HUL := Lib.hid hul
    have HNN := Lib.hid hN
    have HSZ := Lib.hid hsz
    have HN0 := Lib.hid hn
    have HH := Lib.hid hH
    clear ih hS hin hkid hus hA hul hN hsz hn hc hH
    go_enter Try.func39, Try.ntmps39
    go_wp2_with fail
    obtain ⟨W1, hW1⟩ : ∃ W1, W1 = w.alloc (.cells #[.int .i64 x.k, .int .i64 x.n, .string x.a, .string x.m, .slice A N c] 44) := ⟨_, rfl⟩
    have hb1 : Below H w W1 := by rw [hW1]; exact (Below.refl H w).alloc (by rw [HH.out]; exact Nat.le_refl _) _
    have hs1 : W1.heap.size = H + 1 := by rw [hW1]; simp; exact HH.out
    have hn1 : Nb W1 H x (.slice A N c) := by rw [hW1, ← HH.out]; exact heap_alloc_new w _
    rw [← hW1, HH.out]
    have cC := clone_any A N c us W1 HUL.out hN1 (fun h0 => by
      obtain ⟨b, o, e, hb, hcl⟩ := HA.out h0
      rw [HH.out] at hb
      exact ⟨b, o, e, by omega, fun j u hu => (hb1.cell (p := ⟨b, o + j, none⟩) hb).trans (hcl j u hu)⟩) HUS.out.one
    have HB1 := Lib.hid hb1
    have HS1 := Lib.hid hs1
    have HNB1 := Lib.hid hn1
    clear hW1 hb1 hs1 hn1 hnil c0 c1 c2 c3 c4 HA
    refine cC.mono ?_
    rintro e w1 ⟨vk, rfl, ⟨B, hB, hown⟩, hb⟩
    rw [HS1.out] at hB
    have hown : w1.ownsRow (H + 1) 26 1 vk N us := hown.mono hB
    have hnb1 : Nb w1 H x (.slice A N c) := heap_below HNB1.out hb
    have cn := hnb1.cell.1
    have cf := hnb1.cell.2
    obtain ⟨A2, c2, rfl⟩ := own_slice hown
    have hHw : H < w1.heap.size := heap_lt hnb1
    have hbel1 : Below H w w1 := HB1.out.trans (hb.mono (by rw [HS1.out]; omega))
    have hlt := hown.lt
    have HOWN := Lib.hid hown
    have HNBW := Lib.hid hnb1
    have HBEL := Lib.hid hbel1
    have HLT := Lib.hid hlt
    clear cC hB hown hnb1 hb hbel1 hlt HNB1 HB1 HS1
    go_wp2_with fail
    have hini : (w1.setCell ⟨H, 4, none⟩ (.slice A2 N c2)).ownsRow (H + 1) 26 1 (.slice A2 N c2) N us := own_setCell HOWN.out _ _ (fun g hg => by have := (HLT.out g hg).1; simp only; omega)
    have HINI := Lib.hid hini
    have HVL : Hid (∀ g, (Value.slice A2 N c2).ownBlock = some g → H + 1 ≤ g) := Lib.hid fun g hg => (HLT.out g hg).1
    clear hini
    go_loopw [4, 5, 20] (fun _ _ i wr => ∃ (j : Nat) (done rest : Fr) (ps rs : List Value), i = .int .i64 j ∧ j = done.len ∧ ks = done.app rest ∧ ps.length = j ∧ wr.ownsRow (H + 1) 26 1 (.slice A2 N c2) N (ps ++ rs) ∧
      PtF wr (Sk No H wr (.slice A2 N c2)) ps done ∧ PtF wr Sq rs rest ∧ Nb wr H x (.slice A2 N c2) ∧ Below H w wr) (fun _ _ i _ => N - (intOf i).toNat)
    case atStart => exact ⟨0, .nil, ks, [], us, rfl, rfl, rfl, rfl, HINI.out, trivial, HUS.out.keep (fun _ h => h) fun b hb => by
      have h1 := HB.out b hb
      rw [HH.out] at h1
      exact (Below.heap_setCell _ _ _ _ (by simp only; omega)).trans (HBEL.out.block b h1), HNBW.out.store _, HBEL.out.setCell (Nat.le_refl _) _⟩
    case round =>
      obtain ⟨j, done, rest, ps, rs, rfl, hj, hks, hpl, hown, hpt, hrs, hnb, hbw⟩ := hrel
      have hl : N = done.len + rest.len := by rw [← HNN.out, hks, Fr.len_app]
      have hss : ks.sz = done.sz + rest.sz := by rw [hks, Fr.sz_app]
      have hsz := HSZ.out
      have hn := HN0.out
      have hHr : H < wr.heap.size := heap_lt hnb
      have HKS := Lib.hid hks
      have HPT := Lib.hid hpt
      have HNB := Lib.hid hnb
      have HBW := Lib.hid hbw
      have cn := hnb.cell.1
      by_cases hlt : 0 < rest.len
      · obtain ⟨y, l, r, rfl⟩ := Fr.cut hlt
        obtain ⟨u, rs, rfl⟩ : ∃ u rs', rs = u :: rs' := by
          cases rs with
          | nil => exact hrs.elim
          | cons u rs => exact ⟨u, rs, rfl⟩
        obtain ⟨hu, hrs⟩ := hrs
        have hyl : szT (y, l) = 1 + l.sz := rfl
        have hsr : (Fr.cons y l r).sz = 1 + l.sz + r.sz := rfl
        have hlr : (Fr.cons y l r).len = r.len + 1 := rfl
        have hjN : j < N := by omega
        have hjz : (j : Int) < (N : Int) := by omega
        obtain ⟨g, cap, hv, _⟩ := hown.form (by omega)
        injection hv with hv1 _ hv2
        subst hv1 hv2
        have hg1 : H + 1 ≤ g := HVL.out g rfl
        have hgw : g < wr.heap.size := (hown.lt g rfl).2
        have hcj : wr.cell? ⟨g, j, none⟩ = some u := by
          rw [hown.cellAt j (by omega), List.getElem?_append_right (by omega), hpl, Nat.sub_self]
          rfl
        have hbr : Bel Sq wr.heap.size := fun q' h => by have := HB.out q' h; rw [HH.out] at this; omega
        have cI := fun W (hW : Below wr.heap.size wr W) => HIH.out (y, l) (by omega) W Sq u (fun q' h => by have := hbr q' h; have := hW.size; omega) (hu.below hbr hW)
        have hbs := hbw.size
        have HRS := Lib.hid hrs
        have HOWN := Lib.hid hown
        have HPL := Lib.hid hpl
        have HLN : Hid (j + 1 = (done.app (.cons y l .nil)).len) := Lib.hid (by rw [Fr.len_app]; simp only [Fr.len]; omega)
        have HSET := Lib.hid (fun v => setKid (rs := rs) (u := u) (v := v) j hpl)
        clear hks hpt hnb hbw hj hl hss hsz hn hown hrs hu hyl hsr hlr hbr hpl
        go_wp2_with fail
        go_region_held3 (fun w' => w'.cell? ⟨H, 4, none⟩ = some (.slice (some ⟨g, 0, none⟩) N c2)) (first | go_keep | (rw [cell_setCell _ _ _ (by simp only; omega)]; assumption))
          ((go_at_call 39; refine (cI _ (by first | exact Below.refl _ _ | exact below_drewN' (Below.refl _ _) 1)).mono ?_; rintro e w2 ⟨v2, rfl, hv2, hb2'⟩; obtain ⟨q2, o2, rfl⟩ := hv2.ptr; have hv2 : InT w2 (Sin No wr w2) (.pointer (some ⟨q2, o2, none⟩)) (y, l) := hv2; have hb2 : Below wr.heap.size wr w2 := (below_drewN' (Below.refl _ _) 1).trans hb2'; have HB2 := Lib.hid hb2; have HV2 := Lib.hid hv2; have hown2 := own_below HOWN.out hb2; have HOWN2 := Lib.hid hown2; have k2 := (hb2.cell (p := ⟨H, 4, none⟩) hHr).trans cn; have kj := (hb2.cell (p := ⟨g, j, none⟩) hgw).trans hcj; have fj := hown2.frozenAt j; have hs2 := hb2.size; clear hv2 hb2 hb2' hown2))
        go_wp2_with fail
        go_roundw
        case rel =>
          have hst := HOWN2.out.stored j (.pointer (some ⟨q2, o2, none⟩))
          have hbs2 : ∀ b, b < wr.heap.size → b ≠ g → (w2.setCell ⟨g, j, none⟩ (.pointer (some ⟨q2, o2, none⟩))).heap[b]? = wr.heap[b]? := fun b hb hne => (Below.heap_setCell _ _ _ _ hne).trans (HB2.out.block b hb)
          have hsz2 : (w2.setCell ⟨g, j, none⟩ (.pointer (some ⟨q2, o2, none⟩))).heap.size = w2.heap.size := by simp [World.setCell]
          refine ⟨j + 1, done.app (.cons y l .nil), r, ps ++ [.pointer (some ⟨q2, o2, none⟩)], rs, by go_num, HLN.out, by rw [HKS.out, Fr.app_cons], by rw [List.length_append, HPL.out]; rfl, by rw [← HSET.out]; exact hst.1, ?_, ?_, ?_, ?_⟩
          · refine PtF.snocL (HPT.out.keep (fun q' h => ?_) fun b hb => ?_) (HV2.out.keep (fun q' h => ?_) fun b hb => ?_)
            · rcases h with h | ⟨h1, h2, h3⟩
              · exact h.elim
              · exact .inr ⟨h1, by rw [hsz2]; omega, h3⟩
            · rcases hb with h | ⟨h1, h2, h3⟩
              · exact h.elim
              · exact hbs2 b h2 fun e => h3 (by rw [e]; rfl)
            · rcases h with h | ⟨h1, h2⟩
              · exact h.elim
              · refine .inr ⟨by omega, by rw [hsz2]; exact h2, fun e => ?_⟩
                injection e with e
                have : g = q' := e
                omega
            · rcases hb with h | ⟨h1, h2⟩
              · exact h.elim
              · exact Below.heap_setCell _ _ _ _ (by simp only; omega)
          · exact HRS.out.keep (fun _ h => h) fun b hb => hbs2 b (by have := HB.out b hb; rw [HH.out] at this; omega) (by have := HB.out b hb; rw [HH.out] at this; omega)
          · exact (hbs2 H hHr (by omega)).trans HNB.out
          · exact (HBW.out.trans (HB2.out.mono (by omega))).setCell (by simp only; omega) _
        case measure => simp [intOf]; omega
      · have h0 : rest = .nil := by
          cases rest with
          | nil => rfl
          | cons y l r => exact absurd (Nat.succ_pos _) hlt
        subst h0
        have h1 : rs = [] := by
          cases rs with
          | nil => rfl
          | cons u rs => exact hrs.elim
        subst h1
        have hjN : j = N := by simp only [Fr.len] at hl; omega
        have hjz : ¬ (j : Int) < (N : Int) := by omega
        have hfin : done = ks := by rw [hks, Fr.app_nil]
        rw [List.append_nil] at hown
        have hown : wr.ownsRow (H + 1) 26 1 (.slice A2 N c2) done.len ps := by rw [← hj, hjN]; exact hown
        have htree := OwnT.tree (x := x) (b := H) ⟨ps, hown, hpt.keep (S' := Sin No w wr) (by
          rintro q' (h | ⟨h1, h2, h3⟩)
          · exact h.elim
          · exact .inr ⟨by rw [HH.out]; omega, h2⟩) fun _ _ => rfl⟩ hnb (.inr ⟨by rw [HH.out]; exact Nat.le_refl _, hHr⟩) (fun g he => .inr ⟨by have := (hown.lt g he).1; rw [HH.out]; omega, (hown.lt g he).2⟩)
        rw [hfin] at htree
        have HT := Lib.hid htree
        clear hks hpt hnb hbw hj hl hss hsz hn hown hrs hpl htree hfin hjN
        go_wp2_with fail
        go_ret
        exact wi_ret HT.out (by rw [HH.out]; exact HBW.out)
theorem twin_nil (w : World) : Calls Try.prog 39 #[.pointer none] w fun e w' => e = .returned (.pointer none) ∧ w = w' := by
  go_enter Try.func39, Try.ntmps39
  go_wp2_with fail
  go_ret
  exact ⟨rfl, rfl⟩
/-- A tree handed back, or none. -/
def CoPost (o : Option Tr) (S : Nat → Prop) (W : World) (e : Ending) (w' : World) : Prop := ∃ v, e = .returned v ∧ InO w' (Sin S W w') v o ∧ Below W.heap.size W w'
set_option maxHeartbeats 1600000 in
set_option maxRecDepth 100000 in
theorem arCopy (o : Option Tr) (w : World) (Sq : Nat → Prop) (v : Value) (hbel : Bel Sq w.heap.size) (hin : InO w Sq v o) (hsz : szO o ≤ 65536) :
    Calls Try.prog 22 #[v] w (CoPost o No w) := by
  have cE := endless_any o w Sq v hbel hin hsz
  have cT : ∀ w1, Below w.heap.size w w1 → Calls Try.prog 39 #[v] w1 (CoPost o No w) := by
    intro w1 hb
    cases o with
    | none =>
      have hv : v = .pointer none := hin
      subst hv
      refine (twin_nil w1).mono ?_
      rintro e w' ⟨rfl, rfl⟩
      exact ⟨_, rfl, rfl, hb⟩
    | some t =>
      refine (twin_all 65536 (Nat.le_refl _) t hsz w1 Sq v (fun q h => by have := hbel q h; have := hb.size; omega) (InT.below hin hbel hb)).mono ?_
      rintro e w' ⟨v', rfl, hv, hb'⟩
      refine ⟨v', rfl, InT.keep hv (fun q h => ?_) fun _ _ => rfl, chn hb hb'⟩
      rcases h with h | ⟨h1, h2⟩
      · exact h.elim
      · exact .inr ⟨by have := hb.size; omega, h2⟩
  have hv : ∃ a, v = .pointer a := by
    cases o with
    | none => exact ⟨none, hin⟩
    | some t => obtain ⟨q, o, h⟩ := InT.ptr hin; exact ⟨_, h⟩
  obtain ⟨va, rfl⟩ := hv
  have CT := Lib.hid cT
  clear hbel hin hsz cT
  go_enter Try.func22, Try.ntmps22
  go_wp2_with fail
  refine cE.mono ?_
  rintro e w1 ⟨rfl, hb⟩
  have HB := Lib.hid hb
  clear hb
  go_wp2_with fail
  refine (CT.out w1 HB.out).mono ?_
  rintro e w2 ⟨v2, rfl, hv2, hb2⟩
  have HV2 := Lib.hid hv2
  have HB2 := Lib.hid hb2
  clear hv2 hb2
  go_wp2_with fail
  go_ret
  exact ⟨v2, rfl, HV2.out, HB2.out⟩
end Go.Proofs.Ytmjdeadkekhpdaa
