/-
  The program's Pack: what its closure and it tell of trees.
-/
import Derived.Test.YtmiicfdigkkbdaaDoorGt05
import Derived.LaidEqlPtr
namespace Go.Proofs.YtmiicfdigkkbdaaDoor
open Go.RowKit

def Sb (B : Nat) (X : Nat → Prop) (w : World) (v : Value) (q : Nat) : Prop := B ≤ q ∧ q < w.heap.size ∧ v.ownBlock ≠ some q ∧ ¬ X q
def PkSt (w : World) (lb cb B : Nat) (X : Nat → Prop) (vo : Value) (cs : List Cel) : Prop :=
  w.heap[lb]? = some (.cells #[.func (.func 81) #[] #[.pointer (some ⟨lb, 0, none⟩), .pointer (some ⟨cb, 0, none⟩)]] 29 (0, 0)) ∧ w.heap[cb]? = some (.cells #[vo] 22 (0, 0)) ∧
    (vo.ownBlock ≠ some lb ∧ vo.ownBlock ≠ some cb) ∧ ∃ vs, w.ownsRow B 47 5 vo cs.length (flat cs vs) ∧ CsF w (Sb B X w vo) vs cs
def PkEnd (w w' : World) (cb : Nat) (vo vo' : Value) : Prop :=
  w'.os = w.os ∧ w'.tape = w.tape ∧ w'.output = w.output ∧ w.heap.size ≤ w'.heap.size ∧ (∀ b, b < w.heap.size → b ≠ cb → vo.ownBlock ≠ some b → w'.heap[b]? = w.heap[b]?) ∧ (vo'.ownBlock = vo.ownBlock ∨ ∀ g, vo'.ownBlock = some g → w.heap.size ≤ g)
theorem PkEnd.refl (w : World) (cb : Nat) (vo : Value) : PkEnd w w cb vo vo := ⟨rfl, rfl, rfl, Nat.le_refl _, fun _ _ _ _ => rfl, .inl rfl⟩
theorem PkEnd.trans {a b c : World} {cb : Nat} {u v x : Value} (h : PkEnd a b cb u v) (k : PkEnd b c cb v x) : PkEnd a c cb u x := by
  obtain ⟨h1, h2, h3, h4, h5, h6⟩ := h
  obtain ⟨k1, k2, k3, k4, k5, k6⟩ := k
  refine ⟨k1.trans h1, k2.trans h2, k3.trans h3, Nat.le_trans h4 k4, fun i hi hc hv => ?_, ?_⟩
  · refine (k5 i (by omega) hc ?_).trans (h5 i hi hc hv)
    rcases h6 with h | h
    · rw [h]; exact hv
    · intro e; have := h i e; omega
  · rcases k6 with k | k
    · rw [k]
      exact h6
    · exact .inr fun g hg => by have := k g hg; omega
theorem PkEnd.below {a b c : World} {cb : Nat} {u v : Value} (h : PkEnd a b cb u v) (k : Below b.heap.size b c) : PkEnd a c cb u v := h.trans ⟨k.os, k.tape, k.output, k.size, fun i hi _ _ => k.block i hi, .inl rfl⟩
def Xc (X : Nat → Prop) (C : Nat) (vk : Value) (q : Nat) : Prop := X q ∨ q = C ∨ vk.ownBlock = some q
def LaRel (w : World) (lb cb B C : Nat) (X : Nat → Prop) (vo0 vo vk : Value) (x : Nod) (CS : List Cel) (RS : List Int) (wr : World) : Prop :=
  PkSt wr lb cb B (Xc X C vk) vo CS ∧ wr.ownsRow (C + 1) 3 1 vk RS.length (ints RS) ∧ wr.heap[C]? = some (.cells #[.int .i64 x.k, .int .i64 x.n, .string x.a, .string x.m, vk] 47 (0, 0)) ∧ PkEnd w wr cb vo0 vo ∧
    (∀ g, vo.ownBlock = some g → g ≠ C ∧ vk.ownBlock ≠ some g)
theorem LaRel.end {w wr w4 : World} {lb cb B C : Nat} {X : Nat → Prop} {vo0 vo vk v4 : Value} {x : Nod} {CS : List Cel} {RS : List Int} {ob : Obj} {vs : List Value} (hC : w.heap.size = C) (hlc : lb < C ∧ cb < C ∧ B ≤ C) (hX : ∀ q, X q → q < C) (hXc : X cb) (hne : lb ≠ cb) (hvo : vo.ownBlock ≠ some lb ∧ vo.ownBlock ≠ some cb)
    (g1 : wr.heap[lb]? = some (.cells #[.func (.func 81) #[] #[.pointer (some ⟨lb, 0, none⟩), .pointer (some ⟨cb, 0, none⟩)]] 29 (0, 0))) (g2 : wr.heap[cb]? = some (.cells #[vo] 22 (0, 0)))
    (hf : CsF wr (Sb B (Xc X C vk) wr vo) vs CS)
    (hk : wr.ownsRow (C + 1) 3 1 vk RS.length (ints RS)) (hend : PkEnd w wr cb vo0 vo) (hap : ∀ g, vo.ownBlock = some g → g ≠ C ∧ vk.ownBlock ≠ some g)
    (ho4 : w4.ownsRow B 47 5 v4 (CS.length + 1) (flat CS vs ++ [.int .i64 x.k, .int .i64 x.n, .string x.a, .string x.m, vk])) (hg4 : (wr.alloc ob).grownBy w4 vo.ownBlock) (hat4 : v4.ownBlock = vo.ownBlock ∨ v4.ownBlock = some (wr.heap.size + 1)) :
    PkSt (w4.setCell ⟨cb, 0, none⟩ v4) lb cb B X v4 (CS ++ [⟨x, RS⟩]) ∧ PkEnd w (w4.setCell ⟨cb, 0, none⟩ v4) cb vo0 v4 := by
  have hkl := hk.lt
  have h4l := ho4.lt
  have hsa : (wr.alloc ob).heap.size = wr.heap.size + 1 := by simp
  have hs4 := hg4.size
  have hsz7 : (w4.setCell ⟨cb, 0, none⟩ v4).heap.size = w4.heap.size := by simp [World.setCell]
  have hw : w.heap.size ≤ wr.heap.size := hend.2.2.2.1
  have hst : ∀ b, b < wr.heap.size → b ≠ cb → vo.ownBlock ≠ some b → (w4.setCell ⟨cb, 0, none⟩ v4).heap[b]? = wr.heap[b]? := by
    intro b h1 h2 h3
    rw [Below.heap_setCell _ _ _ _ h2, hg4.block b (by omega) (fun e => h3 e.symm), Below.heap_alloc _ _ _ h1]
  obtain ⟨hvl, hvc⟩ := hvo
  have hlr := heap_lt g1
  have hcr := heap_lt g2
  have hc4 : w4.heap[cb]? = some (.cells #[vo] 22 (0, 0)) := by
    rw [hg4.block cb (by have := heap_lt g2; omega) (fun e => hvc e.symm), Below.heap_alloc _ _ _ (heap_lt g2)]
    exact g2
  have hS : ∀ q, B ≤ q → q < wr.heap.size → vo.ownBlock ≠ some q → ¬ X q → Sb B X (w4.setCell ⟨cb, 0, none⟩ v4) v4 q := by
    intro q h1 h2 h3 h4
    refine ⟨h1, by omega, ?_, h4⟩
    rcases hat4 with h | h
    · rw [h]; exact h3
    · rw [h]; intro e; injection e with e; omega
  refine ⟨⟨?_, ?_, ?_, vs ++ [vk], ?_, ?_⟩, ?_⟩
  · rw [hst lb (heap_lt g1) hne hvl]; exact g1
  · rw [block_set _ hc4]; rfl
  · rcases hat4 with h | h
    · rw [h]; exact ⟨hvl, hvc⟩
    · rw [h]
      exact ⟨fun e => by injection e with e; omega, fun e => by injection e with e; omega⟩
  · have h4c : v4.ownBlock ≠ some cb := by
      rcases hat4 with h | h
      · rw [h]; exact hvc
      · rw [h]; intro e; injection e with e; omega
    rw [flat_app _ _ hf.len, List.length_append]
    exact own_setCell ho4 _ _ fun g hg => fun e => h4c (by rw [hg, e])
  · refine CsF.app (hf.keep (fun q hq => hS q hq.1 hq.2.1 hq.2.2.1 fun hx => hq.2.2.2 (.inl hx)) fun b hb => hst b hb.2.1 (fun e => hb.2.2.2 (.inl (by rw [e]; exact hXc))) hb.2.2.1) ⟨?_, trivial⟩
    refine (SpS.own (S := fun q' => vk.ownBlock = some q') hk fun g hg => hg).keep (fun q' h => hS q' (by have := (hkl q' h).1; omega) (hkl q' h).2 (fun e => (hap q' e).2 h) fun hx => by have := (hkl q' h).1; have := hX q' hx; omega) fun b h => hst b (hkl b h).2 (by have := (hkl b h).1; omega) fun e => (hap b e).2 h
  · obtain ⟨m1, m2, m3, m4, m5, m6⟩ := hend
    refine ⟨(show w4.os = _ from hg4.os.trans m1), (show w4.tape = _ from hg4.tape.trans m2), (show w4.output = _ from hg4.output.trans m3), by omega, fun b hb hbc hbv => ?_, ?_⟩
    · rw [hst b (by omega) hbc ?_]
      · exact m5 b hb hbc hbv
      · rcases m6 with h | h
        · rw [h]; exact hbv
        · intro e; have := h b e; omega
    · rcases hat4 with h | h
      · rw [h]; exact m6
      · exact .inr fun g hg => by rw [h] at hg; injection hg with hg; omega
end Go.Proofs.YtmiicfdigkkbdaaDoor
namespace Go.Proofs.YtmiicfdigkkbdaaDoor
open Go.RowKit

theorem PkSt.below {w w' : World} {lb cb B : Nat} {X : Nat → Prop} {vo : Value} {cs : List Cel} (h : PkSt w lb cb B X vo cs) (hb : Below w.heap.size w w') : PkSt w' lb cb B X vo cs := by
  obtain ⟨h1, h2, h3, vs, ho, hf⟩ := h
  have hs := hb.size
  exact ⟨heap_below h1 hb, heap_below h2 hb, h3, vs, own_below ho hb, hf.keep (fun q hq => ⟨hq.1, by have := hq.2.1; omega, hq.2.2⟩) fun b hb' => hb.block b hb'.2.1⟩
theorem PkSt.more {w : World} {lb cb B : Nat} {X X' : Nat → Prop} {vo : Value} {cs : List Cel} (h : PkSt w lb cb B X vo cs) (hX : ∀ q, q < w.heap.size → X' q → X q) : PkSt w lb cb B X' vo cs := by
  obtain ⟨h1, h2, h3, vs, ho, hf⟩ := h
  exact ⟨h1, h2, h3, vs, ho, hf.keep (fun q hq => ⟨hq.1, hq.2.1, hq.2.2.1, fun hx => hq.2.2.2 (hX q hq.2.1 hx)⟩) fun _ _ => rfl⟩
end Go.Proofs.YtmiicfdigkkbdaaDoor
namespace Go.Proofs.YtmiicfdigkkbdaaDoor
open Go.RowKit

/-! ### what lies at a place is one tree -/
theorem nd_uniq {w : World} {S S' : Nat → Prop} {v : Value} {x y : Nod} {ks ls : Fr} (hU : ∀ {b o : Nat}, ks.len = ls.len → InF w S ks b o → InF w S' ls b o → ks = ls)
    (h : Nd w S v x ks.len (InF w S ks)) (h' : Nd w S' v y ls.len (InF w S' ls)) : x = y ∧ ks = ls := by
  obtain ⟨q, p, A, c, e, _, _, h0, h1, h2, h3, h4, _, hk⟩ := h
  obtain ⟨q', p', A', c', e', _, _, h0', h1', h2', h3', h4', _, hk'⟩ := h'
  subst e
  injection e' with e'
  injection e' with e'
  injection e' with e1 e2
  subst e1 e2
  have k0 : x.k = y.k := by rw [h0] at h0'; injection h0' with h; injection h
  have k1 : x.n = y.n := by rw [h1] at h1'; injection h1' with h; injection h
  have k2 : x.a = y.a := by rw [h2] at h2'; injection h2' with h; injection h
  have k3 : x.m = y.m := by rw [h3] at h3'; injection h3' with h; injection h
  rw [h4] at h4'
  injection h4' with h4'
  injection h4' with hA hl _
  subst hA
  refine ⟨nod_ext k0 k1 k2 k3, ?_⟩
  rcases Nat.eq_zero_or_pos ks.len with hz | hp
  · cases ks with
    | nil => cases ls with
      | nil => rfl
      | cons _ _ _ => simp [Fr.len] at hl
    | cons _ _ _ => simp [Fr.len] at hz
  · obtain ⟨kb, ko, hA1, _, hkk⟩ := hk hp
    obtain ⟨kb', ko', hA2, _, hkk'⟩ := hk' (by omega)
    rw [hA1] at hA2
    injection hA2 with hA2
    injection hA2 with e1 e2
    subst e1 e2
    exact hU hl hkk hkk'
theorem InF.uniq {w : World} {S S' : Nat → Prop} : ∀ {f g : Fr} {b o : Nat}, f.len = g.len → InF w S f b o → InF w S' g b o → f = g
  | .nil, .nil, _, _, _, _, _ => rfl
  | .nil, .cons _ _ _, _, _, h, _, _ => by simp [Fr.len] at h
  | .cons _ _ _, .nil, _, _, h, _, _ => by simp [Fr.len] at h
  | .cons x ks rs, .cons y ls ss, b, o, hlen, h, h' => by
    obtain ⟨⟨v, hv, hn⟩, hr⟩ := h
    obtain ⟨⟨v', hv', hn'⟩, hr'⟩ := h'
    obtain rfl : v = v' := by rw [hv] at hv'; injection hv'
    have hr2 : rs = ss := InF.uniq (f := rs) (g := ss) (by simp only [Fr.len] at hlen; omega) hr hr'
    obtain ⟨e1, e2⟩ := nd_uniq (fun hl h1 h2 => InF.uniq (f := ks) (g := ls) hl h1 h2) hn hn'
    rw [e1, e2, hr2]
theorem InT.uniq {w : World} {S S' : Nat → Prop} {v : Value} {t u : Tr} (h : InT w S v t) (h' : InT w S' v u) : t = u := by
  obtain ⟨e1, e2⟩ := nd_uniq (fun hl h1 h2 => InF.uniq hl h1 h2) h h'
  exact Prod.ext e1 e2

/-! ### again -/
def Cm (w : World) (cb k : Nat) : Prop := w.heap[cb]? = some (.cells #[.int .i64 (k : Int), .map none] 66 (0, 0))
theorem again_any (cb k : Nat) (p : Array Value) (w : World) (h : Cm w cb k) (hk : k < 65536) :
    Calls Tryd.prog 56 #[.pointer (some ⟨cb, 0, none⟩), .agg p] w fun e w' => e = .returned (.bool false) ∧ Cm w' cb (k + 1) ∧ w.grownBy w' (some cb) := by
  have c0 := cell_of_row w cb 0 _ _ _ h
  have f0 := frozen_of_row w cb 0 _ _ h
  have hcb := heap_lt h
  have h1 : (k : Int) + 1 ≤ 65536 := by omega
  have HC := Lib.hid h
  clear h
  go_enter Tryd.func56, Tryd.ntmps56
  go_wp2_with fail
  go_ret
  refine ⟨rfl, ?_, gb_alloc (gb_set (gb_refl w _) _ _ (.inr rfl)) _⟩
  have e1 : ((k + 1 : Nat) : Int) = (k : Int) + 1 := by omega
  refine block_alloc _ ?_
  rw [e1, block_set _ HC.out]
  rfl

/-! ### alike, EqualFunc over alike -/
def CmPost (b : Bool) (cb k M : Nat) (w : World) (e : Ending) (w' : World) : Prop := e = .returned (.bool b) ∧ (∃ m, m ≤ M ∧ Cm w' cb (k + m)) ∧ w.grownBy w' (some cb)
theorem cm_ret {b b' : Bool} {cb k M m : Nat} {w w' : World} (hb : b = b') (hm : m ≤ M) (h : Cm w' cb (k + m)) (hg : w.grownBy w' (some cb)) : CmPost b cb k M w (.returned (.bool b')) w' := ⟨by rw [hb], ⟨m, hm, h⟩, hg⟩
def AlikeAt (n : Nat) : Prop := ∀ (t u : Tr), szT t ≤ n → ∀ (w : World) (Sq Sq' : Nat → Prop) (v v' : Value) (cb k : Nat), Bel Sq w.heap.size → Bel Sq' w.heap.size → ¬ Sq cb → ¬ Sq' cb → InT w Sq v t → InT w Sq' v' u → Cm w cb k → k + szT t ≤ 65536 → ∀ b : Bool, (b = true ↔ t = u) →
    Calls Tryd.prog 30 #[.pointer (some ⟨cb, 0, none⟩), v, v'] w (CmPost b cb k (szT t) w)
theorem Cm.drew {w : World} {cb k : Nat} (h : Cm w cb k) (q : Nat) : Cm (w.drewN q) cb k := h
set_option maxHeartbeats 3200000 in
set_option maxRecDepth 100000 in
theorem equal_any (n : Nat) (ih : AlikeAt n) (ks ls : Fr) (hn : ks.sz ≤ n) (w : World) (Sq Sq' : Nat → Prop) (A A' : Option Addr) (c c' cb k : Nat) (hS : Bel Sq w.heap.size) (hS' : Bel Sq' w.heap.size) (hcS : ¬ Sq cb) (hcS' : ¬ Sq' cb)
    (hkid : Kid w Sq A ks 0) (hkid' : Kid w Sq' A' ls 0) (hcm : Cm w cb k) (hk : k + ks.sz ≤ 65536) (ANS : Bool) (hans : ANS = true ↔ ks = ls) :
    Calls Tryd.prog 57 #[.slice A ks.len c, .slice A' ls.len c', .func (.func 30) #[.pointer (some ⟨cb, 0, none⟩)] #[]] w (CmPost ANS cb k ks.sz w) := by
  have HA := Lib.hid hans
  have HK := Lib.hid hkid
  have HK' := Lib.hid hkid'
  have HIH := Lib.hid ih
  have HCM := Lib.hid hcm
  have HB := Lib.hid hS
  have HB' := Lib.hid hS'
  have HC := Lib.hid hcS
  have HC' := Lib.hid hcS'
  have hll := Fr.len_le ks
  obtain ⟨N, hN⟩ : ∃ N, ks.len = N := ⟨_, rfl⟩
  obtain ⟨M, hM⟩ : ∃ M, ls.len = M := ⟨_, rfl⟩
  obtain ⟨Z, hZ⟩ : ∃ Z, ks.sz = Z := ⟨_, rfl⟩
  rw [hN, hZ] at hll
  rw [hZ] at hk hn
  rw [hN, hM, hZ]
  have HNN := Lib.hid hN
  have HMM := Lib.hid hM
  have HZ := Lib.hid hZ
  clear hans hkid hkid' ih hcm hS hS' hcS hcS' hN hM hZ
  by_cases d4 : N = M
  · subst d4
    go_enter Tryd.func57, Tryd.ntmps57
    go_wp2_with fail
    go_loopw [7, 8, 9, 17] (fun _ _ _ i wr => ∃ (j : Nat) (done r1 r2 : Fr) (m : Nat), i = .int .i64 j ∧ j = done.len ∧ ks = done.app r1 ∧ ls = done.app r2 ∧ Kid wr Sq A r1 j ∧ Kid wr Sq' A' r2 j ∧ m ≤ done.sz ∧ Cm wr cb (k + m) ∧ w.grownBy wr (some cb)) (fun _ _ _ i _ => N - (intOf i).toNat)
    case atStart => exact ⟨0, .nil, ks, ls, 0, rfl, rfl, rfl, rfl, HK.out, HK'.out, Nat.zero_le _, HCM.out, gb_refl _ _⟩
    case round =>
      obtain ⟨j, done, r1, r2, m, rfl, hj, hks, hls, hkid, hkid', hm, hcm, hgw⟩ := hrel
      have hl : N = done.len + r1.len := by rw [← HNN.out, hks, Fr.len_app]
      have hl' : N = done.len + r2.len := by rw [← HMM.out, hls, Fr.len_app]
      have hs : Z = done.sz + r1.sz := by rw [← HZ.out, hks, Fr.sz_app]
      have hrw := hgw.size
      have HKS := Lib.hid hks
      have HLS := Lib.hid hls
      by_cases hlt : 0 < r1.len
      · obtain ⟨y1, l1, s1, rfl⟩ := Fr.cut hlt
        obtain ⟨y2, l2, s2, rfl⟩ := Fr.cut (f := r2) (by omega)
        obtain ⟨kb, ko, u1, rfl, hkb, hcell, hu1, hnext⟩ := hkid.next
        obtain ⟨kb', ko', u2, rfl, hkb', hcell', hu2, hnext'⟩ := hkid'.next
        have hyl : szT (y1, l1) = 1 + l1.sz := rfl
        have hsr : (Fr.cons y1 l1 s1).sz = 1 + l1.sz + s1.sz := rfl
        have hlr : (Fr.cons y1 l1 s1).len = s1.len + 1 := rfl
        have hbr : Bel Sq wr.heap.size := fun q h => by have := HB.out q h; omega
        have hbr' : Bel Sq' wr.heap.size := fun q h => by have := HB'.out q h; omega
        have hjz : (j : Int) < (N : Int) := by omega
        have hjN : j < N := by omega
        have HSN : Hid (m + szT (y1, l1) ≤ (done.app (.cons y1 l1 .nil)).sz ∧ m + szT (y1, l1) ≤ Z) := Lib.hid (by rw [Fr.sz_app]; simp only [Fr.sz]; omega)
        have HLN : Hid (j + 1 = (done.app (.cons y1 l1 .nil)).len) := Lib.hid (by rw [Fr.len_app]; simp only [Fr.len]; omega)
        have HNX : Hid (∀ w2, wr.grownBy w2 (some cb) → Kid w2 Sq (some ⟨kb, ko, none⟩) s1 (j + 1) ∧ Kid w2 Sq' (some ⟨kb', ko', none⟩) s2 (j + 1)) := Lib.hid fun w2 hw2 => ⟨hnext.gb hbr HC.out hw2, hnext'.gb hbr' HC'.out hw2⟩
        have cI := fun b hb => HIH.out (y1, l1) (y2, l2) (by omega) wr Sq Sq' u1 u2 cb (k + m) hbr hbr' HC.out HC'.out hu1 hu2 hcm (by omega) b hb
        have HGW := Lib.hid hgw
        clear hkid hkid' hnext hnext' hu1 hu2 hks hls hj hl hl' hs hlr hsr hyl hbr hbr' hgw hcm
        by_cases heq : ((y1, l1) : Tr) = (y2, l2)
        · have cI := cI true ⟨fun _ => heq, fun _ => rfl⟩
          have HEQ := Lib.hid heq
          clear heq
          go_wp2_with (go_at_call 30; refine cI.mono ?_; rintro e w2 ⟨rfl, hc2, hg2⟩; have HC2 := Lib.hid hc2; have HG2 := Lib.hid hg2; clear hc2 hg2)
          go_roundw
          case rel =>
            obtain ⟨m2, hm2, hc2⟩ := HC2.out
            exact ⟨j + 1, done.app (.cons y1 l1 .nil), s1, s2, m + m2, by go_num, HLN.out, by rw [HKS.out, Fr.app_cons], by
              rw [HLS.out, Fr.app_cons]
              have := HEQ.out
              simp only [Prod.mk.injEq] at this
              rw [this.1, this.2], (HNX.out _ HG2.out).1, (HNX.out _ HG2.out).2, by have := HSN.out.1; omega, by rw [← Nat.add_assoc]; exact hc2, gb_trans HGW.out HG2.out⟩
          case measure => simp [intOf]; omega
        · have cI := cI false ⟨fun h => (by cases h), fun h => absurd h heq⟩
          have HE : Hid (ANS = false) := Lib.hid (bool_no HA.out fun e2 => heq (by
            rw [HKS.out, HLS.out] at e2
            have e3 := Fr.app_inj done e2
            simp only [Fr.cons.injEq] at e3
            rw [e3.1, e3.2.1]))
          clear heq
          go_wp2_with (go_at_call 30; refine cI.mono ?_; rintro e w2 ⟨rfl, hc2, hg2⟩; have HC2 := Lib.hid hc2; have HG2 := Lib.hid hg2; clear hc2 hg2)
          go_ret
          obtain ⟨m2, hm2, hc2⟩ := HC2.out
          exact cm_ret (m := m + m2) HE.out (by have := HSN.out.2; omega) (by rw [← Nat.add_assoc]; exact hc2) (gb_trans HGW.out HG2.out)
      · have h1 : r1 = .nil := by
          cases r1 with
          | nil => rfl
          | cons y l r => exact absurd (Nat.succ_pos _) hlt
        subst h1
        have hl1 : N = done.len := by simpa [Fr.len] using hl
        have h2 : r2 = .nil := by
          cases r2 with
          | nil => rfl
          | cons y l r => simp only [Fr.len] at hl'; omega
        subst h2
        have hjz : ¬ (j : Int) < (N : Int) := by omega
        have HE : Hid (ANS = true) := Lib.hid (bool_yes HA.out (by rw [HKS.out, HLS.out]))
        have HGW := Lib.hid hgw
        have HCR := Lib.hid hcm
        have hsn : (Fr.nil).sz = 0 := rfl
        have hmz : m ≤ Z := by omega
        clear hkid hkid' hks hls hj hl hl' hl1 hs hgw hcm hsn
        go_wp2_with fail
        go_ret
        exact cm_ret HE.out hmz HCR.out HGW.out
  · have e4 : ((N : Int) == (M : Int)) = false := by rw [beq_eq_false_iff_ne]; omega
    have f4 : ((N : Int) != (M : Int)) = true := by rw [bne_iff_ne]; omega
    have HE : Hid (ANS = false) := Lib.hid (bool_no HA.out fun e => d4 (by rw [← HNN.out, ← HMM.out, e]))
    clear d4
    go_enter Tryd.func57, Tryd.ntmps57
    go_wp2_with fail
    go_ret
    exact cm_ret (m := 0) HE.out (Nat.zero_le _) HCM.out (gb_refl _ _)
theorem infoNode : ∃ j : TypeInfo, Tryd.prog.info? 40 = some j ∧ j.size ≠ 0 := by
  have h : (Tryd.prog.info? 40).map (·.size) = some 5 := by kernel_rfl
  obtain ⟨j, hj, hs⟩ := Option.map_eq_some_iff.1 h
  exact ⟨j, hj, by omega⟩
theorem ptr_other {w : World} {a b : Addr} (hne : a ≠ b) (ha : Pln w a.block) (hb : Pln w b.block) : (binOp .eql 25 (.pointer (some a)) (.pointer (some b))).run Tryd.prog w = .ok (.bool false) w := by
  obtain ⟨j, hj, hs⟩ := infoNode
  obtain ⟨ca, ta, ha⟩ := ha
  obtain ⟨cb, tb, hb⟩ := hb
  exact run_eql_ptr_other w Tryd.underlying25 hj hs hne ha hb
theorem ptr_same (w : World) (a : Addr) : (binOp .eql 25 (.pointer (some a)) (.pointer (some a))).run Tryd.prog w = .ok (.bool true) w := by
  obtain ⟨j, hj, hs⟩ := infoNode
  exact run_eql_ptr_same w a Tryd.underlying25 hj
set_option maxHeartbeats 6400000 in
set_option maxRecDepth 100000 in
theorem alike_all : ∀ n, n ≤ 65536 → AlikeAt n
  | 0, _ => fun t _ h => absurd h (by unfold szT; omega)
  | n + 1, hbig => by
    have ih := alike_all n (by omega)
    rintro ⟨x, ks⟩ ⟨y, ls⟩ hn w Sq Sq' v v' cb k hS hS' hcS hcS' hin hin' hcm hk ANS hans
    have huq : v = v' → ANS = true := fun e => hans.2 (by subst e; exact hin.uniq hin')
    obtain ⟨q, p, A, c, rfl, hq1, c0, c1, c2, c3, c4, hc, hkid⟩ := hin.open
    obtain ⟨q', p', A', c', rfl, hq1', c0', c1', c2', c3', c4', hc', hkid'⟩ := hin'.open
    by_cases hsame : q = q' ∧ p = p'
    · obtain ⟨rfl, rfl⟩ := hsame
      have HE : Hid (ANS = true) := Lib.hid (huq rfl)
      have heq := ptr_same w ⟨q, p, none⟩
      clear huq hans ih hin hin' hkid hkid'
      go_enter Tryd.func30, Tryd.ntmps30
      go_wp2_with fail
      go_ret
      exact cm_ret (m := 0) HE.out (Nat.zero_le _) hcm (gb_refl _ _)
    · have heq := ptr_other (w := w) (a := ⟨q, p, none⟩) (b := ⟨q', p', none⟩) (fun e => hsame (by injection e with e1 e2; exact ⟨e1, e2⟩)) hin.pln hin'.pln
      have hq := cell_lt c4
      have hqq := cell_lt c4'
      have hcb := heap_lt hcm
      have HA := Lib.hid hans
      have HIH := Lib.hid ih
      have HCM := Lib.hid hcm
      have HK := Lib.hid hkid
      have HK' := Lib.hid hkid'
      have HB := Lib.hid hS
      have HB' := Lib.hid hS'
      have HC := Lib.hid hcS
      have HC' := Lib.hid hcS'
      have hqc : q ≠ cb := fun e => hcS (by rw [← e]; exact hq1)
      have hqc' : q' ≠ cb := fun e => hcS' (by rw [← e]; exact hq1')
      have hsz : szT (x, ks) = 1 + ks.sz := rfl
      obtain ⟨Z, hZ⟩ : ∃ Z, szT (x, ks) = Z := ⟨_, rfl⟩
      rw [hZ] at hn hk hsz ⊢
      obtain ⟨N, hN⟩ : ∃ N, ks.len = N := ⟨_, rfl⟩
      obtain ⟨M, hM⟩ : ∃ M, ls.len = M := ⟨_, rfl⟩
      rw [hN] at c4 hc
      rw [hM] at c4' hc'
      have HNN := Lib.hid hN
      have HMM := Lib.hid hM
      have HSZ := Lib.hid hsz
      have hk1 : k < 65536 := by omega
      clear huq hans ih hin hin' hcm hkid hkid' hS hS' hcS hcS' hsz hZ hN hM hsame
      by_cases d0 : x.k = y.k
      · by_cases d1 : x.n = y.n
        · by_cases d2 : x.a = y.a
          · by_cases d3 : x.m = y.m
            · have HXY := Lib.hid (nod_ext d0 d1 d2 d3)
              obtain ⟨e0, f0⟩ := int_eq d0
              obtain ⟨e1, f1⟩ := int_eq d1
              obtain ⟨e2, f2⟩ := txt_eq d2
              obtain ⟨e3, f3⟩ := txt_eq d3
              have HANS : Hid (ANS = true ↔ ks = ls) := Lib.hid (HA.out.trans ⟨fun e => (Prod.mk.inj e).2, fun e => by rw [e, HXY.out]⟩)
              have cA := fun W (h : Cm W cb k) => again_any cb k #[.pointer (some ⟨q, p, none⟩), .pointer (some ⟨q', p', none⟩)] W h hk1
              have cE := fun W (hg : w.grownBy W (some cb)) (h : Cm W cb (k + 1)) => equal_any n HIH.out ks ls (by have := HSZ.out; omega) W Sq Sq' A A' c c' cb (k + 1) (fun q h => by have := HB.out q h; have := hg.size; omega) (fun q h => by have := HB'.out q h; have := hg.size; omega) HC.out HC'.out (HK.out.gb HB.out HC.out hg) (HK'.out.gb HB'.out HC'.out hg) h (by have := HSZ.out; omega) ANS HANS.out
              rw [HNN.out, HMM.out] at cE
              have HCA := Lib.hid cA
              have HCE := Lib.hid cE
              clear d0 d1 d2 d3 cA cE
              go_enter Tryd.func30, Tryd.ntmps30
              go_wp2_with fail
              go_quiet (fail)
              go_wp2_with fail
              go_region_held3 (fun w' => w'.cell? ⟨q, p + 4, none⟩ = some (.slice A N c) ∧ w'.cell? ⟨q', p' + 4, none⟩ = some (.slice A' M c')) (go_keep)
                (first
                  | (go_at_call 56; refine (HCA.out _ (by exact HCM.out)).mono ?_; rintro e w2 ⟨rfl, hc2, hg2⟩; have hgw : w.grownBy w2 (some cb) := ⟨hg2.os, hg2.tape, hg2.output, hg2.size, hg2.block⟩; have k4 := gb_cell hgw c4 hqc; have k4' := gb_cell hgw c4' hqc'; have HC2 := Lib.hid hc2; have HG2 := Lib.hid hgw; clear hc2 hg2 hgw)
                  | (go_at_call 57; refine (HCE.out _ (by exact ⟨HG2.out.os, HG2.out.tape, HG2.out.output, HG2.out.size, HG2.out.block⟩) (by exact HC2.out)).mono ?_; rintro e w3 ⟨rfl, hc3, hg3⟩; have hgw : w.grownBy w3 (some cb) := gb_trans HG2.out ⟨hg3.os, hg3.tape, hg3.output, hg3.size, hg3.block⟩; have m4 := gb_cell hgw c4 hqc; have m4' := gb_cell hgw c4' hqc'; have HC3 := Lib.hid hc3; have HG3 := Lib.hid hgw; clear hc3 hg3 hgw))
              go_wp2_with fail
              go_ret
              obtain ⟨m3, hm3, hc3⟩ := HC3.out
              exact cm_ret (m := 1 + m3) rfl (by have := HSZ.out; omega) (by rw [← Nat.add_assoc]; exact hc3) HG3.out
            · obtain ⟨e0, f0⟩ := int_eq d0
              obtain ⟨e1, f1⟩ := int_eq d1
              obtain ⟨e2, f2⟩ := txt_eq d2
              obtain ⟨e3, f3⟩ := txt_ne d3
              have HE : Hid (ANS = false) := Lib.hid (bool_no HA.out fun e => d3 (by rw [(Prod.mk.inj e).1]))
              clear d0 d1 d2 d3
              go_enter Tryd.func30, Tryd.ntmps30
              go_wp2_with fail
              go_quiet (fail)
              go_wp2_with fail
              go_ret
              exact cm_ret (m := 0) HE.out (Nat.zero_le _) (HCM.out.drew _) (gb_drew (gb_refl _ _) _)
          · obtain ⟨e0, f0⟩ := int_eq d0
            obtain ⟨e1, f1⟩ := int_eq d1
            obtain ⟨e2, f2⟩ := txt_ne d2
            have HE : Hid (ANS = false) := Lib.hid (bool_no HA.out fun e => d2 (by rw [(Prod.mk.inj e).1]))
            clear d0 d1 d2
            go_enter Tryd.func30, Tryd.ntmps30
            go_wp2_with fail
            go_quiet (fail)
            go_wp2_with fail
            go_ret
            exact cm_ret (m := 0) HE.out (Nat.zero_le _) (HCM.out.drew _) (gb_drew (gb_refl _ _) _)
        · obtain ⟨e0, f0⟩ := int_eq d0
          obtain ⟨e1, f1⟩ := int_ne d1
          have HE : Hid (ANS = false) := Lib.hid (bool_no HA.out fun e => d1 (by rw [(Prod.mk.inj e).1]))
          clear d0 d1
          go_enter Tryd.func30, Tryd.ntmps30
          go_wp2_with fail
          go_quiet (fail)
          go_wp2_with fail
          go_ret
          exact cm_ret (m := 0) HE.out (Nat.zero_le _) (HCM.out.drew _) (gb_drew (gb_refl _ _) _)
      · obtain ⟨e0, f0⟩ := int_ne d0
        have HE : Hid (ANS = false) := Lib.hid (bool_no HA.out fun e => d0 (by rw [(Prod.mk.inj e).1]))
        clear d0
        go_enter Tryd.func30, Tryd.ntmps30
        go_wp2_with fail
        go_quiet (fail)
        go_wp2_with fail
        go_ret
        exact cm_ret (m := 0) HE.out (Nat.zero_le _) (HCM.out.drew _) (gb_drew (gb_refl _ _) _)

/-! ### Same -/
theorem ptr_nil_left (w : World) (a : Addr) : (binOp .eql 25 (.pointer none) (.pointer (some a))).run Tryd.prog w = .ok (.bool false) w := by
  have h : ∀ d : Nat, (Op.equalIn (d + 1) 25 (.pointer none) (.pointer (some a))).run Tryd.prog w = .ok false w := fun d => by simp [Op.equalIn, run_underlying Tryd.underlying25]
  simp only [binOp]
  simp [Op.equal, Op.maxDepth, h 9999]
theorem ptr_nil_right (w : World) (a : Addr) : (binOp .eql 25 (.pointer (some a)) (.pointer none)).run Tryd.prog w = .ok (.bool false) w := by
  have h : ∀ d : Nat, (Op.equalIn (d + 1) 25 (.pointer (some a)) (.pointer none)).run Tryd.prog w = .ok false w := fun d => by simp [Op.equalIn, run_underlying Tryd.underlying25]
  simp only [binOp]
  simp [Op.equal, Op.maxDepth, h 9999]
def SbPost (b : Bool) (w : World) (e : Ending) (w' : World) : Prop := e = .returned (.bool b) ∧ Below w.heap.size w w'
set_option maxHeartbeats 1600000 in
set_option maxRecDepth 100000 in
theorem alikeO (t u : Option Tr) (hno : t = none ∨ u = none) (cb : Nat) (w : World) (Sq Sq' : Nat → Prop) (v v' : Value) (hin : InO w Sq v t) (hin' : InO w Sq' v' u) (b : Bool) (hb : b = true ↔ t = u) :
    Calls Tryd.prog 30 #[.pointer (some ⟨cb, 0, none⟩), v, v'] w fun e w' => e = .returned (.bool b) ∧ ∃ n, w' = w.drewN n := by
  cases t with
  | none =>
    have hv : v = .pointer none := hin
    subst hv
    cases u with
    | none =>
      have hv : v' = .pointer none := hin'
      subst hv
      have HE : Hid (b = true) := Lib.hid (hb.2 rfl)
      clear hb hin hin' hno
      go_enter Tryd.func30, Tryd.ntmps30
      go_wp2_with fail
      go_ret
      exact sm_ret HE.out ⟨0, rfl⟩
    | some u =>
      obtain ⟨q, p, rfl⟩ := InT.ptr hin'
      have HE : Hid (b = false) := Lib.hid (bool_no hb (by simp))
      have heq := ptr_nil_left w ⟨q, p, none⟩
      clear hb hin hin' hno
      go_enter Tryd.func30, Tryd.ntmps30
      go_wp2_with fail
      go_quiet (fail)
      go_wp2_with fail
      go_ret
      exact sm_ret HE.out ⟨_, rfl⟩
  | some t =>
    obtain rfl : u = none := hno.resolve_left (by simp)
    have hv : v' = .pointer none := hin'
    subst hv
    obtain ⟨q, p, rfl⟩ := InT.ptr hin
    have HE : Hid (b = false) := Lib.hid (bool_no hb (by simp))
    have heq := ptr_nil_right w ⟨q, p, none⟩
    clear hb hin hin' hno
    go_enter Tryd.func30, Tryd.ntmps30
    go_wp2_with fail
    go_quiet (fail)
    go_wp2_with fail
    go_ret
    exact sm_ret HE.out ⟨_, rfl⟩
set_option maxHeartbeats 1600000 in
set_option maxRecDepth 100000 in
theorem arSame (t u : Option Tr) (w : World) (Sq Sq' : Nat → Prop) (v v' : Value) (hS : Bel Sq w.heap.size) (hS' : Bel Sq' w.heap.size) (hin : InO w Sq v t) (hin' : InO w Sq' v' u) (hsz : szO t ≤ 65536) (b : Bool) (hb : b = true ↔ t = u) :
    Calls Tryd.prog 14 #[v, v'] w (SbPost b w) := by
  obtain ⟨H, hH⟩ : ∃ H, w.heap.size = H := ⟨_, rfl⟩
  have hbel := (Below.refl w.heap.size w).alloc (Nat.le_refl _) (.cells #[.int .i64 0, .map none] 66)
  have key : Calls Tryd.prog 30 #[.pointer (some ⟨H, 0, none⟩), v, v'] (w.alloc (.cells #[.int .i64 0, .map none] 66)) fun e w' => e = .returned (.bool b) ∧ Below w.heap.size w w' := by
    by_cases hno : t = none ∨ u = none
    · refine (alikeO t u hno H _ Sq Sq' v v' (hin.below hS hbel) (hin'.below hS' hbel) b hb).mono ?_
      rintro e w' ⟨rfl, n, rfl⟩
      exact ⟨rfl, below_drewN' hbel n⟩
    · cases t with
      | none => exact absurd (.inl rfl) hno
      | some t =>
        cases u with
        | none => exact absurd (.inr rfl) hno
        | some u =>
          have hs1 : (w.alloc (.cells #[.int .i64 0, .map none] 66)).heap.size = H + 1 := by simp; omega
          have hszt : szO (some t) = szT t := rfl
          refine (alike_all 65536 (Nat.le_refl _) t u (by omega) _ Sq Sq' v v' H 0 (fun q h => by have := hS q h; omega) (fun q h => by have := hS' q h; omega) (fun h => by have := hS _ h; omega) (fun h => by have := hS' _ h; omega) (InT.below hin hS hbel) (InT.below hin' hS' hbel) (by rw [← hH]; exact heap_alloc_new w _) (by omega) b (by rw [hb]; simp)).mono ?_
          rintro e w' ⟨rfl, -, hg⟩
          exact ⟨rfl, gb_base hbel hg (by omega) fun g h => by injection h with h; omega⟩
  rw [← hH] at key
  clear hin hin' hS hS' hbel hb hsz hH
  go_enter Tryd.func14, Tryd.ntmps14
  go_wp2_with fail
  refine key.mono ?_
  rintro e w1 ⟨rfl, hb1⟩
  go_wp2_with fail
  go_ret
  exact ⟨rfl, hb1⟩
end Go.Proofs.YtmiicfdigkkbdaaDoor
