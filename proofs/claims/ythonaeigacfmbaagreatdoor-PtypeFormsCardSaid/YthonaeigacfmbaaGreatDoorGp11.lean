/-
  The document's number: what it tells.
-/
import Derived.Test.YthonaeigacfmbaaGreatDoorGp10
namespace Go.Proofs.YthonaeigacfmbaaGreatDoor.B
open Go.RowKit

theorem results_cell_three {P : Program} {fn : Func} {p q u : Tmp} {ty : TypeId} (h : fn.results = #[.cell p ty, .tmp q, .tmp u]) (tmps : Array Value) (w : World) (g : Nat) (t : TypeId) (cs : Array Value) (fr : Nat × Nat) (d : TypeDesc)
    (hp : tmps.getD p undef = .pointer (some ⟨g, 0, none⟩)) (hg : w.heap[g]? = some (.cells cs t fr))
    (hu : P.underlying ty = some d) (hd : (match d with | .struct _ | .array _ _ => true | _ => false) = true) (hi : (P.info? ty).map (·.size) = some cs.size) :
    (results fn tmps).run P w = .ok (.tuple #[.agg cs, tmps.getD q undef, tmps.getD u undef]) w := by
  have hp' : tmps[p]?.getD undef = .pointer (some ⟨g, 0, none⟩) := by simpa using hp
  simp [results, h, hp', asAddr, run_loadVar_row w g t ty cs fr d hg hu hd hi]
def RT (r : Option (Tok × Nat)) (i : Nat) (W : World) (e : Ending) (w' : World) : Prop :=
  (∃ (K : Int) (S : ByteArray) (M Z : Int), e = .returned (.tuple #[.agg #[.int .i64 K, .string S, .int .i64 M, .int .i64 0], .int .i64 Z, .bool r.isSome]) ∧ ∀ t n, r = some (t, n) → K = t.k ∧ S = T t.x ∧ M = t.n ∧ Z = ((i + n : Nat) : Int)) ∧ Below W.heap.size W w'
theorem rt_none {r : Option (Tok × Nat)} {i : Nat} {W w' : World} {K M Z : Int} {S : ByteArray} (h : r = none) (hb : Below W.heap.size W w') : RT r i W (.returned (.tuple #[.agg #[.int .i64 K, .string S, .int .i64 M, .int .i64 0], .int .i64 Z, .bool false])) w' := by
  subst h; exact ⟨⟨K, S, M, Z, rfl, fun t n h => by cases h⟩, hb⟩
theorem rt_some {r : Option (Tok × Nat)} {i n : Nat} {W w' : World} {K M Z : Int} {S : ByteArray} {x : List Nat} (h : r = some (⟨K, x, M⟩, n)) (hs : S = T x) (hz : Z = ((i + n : Nat) : Int)) (hb : Below W.heap.size W w') :
    RT r i W (.returned (.tuple #[.agg #[.int .i64 K, .string S, .int .i64 M, .int .i64 0], .int .i64 Z, .bool true])) w' := by
  subst h; subst hs; subst hz
  exact ⟨⟨K, _, M, _, rfl, fun t m h => by injection h with h; injection h with h1 h2; subst h1; subst h2; exact ⟨rfl, rfl, rfl, rfl⟩⟩, hb⟩

def vv (a : Nat) (e : List Nat) : Nat := val a (e.take (cnt dig e))
theorem vv_dig {a r : Nat} {t : List Nat} (h : dig r = true) : vv a (r :: t) = vv (10 * a + (r - 48)) t := by
  unfold vv; simp [cnt, h]; rfl
theorem vv_stop {a : Nat} {e : List Nat} (h : cnt dig e = 0) : vv a e = a := by
  unfold vv; rw [h]; rfl
theorem vv_ge (a : Nat) (e : List Nat) : a ≤ vv a e := val_ge _ _
theorem cnt_zero {f : Nat → Bool} {l : List Nat} {i r : Nat} (h : l[i]? = some r) (hf : f r = false) : cnt f (l.drop i) = 0 := by
  rw [cnt_at h, hf]; rfl
structure NumRel (l : List Nat) (f0 p v : Nat) : Prop where
  lo : f0 ≤ p
  hi : p ≤ l.length
  cn : cnt dig (l.drop f0) = (p - f0) + cnt dig (l.drop p)
  va : vv v (l.drop p) = vv 0 (l.drop f0)
theorem NumRel.start {l : List Nat} {f0 : Nat} (h : f0 ≤ l.length) : NumRel l f0 f0 0 := ⟨Nat.le_refl _, h, by omega, rfl⟩
theorem NumRel.next {l : List Nat} {f0 p v r : Nat} (h : NumRel l f0 p v) (hr : l[p]? = some r) (hd : dig r = true) : NumRel l f0 (p + 1) (10 * v + (r - 48)) := by
  have hp : p < l.length := (List.getElem?_eq_some_iff.1 hr).1
  refine ⟨by have := h.lo; omega, hp, ?_, ?_⟩
  · have h1 := h.cn
    have h2 := h.lo
    rw [cnt_at hr, hd] at h1
    simp at h1
    omega
  · have h1 := h.va
    rw [drop_succ hr, vv_dig hd] at h1
    exact h1
theorem NumRel.big {l : List Nat} {f0 p v r : Nat} (h : NumRel l f0 p v) (hr : l[p]? = some r) (hd : dig r = true) (hb : 1073741824 < 10 * v + (r - 48)) {b : Bool} : digT b (l.drop f0) = none := by
  have h1 := (h.next hr hd).va
  have h2 := vv_ge (10 * v + (r - 48)) (l.drop (p + 1))
  exact dig_none3 (by show _ < vv 0 (l.drop f0); omega)
theorem NumRel.fin {l : List Nat} {f0 p v : Nat} (h : NumRel l f0 p v) (he : cnt dig (l.drop p) = 0) : cnt dig (l.drop f0) = p - f0 ∧ (l.drop f0).drop (cnt dig (l.drop f0)) = l.drop p ∧ val 0 ((l.drop f0).take (cnt dig (l.drop f0))) = v := by
  have h1 := h.cn
  have h2 := h.va
  have h3 := h.lo
  rw [vv_stop he] at h2
  refine ⟨by omega, ?_, h2.symm⟩
  rw [h1, he, List.drop_drop]
  congr 1
  omega
theorem dig_cls {r : Nat} : dig r = decide (cls (r : Int) = 2) := rfl

set_option maxHeartbeats 6400000 in
set_option maxRecDepth 100000 in
theorem numNeg (v : Value) (l : List Nat) (B i : Nat) (w : World) (h : Sl w B v l) (hB : B ≤ w.heap.size) (hl : l.length ≤ 1000000) (r0 : Nat) (hr0 : l[i]? = some r0) (h126 : r0 = 126) :
    Calls Tryz.prog 102 #[v, .int .i64 (i : Int)] w (RT (digT true (l.drop (i + 1)) |>.map fun x => (x.1, x.2)) i w) := by
  have hmap : ((digT true (l.drop (i + 1))).map fun x => (x.1, x.2)) = digT true (l.drop (i + 1)) := by cases digT true (l.drop (i + 1)) <;> rfl
  rw [hmap]
  clear hmap
  obtain ⟨A, c, rfl, hlc, hA⟩ := h
  have hA0 : ∀ (j u : Nat), l[j]? = some u → ∃ ad, A = some ad ∧ (w.alloc (.cells #[.int .i64 0, .string ⟨#[]⟩, .int .i64 0, .int .i64 0] 63)).cell? (ad.add j) = some (.int .i32 (u : Int)) := fun j u hu => by
    obtain ⟨ad, h1, h2, h3⟩ := hA j u hu
    exact ⟨ad, h1, by rw [World.cell?_alloc_lt w _ _ (by rw [addBlock]; omega)]; exact h3⟩
  have HA := Lib.hid hA0
  have hbn : Below w.heap.size w (w.alloc (.cells #[.int .i64 0, .string ⟨#[]⟩, .int .i64 0, .int .i64 0] 63)) := (Below.refl _ _).alloc (Nat.le_refl _) _
  have hrc := Rc.new_ w
  have hi : i < l.length := (List.getElem?_eq_some_iff.1 hr0).1
  obtain ⟨ad, rfl, hc0⟩ := hA0 i r0 hr0
  obtain ⟨a2, ha2, hbl, _⟩ := hA i r0 hr0
  injection ha2 with ha2
  subst ha2
  have e126 : ((r0 : Int) == 126) = true := by rw [beq_iff_eq]; omega
  have hst : NumRel l (i + 1) (i + 1) 0 := NumRel.start (by omega)
  obtain ⟨n, hn⟩ : ∃ n, l.length = n := ⟨_, rfl⟩
  rw [hn] at hl hlc hi ⊢
  have HN := Lib.hid hn
  obtain ⟨ANS, hans⟩ : ∃ s, digT true (l.drop (i + 1)) = s := ⟨_, rfl⟩
  rw [hans]
  have HANS := Lib.hid hans
  have HST := Lib.hid hst
  have hblk : (ad.add i).block < w.heap.size := by rw [addBlock]; omega
  have hc0' : w.cell? (ad.add i) = some (.int .i32 (r0 : Int)) := by rw [← World.cell?_alloc_lt w (.cells #[.int .i64 0, .string ⟨#[]⟩, .int .i64 0, .int .i64 0] 63) _ hblk]; exact hc0
  clear hA hA0 hn hans hst hr0 h126 hc0
  go_enter Tryz.func102, Tryz.ntmps102
  go_wp2
  have HRC := Lib.hid hrc
  have HBN := Lib.hid hbn
  clear hrc hbn
  generalize w.alloc (.cells #[.int .i64 0, .string ⟨#[]⟩, .int .i64 0, .int .i64 0] 63) = W0 at HA HRC HBN ⊢
  go_loopw [7, 9] (fun x y wr => ∃ (p u : Nat), x = .int .i64 p ∧ y = .int .i64 u ∧ p ≤ n ∧ u ≤ 1073741824 ∧ wr = W0 ∧ NumRel l (i + 1) p u) (fun x _ _ => n - (intOf x).toNat)
  case atStart => exact ⟨i + 1, 0, by first | rfl | go_num, rfl, by omega, by omega, rfl, HST.out⟩
  case round =>
    obtain ⟨p, u, rfl, rfl, hp, hu, rfl, hrel⟩ := hrel
    have HR := Lib.hid hrel
    have hlo := hrel.lo
    clear hrel
    obtain ⟨⟨q0, q1, q2, q3⟩, f0, f1, f2, f3⟩ := HRC.out.cells
    by_cases hlt : p < n
    · obtain ⟨r, hr⟩ : ∃ r, l[p]? = some r := ⟨_, List.getElem?_eq_getElem (by rw [HN.out]; exact hlt)⟩
      obtain ⟨a3, ha3, hcell⟩ := HA.out p r hr
      injection ha3 with ha3
      subst ha3
      have hz : (p : Int) < (n : Int) := by omega
      have HRR := Lib.hid hr
      have cC := fun W => refClass (r : Int) W
      by_cases hd : dig r = true
      · have hrg := (dig_is r).1 hd
        have hk : cls (r : Int) = 2 := by rw [dig_cls, decide_eq_true_iff] at hd; exact hd
        rw [hk] at cC
        have HD := Lib.hid hd
        clear hd hr hk
        by_cases hbig : 1073741824 < 10 * u + (r - 48)
        · have hbz : (1073741824 : Int) < 10 * (u : Int) + (r : Int) - 48 := by omega
          have HB := Lib.hid hbig
          clear hbig
          go_wp2_with (go_at_call 62; refine (cC _).mono ?_; rintro e w' ⟨rfl, rfl⟩)
          refine bodyPost_ret (results_cell_three rfl _ _ w.heap.size _ _ (0, 0) _ rfl (Rc.four HRC.out _ _ _ _) Tryz.underlying63 rfl (by kernel_rfl)) rfl ?_
          exact rt_none (HANS.out.symm.trans (HR.out.big HRR.out HD.out HB.out)) (below_four HBN.out (Nat.le_refl _) _ _ _ _)
        · have hbz : ¬ (1073741824 : Int) < 10 * (u : Int) + (r : Int) - 48 := by omega
          have hle : 10 * u + (r - 48) ≤ 1073741824 := by omega
          clear hbig
          go_wp2_with (go_at_call 62; refine (cC _).mono ?_; rintro e w' ⟨rfl, rfl⟩)
          go_roundw
          case rel => exact ⟨p + 1, 10 * u + (r - 48), by go_num, i64_eq (by omega), by omega, hle, by trivial, HR.out.next HRR.out HD.out⟩
          case measure => simp [intOf]; omega
      · have hd' : dig r = false := by simpa using hd
        have hk : cls (r : Int) ≠ 2 := by rw [dig_cls, decide_eq_false_iff_not] at hd'; exact hd'
        have HE := Lib.hid (cnt_zero hr hd')
        obtain ⟨k, hkk⟩ : ∃ k, cls (r : Int) = k := ⟨_, rfl⟩
        rw [hkk] at cC hk
        have hk2 : (k == 2) = false := by rw [beq_eq_false_iff_ne]; exact hk
        have cI := fun W => inner_any r W
        obtain ⟨b, hb⟩ : ∃ b, inr r = b := ⟨_, rfl⟩
        rw [hb] at cI
        have HI := Lib.hid (cnt_at (f := inr) hr)
        rw [hb] at HI
        clear hd hd' hk hkk hr hb
        by_cases hpf : p = i + 1
        · have hpz : ((p : Int) == (i : Int) + 1) = true := by rw [beq_iff_eq]; omega
          have HPF := Lib.hid hpf
          clear hpf
          go_wp2_with (go_at_call 62; refine (cC _).mono ?_; rintro e w' ⟨rfl, rfl⟩)
          refine bodyPost_ret (results_cell_three rfl _ _ w.heap.size _ _ (0, 0) _ rfl (Rc.four HRC.out _ _ _ _) Tryz.underlying63 rfl (by kernel_rfl)) rfl ?_
          exact rt_none (HANS.out.symm.trans (dig_none2 (by have h1 := (HR.out.fin HE.out).1; have h2 := HPF.out; omega))) (below_four HBN.out (Nat.le_refl _) _ _ _ _)
        · have hpz : ((p : Int) == (i : Int) + 1) = false := by rw [beq_eq_false_iff_ne]; omega
          have HPF := Lib.hid hpf
          clear hpf
          cases b
          · have cN := fun W => refNumber (-(u : Int)).natAbs (-(u : Int)) (Nat.le_refl _) (by omega) (by omega) W
            obtain ⟨X, hX⟩ : ∃ X, T (numb (-(u : Int))) = X := ⟨_, rfl⟩
            rw [hX] at cN
            have HX := Lib.hid hX
            have HI0 : Hid (cnt inr (l.drop p) = 0) := Lib.hid (by have h2 := HI.out; simpa using h2)
            clear hX
            go_wp2_with fail
            refine (cC _).mono ?_
            rintro e w' ⟨rfl, rfl⟩
            go_wp2_with fail
            refine (cI _).mono ?_
            rintro e w' ⟨rfl, rfl⟩
            go_wp2_with fail
            refine (cN _).mono ?_
            rintro e w4 ⟨rfl, m4, rfl⟩
            go_wp2
            refine bodyPost_ret (results_cell_three rfl _ _ w.heap.size _ _ (0, 0) _ rfl (Rc.four (HRC.out.below (below_drewN' (Below.refl _ _) m4)) _ _ _ _) Tryz.underlying63 rfl (by kernel_rfl)) rfl ?_
            obtain ⟨k1, k2, k3⟩ := HR.out.fin HE.out
            obtain ⟨n', hn'⟩ := dig_some (b := true) (v := -(u : Int)) (by rw [k2]; exact HI0.out) (by have h1 := HPF.out; omega) (by rw [k3]; exact hu) (by rw [k3]; rfl)
            have hn2 := digT_n hn'
            exact rt_some (HANS.out.symm.trans hn') HX.out.symm (by rw [hn2, k1]; simp; omega) (below_four (below_drewN' HBN.out m4) (Nat.le_refl _) _ _ _ _)
          · go_wp2_with (first
              | (go_at_call 62; refine (cC _).mono ?_; rintro e w' ⟨rfl, rfl⟩)
              | (go_at_call 172; refine (cI _).mono ?_; rintro e w' ⟨rfl, rfl⟩))
            refine bodyPost_ret (results_cell_three rfl _ _ w.heap.size _ _ (0, 0) _ rfl (Rc.four HRC.out _ _ _ _) Tryz.underlying63 rfl (by kernel_rfl)) rfl ?_
            exact rt_none (HANS.out.symm.trans (dig_none1 (by rw [(HR.out.fin HE.out).2.1]; have h2 := HI.out; simp at h2; omega))) (below_four HBN.out (Nat.le_refl _) _ _ _ _)
    · have hz : ¬ (p : Int) < (n : Int) := by omega
      have hdr : l.drop p = [] := List.drop_eq_nil_of_le (by rw [HN.out]; omega)
      have HE : Hid (cnt dig (l.drop p) = 0) := Lib.hid (by rw [hdr]; rfl)
      have HI : Hid (cnt inr (l.drop p) = 0) := Lib.hid (by rw [hdr]; rfl)
      clear hdr
      by_cases hpf : p = i + 1
      · have hpz : ((p : Int) == (i : Int) + 1) = true := by rw [beq_iff_eq]; omega
        have HPF := Lib.hid hpf
        clear hpf
        go_wp2
        refine bodyPost_ret (results_cell_three rfl _ _ w.heap.size _ _ (0, 0) _ rfl (Rc.four HRC.out _ _ _ _) Tryz.underlying63 rfl (by kernel_rfl)) rfl ?_
        exact rt_none (HANS.out.symm.trans (dig_none2 (by have h1 := (HR.out.fin HE.out).1; have h2 := HPF.out; omega))) (below_four HBN.out (Nat.le_refl _) _ _ _ _)
      · have hpz : ((p : Int) == (i : Int) + 1) = false := by rw [beq_eq_false_iff_ne]; omega
        have HPF := Lib.hid hpf
        clear hpf
        have cN := fun W => refNumber (-(u : Int)).natAbs (-(u : Int)) (Nat.le_refl _) (by omega) (by omega) W
        obtain ⟨X, hX⟩ : ∃ X, T (numb (-(u : Int))) = X := ⟨_, rfl⟩
        rw [hX] at cN
        have HX := Lib.hid hX
        have HI0 := HI
        clear hX
        go_wp2_with fail
        refine (cN _).mono ?_
        rintro e w4 ⟨rfl, m4, rfl⟩
        go_wp2
        refine bodyPost_ret (results_cell_three rfl _ _ w.heap.size _ _ (0, 0) _ rfl (Rc.four (HRC.out.below (below_drewN' (Below.refl _ _) m4)) _ _ _ _) Tryz.underlying63 rfl (by kernel_rfl)) rfl ?_
        obtain ⟨k1, k2, k3⟩ := HR.out.fin HE.out
        obtain ⟨n', hn'⟩ := dig_some (b := true) (v := -(u : Int)) (by rw [k2]; exact HI0.out) (by have h1 := HPF.out; omega) (by rw [k3]; exact hu) (by rw [k3]; rfl)
        have hn2 := digT_n hn'
        exact rt_some (HANS.out.symm.trans hn') HX.out.symm (by rw [hn2, k1]; simp; omega) (below_four (below_drewN' HBN.out m4) (Nat.le_refl _) _ _ _ _)

set_option maxHeartbeats 6400000 in
set_option maxRecDepth 100000 in
theorem numPos (v : Value) (l : List Nat) (B i : Nat) (w : World) (h : Sl w B v l) (hB : B ≤ w.heap.size) (hl : l.length ≤ 1000000) (r0 : Nat) (hr0 : l[i]? = some r0) (h126 : r0 ≠ 126) :
    Calls Tryz.prog 102 #[v, .int .i64 (i : Int)] w (RT (digT false (l.drop (i))) i w) := by
  have hmap : True := trivial
  
  clear hmap
  obtain ⟨A, c, rfl, hlc, hA⟩ := h
  have hA0 : ∀ (j u : Nat), l[j]? = some u → ∃ ad, A = some ad ∧ (w.alloc (.cells #[.int .i64 0, .string ⟨#[]⟩, .int .i64 0, .int .i64 0] 63)).cell? (ad.add j) = some (.int .i32 (u : Int)) := fun j u hu => by
    obtain ⟨ad, h1, h2, h3⟩ := hA j u hu
    exact ⟨ad, h1, by rw [World.cell?_alloc_lt w _ _ (by rw [addBlock]; omega)]; exact h3⟩
  have HA := Lib.hid hA0
  have hbn : Below w.heap.size w (w.alloc (.cells #[.int .i64 0, .string ⟨#[]⟩, .int .i64 0, .int .i64 0] 63)) := (Below.refl _ _).alloc (Nat.le_refl _) _
  have hrc := Rc.new_ w
  have hi : i < l.length := (List.getElem?_eq_some_iff.1 hr0).1
  obtain ⟨ad, rfl, hc0⟩ := hA0 i r0 hr0
  obtain ⟨a2, ha2, hbl, _⟩ := hA i r0 hr0
  injection ha2 with ha2
  subst ha2
  have e126 : ((r0 : Int) == 126) = false := by rw [beq_eq_false_iff_ne]; omega
  have hst : NumRel l (i) (i) 0 := NumRel.start (by omega)
  obtain ⟨n, hn⟩ : ∃ n, l.length = n := ⟨_, rfl⟩
  rw [hn] at hl hlc hi ⊢
  have HN := Lib.hid hn
  obtain ⟨ANS, hans⟩ : ∃ s, digT false (l.drop (i)) = s := ⟨_, rfl⟩
  rw [hans]
  have HANS := Lib.hid hans
  have HST := Lib.hid hst
  have hblk : (ad.add i).block < w.heap.size := by rw [addBlock]; omega
  have hc0' : w.cell? (ad.add i) = some (.int .i32 (r0 : Int)) := by rw [← World.cell?_alloc_lt w (.cells #[.int .i64 0, .string ⟨#[]⟩, .int .i64 0, .int .i64 0] 63) _ hblk]; exact hc0
  clear hA hA0 hn hans hst hr0 h126 hc0
  go_enter Tryz.func102, Tryz.ntmps102
  go_wp2
  have HRC := Lib.hid hrc
  have HBN := Lib.hid hbn
  clear hrc hbn
  generalize w.alloc (.cells #[.int .i64 0, .string ⟨#[]⟩, .int .i64 0, .int .i64 0] 63) = W0 at HA HRC HBN ⊢
  go_loopw [7, 9] (fun x y wr => ∃ (p u : Nat), x = .int .i64 p ∧ y = .int .i64 u ∧ p ≤ n ∧ u ≤ 1073741824 ∧ wr = W0 ∧ NumRel l (i) p u) (fun x _ _ => n - (intOf x).toNat)
  case atStart => exact ⟨i, 0, by first | rfl | go_num, rfl, by omega, by omega, rfl, HST.out⟩
  case round =>
    obtain ⟨p, u, rfl, rfl, hp, hu, rfl, hrel⟩ := hrel
    have HR := Lib.hid hrel
    have hlo := hrel.lo
    clear hrel
    obtain ⟨⟨q0, q1, q2, q3⟩, f0, f1, f2, f3⟩ := HRC.out.cells
    by_cases hlt : p < n
    · obtain ⟨r, hr⟩ : ∃ r, l[p]? = some r := ⟨_, List.getElem?_eq_getElem (by rw [HN.out]; exact hlt)⟩
      obtain ⟨a3, ha3, hcell⟩ := HA.out p r hr
      injection ha3 with ha3
      subst ha3
      have hz : (p : Int) < (n : Int) := by omega
      have HRR := Lib.hid hr
      have cC := fun W => refClass (r : Int) W
      by_cases hd : dig r = true
      · have hrg := (dig_is r).1 hd
        have hk : cls (r : Int) = 2 := by rw [dig_cls, decide_eq_true_iff] at hd; exact hd
        rw [hk] at cC
        have HD := Lib.hid hd
        clear hd hr hk
        by_cases hbig : 1073741824 < 10 * u + (r - 48)
        · have hbz : (1073741824 : Int) < 10 * (u : Int) + (r : Int) - 48 := by omega
          have HB := Lib.hid hbig
          clear hbig
          go_wp2_with (go_at_call 62; refine (cC _).mono ?_; rintro e w' ⟨rfl, rfl⟩)
          refine bodyPost_ret (results_cell_three rfl _ _ w.heap.size _ _ (0, 0) _ rfl (Rc.four HRC.out _ _ _ _) Tryz.underlying63 rfl (by kernel_rfl)) rfl ?_
          exact rt_none (HANS.out.symm.trans (HR.out.big HRR.out HD.out HB.out)) (below_four HBN.out (Nat.le_refl _) _ _ _ _)
        · have hbz : ¬ (1073741824 : Int) < 10 * (u : Int) + (r : Int) - 48 := by omega
          have hle : 10 * u + (r - 48) ≤ 1073741824 := by omega
          clear hbig
          go_wp2_with (go_at_call 62; refine (cC _).mono ?_; rintro e w' ⟨rfl, rfl⟩)
          go_roundw
          case rel => exact ⟨p + 1, 10 * u + (r - 48), by go_num, i64_eq (by omega), by omega, hle, by trivial, HR.out.next HRR.out HD.out⟩
          case measure => simp [intOf]; omega
      · have hd' : dig r = false := by simpa using hd
        have hk : cls (r : Int) ≠ 2 := by rw [dig_cls, decide_eq_false_iff_not] at hd'; exact hd'
        have HE := Lib.hid (cnt_zero hr hd')
        obtain ⟨k, hkk⟩ : ∃ k, cls (r : Int) = k := ⟨_, rfl⟩
        rw [hkk] at cC hk
        have hk2 : (k == 2) = false := by rw [beq_eq_false_iff_ne]; exact hk
        have cI := fun W => inner_any r W
        obtain ⟨b, hb⟩ : ∃ b, inr r = b := ⟨_, rfl⟩
        rw [hb] at cI
        have HI := Lib.hid (cnt_at (f := inr) hr)
        rw [hb] at HI
        clear hd hd' hk hkk hr hb
        by_cases hpf : p = i
        · have hpz : ((p : Int) == (i : Int)) = true := by rw [beq_iff_eq]; omega
          have HPF := Lib.hid hpf
          clear hpf
          go_wp2_with (go_at_call 62; refine (cC _).mono ?_; rintro e w' ⟨rfl, rfl⟩)
          refine bodyPost_ret (results_cell_three rfl _ _ w.heap.size _ _ (0, 0) _ rfl (Rc.four HRC.out _ _ _ _) Tryz.underlying63 rfl (by kernel_rfl)) rfl ?_
          exact rt_none (HANS.out.symm.trans (dig_none2 (by have h1 := (HR.out.fin HE.out).1; have h2 := HPF.out; omega))) (below_four HBN.out (Nat.le_refl _) _ _ _ _)
        · have hpz : ((p : Int) == (i : Int)) = false := by rw [beq_eq_false_iff_ne]; omega
          have HPF := Lib.hid hpf
          clear hpf
          cases b
          · have cN := fun W => refNumber ((u : Int)).natAbs ((u : Int)) (Nat.le_refl _) (by omega) (by omega) W
            obtain ⟨X, hX⟩ : ∃ X, T (numb ((u : Int))) = X := ⟨_, rfl⟩
            rw [hX] at cN
            have HX := Lib.hid hX
            have HI0 : Hid (cnt inr (l.drop p) = 0) := Lib.hid (by have h2 := HI.out; simpa using h2)
            clear hX
            go_wp2_with fail
            refine (cC _).mono ?_
            rintro e w' ⟨rfl, rfl⟩
            go_wp2_with fail
            refine (cI _).mono ?_
            rintro e w' ⟨rfl, rfl⟩
            go_wp2_with fail
            refine (cN _).mono ?_
            rintro e w4 ⟨rfl, m4, rfl⟩
            go_wp2
            refine bodyPost_ret (results_cell_three rfl _ _ w.heap.size _ _ (0, 0) _ rfl (Rc.four (HRC.out.below (below_drewN' (Below.refl _ _) m4)) _ _ _ _) Tryz.underlying63 rfl (by kernel_rfl)) rfl ?_
            obtain ⟨k1, k2, k3⟩ := HR.out.fin HE.out
            obtain ⟨n', hn'⟩ := dig_some (b := false) (v := (u : Int)) (by rw [k2]; exact HI0.out) (by have h1 := HPF.out; omega) (by rw [k3]; exact hu) (by rw [k3]; rfl)
            have hn2 := digT_n hn'
            exact rt_some (HANS.out.symm.trans hn') HX.out.symm (by rw [hn2, k1]; simp; omega) (below_four (below_drewN' HBN.out m4) (Nat.le_refl _) _ _ _ _)
          · go_wp2_with (first
              | (go_at_call 62; refine (cC _).mono ?_; rintro e w' ⟨rfl, rfl⟩)
              | (go_at_call 172; refine (cI _).mono ?_; rintro e w' ⟨rfl, rfl⟩))
            refine bodyPost_ret (results_cell_three rfl _ _ w.heap.size _ _ (0, 0) _ rfl (Rc.four HRC.out _ _ _ _) Tryz.underlying63 rfl (by kernel_rfl)) rfl ?_
            exact rt_none (HANS.out.symm.trans (dig_none1 (by rw [(HR.out.fin HE.out).2.1]; have h2 := HI.out; simp at h2; omega))) (below_four HBN.out (Nat.le_refl _) _ _ _ _)
    · have hz : ¬ (p : Int) < (n : Int) := by omega
      have hdr : l.drop p = [] := List.drop_eq_nil_of_le (by rw [HN.out]; omega)
      have HE : Hid (cnt dig (l.drop p) = 0) := Lib.hid (by rw [hdr]; rfl)
      have HI : Hid (cnt inr (l.drop p) = 0) := Lib.hid (by rw [hdr]; rfl)
      clear hdr
      by_cases hpf : p = i
      · have hpz : ((p : Int) == (i : Int)) = true := by rw [beq_iff_eq]; omega
        have HPF := Lib.hid hpf
        clear hpf
        go_wp2
        refine bodyPost_ret (results_cell_three rfl _ _ w.heap.size _ _ (0, 0) _ rfl (Rc.four HRC.out _ _ _ _) Tryz.underlying63 rfl (by kernel_rfl)) rfl ?_
        exact rt_none (HANS.out.symm.trans (dig_none2 (by have h1 := (HR.out.fin HE.out).1; have h2 := HPF.out; omega))) (below_four HBN.out (Nat.le_refl _) _ _ _ _)
      · have hpz : ((p : Int) == (i : Int)) = false := by rw [beq_eq_false_iff_ne]; omega
        have HPF := Lib.hid hpf
        clear hpf
        have cN := fun W => refNumber ((u : Int)).natAbs ((u : Int)) (Nat.le_refl _) (by omega) (by omega) W
        obtain ⟨X, hX⟩ : ∃ X, T (numb ((u : Int))) = X := ⟨_, rfl⟩
        rw [hX] at cN
        have HX := Lib.hid hX
        have HI0 := HI
        clear hX
        go_wp2_with fail
        refine (cN _).mono ?_
        rintro e w4 ⟨rfl, m4, rfl⟩
        go_wp2
        refine bodyPost_ret (results_cell_three rfl _ _ w.heap.size _ _ (0, 0) _ rfl (Rc.four (HRC.out.below (below_drewN' (Below.refl _ _) m4)) _ _ _ _) Tryz.underlying63 rfl (by kernel_rfl)) rfl ?_
        obtain ⟨k1, k2, k3⟩ := HR.out.fin HE.out
        obtain ⟨n', hn'⟩ := dig_some (b := false) (v := (u : Int)) (by rw [k2]; exact HI0.out) (by have h1 := HPF.out; omega) (by rw [k3]; exact hu) (by rw [k3]; rfl)
        have hn2 := digT_n hn'
        exact rt_some (HANS.out.symm.trans hn') HX.out.symm (by rw [hn2, k1]; simp; omega) (below_four (below_drewN' HBN.out m4) (Nat.le_refl _) _ _ _ _)
end Go.Proofs.YthonaeigacfmbaaGreatDoor.B
namespace Go.Proofs.YthonaeigacfmbaaGreatDoor.B
open Go.RowKit

theorem number_ref (v : Value) (l : List Nat) (B i : Nat) (w : World) (h : Sl w B v l) (hB : B ≤ w.heap.size) (hl : l.length ≤ 1000000) (hi : i < l.length) :
    Calls Tryz.prog 102 #[v, .int .i64 (i : Int)] w (RT (numT (l.drop i)) i w) := by
  obtain ⟨r0, hr0⟩ : ∃ r, l[i]? = some r := ⟨_, List.getElem?_eq_getElem hi⟩
  by_cases h126 : r0 = 126
  · have e : numT (l.drop i) = digT true (l.drop (i + 1)) := by rw [drop_succ hr0, h126]; rfl
    have k := numNeg v l B i w h hB hl r0 hr0 h126
    rw [e]
    have hm : ((digT true (l.drop (i + 1))).map fun x => (x.1, x.2)) = digT true (l.drop (i + 1)) := by cases digT true (l.drop (i + 1)) <;> rfl
    rw [hm] at k
    exact k
  · have e : numT (l.drop i) = digT false (l.drop i) := numT_other fun d hd => h126 (by rw [drop_succ hr0] at hd; injection hd)
    rw [e]
    exact numPos v l B i w h hB hl r0 hr0 h126

/-! ### pieces behind dots -/
theorem spl_dot (x z : List Nat) : spl (x ++ 46 :: z) = spl x ++ spl z := by
  induction x with
  | nil => show spl (46 :: z) = [[]] ++ spl z; rw [spl, if_pos rfl]; rfl
  | cons a t ih =>
    by_cases ha : a = 46
    · subst ha
      show spl (46 :: (t ++ 46 :: z)) = _
      rw [spl, if_pos rfl, ih]
      conv => rhs; rw [spl, if_pos rfl]
      rfl
    · show spl (a :: (t ++ 46 :: z)) = _
      rw [spl_ne ha, ih, spl_ne ha]
      cases hs : spl t with
      | nil => have := (spl_len t).1; rw [hs] at this; simp at this
      | cons p q => rfl
theorem inr46 {r : Nat} (h : inr r = true) : r ≠ 46 := by
  rintro rfl
  exact absurd h (by decide)
theorem inr_no46 {x : List Nat} (h : ∀ r ∈ x, inr r = true) : 46 ∉ x := fun hm => inr46 (h 46 hm) rfl
theorem words_no46 : ∀ x ∈ WORDS, 46 ∉ x := by decide
theorem words_ascii : ∀ x ∈ WORDS, ∀ r ∈ x, r < 128 := by decide
theorem wrd_dot {x : List Nat} (ho : okl x) (h : 46 ∈ x) : wrd (T x) = false := by
  unfold wrd
  rw [List.any_eq_false]
  intro y hy
  rw [decide_eq_true_iff]
  intro e
  have := T_inj ho (ok_ascii (words_ascii y hy)) e
  subst this
  exact words_no46 x hy h
structure NamRel (d : List Nat) (k : Nat) (b : Bool) : Prop where
  le : k ≤ d.length
  ps : (spl (d.take k)).all pcs = b
  cn : k + lrest (d.drop k) = cnt lng d
theorem nam_start {d : List Nat} {b : Bool} (hb : pcs (d.take (cnt inr d)) = b) : NamRel d (cnt inr d) b := by
  refine ⟨cnt_le _ _, ?_, ?_⟩
  · rw [spl_none (inr_no46 (cnt_take d))]
    simpa using hb
  · rw [cnt_lng d]; rfl
theorem nam_next {d t : List Nat} {k : Nat} (h : NamRel d k true) (ht : d.drop k = 46 :: t) {b : Bool} (hb : pcs (t.take (cnt inr t)) = b) : NamRel d (k + 1 + cnt inr t) b := by
  have hle := h.le
  have hl : (d.drop k).length = t.length + 1 := by rw [ht]; simp
  rw [List.length_drop] at hl
  have hc := cnt_le inr t
  have htk : d.take (k + 1 + cnt inr t) = d.take k ++ 46 :: t.take (cnt inr t) := by
    rw [Nat.add_assoc, List.take_add, ht, Nat.add_comm 1, List.take_succ_cons]
  refine ⟨by omega, ?_, ?_⟩
  · rw [htk, spl_dot, List.all_append, h.ps, Bool.true_and, spl_none (inr_no46 (cnt_take t))]
    simpa using hb
  · have h1 := h.cn
    rw [ht, lrest_dot] at h1
    have h2 : d.drop (k + 1 + cnt inr t) = t.drop (cnt inr t) := by
      rw [Nat.add_assoc, ← List.drop_drop, ht, Nat.add_comm 1]
      rfl
    rw [h2]
    omega
theorem nam_off {d : List Nat} {k : Nat} (h : NamRel d k false) (hw : wrd (T (d.take (cnt lng d))) = false) : nameT d = none := by
  unfold nameT
  rw [if_neg (by rw [hw]; simp), if_neg]
  intro hl
  unfold isLong at hl
  rw [Bool.and_eq_true] at hl
  have h1 := h.ps
  have hall := hl.2
  have hcn := h.cn
  have hle := h.le
  have hlc := cnt_le lng d
  have e : d.take (cnt lng d) = d.take k ++ (d.drop k).take (lrest (d.drop k)) := by rw [← hcn, List.take_add]
  rw [e] at hall
  have hpc : (fun y => !wrd (T y) && nm (T y)) = pcs := rfl
  rw [hpc] at hall
  cases hd : d.drop k with
  | nil => rw [hd] at hall; simp at hall; rw [List.all_eq_false] at h1; obtain ⟨y, hy, hp⟩ := h1; exact hp (hall y hy)
  | cons r t =>
    by_cases hr : r = 46
    · subst hr
      rw [hd] at hall
      have e2 : (46 :: t).take (lrest (46 :: t)) = 46 :: t.take (cnt lng t) := by
        show (46 :: t).take (1 + cnt lng t) = _
        rw [Nat.add_comm, List.take_succ_cons]
      rw [e2, spl_dot, List.all_append, Bool.and_eq_true] at hall
      rw [h1] at hall
      exact absurd hall.1 (by simp)
    · rw [hd] at hall
      have e2 : lrest (r :: t) = 0 := lrest_no (by
        cases hb : List.isPrefixOf [46] (r :: t)
        · rfl
        · obtain ⟨u, hu⟩ := List.isPrefixOf_iff_prefix.1 hb
          injection hu with h3 h4
          exact absurd h3.symm hr)
      rw [e2] at hall
      simp at hall
      rw [List.all_eq_false] at h1
      obtain ⟨y, hy, hp⟩ := h1
      exact hp (hall y hy)
end Go.Proofs.YthonaeigacfmbaaGreatDoor.B
