/-
  Layer 12, the program's side: scopes: a list of kinds ahead of another scope's; what is asked of them; star.
-/
import Derived.Test.YtmiicfdigkkbdaaDoorGt34
namespace Go.Proofs.YtmiicfdigkkbdaaDoor
open Go.RowKit

inductive Sc (w : World) : Value → List Tr → Prop
  | nil : Sc w (.pointer none) []
  | cons {b : Nat} {kv rv : Value} {c1 c2 : List Tr} : w.heap[b]? = some (.cells #[kv, rv] 89 (0, 0)) → Cx w kv c1 → (∀ a, rv = .pointer (some a) → a.block < b) → Sc w rv c2 → Sc w (.pointer (some ⟨b, 0, none⟩)) (c1 ++ c2)
theorem Sc.up {W w : World} {v : Value} {c : List Tr} (h : Sc W v c) (u : Up W w) : Sc w v c := by
  induction h with
  | nil => exact .nil
  | cons h1 h2 h3 _ ih => exact .cons (u.row h1) (h2.up u) h3 ih
theorem Sc.ptr {w : World} {v : Value} {c : List Tr} (h : Sc w v c) : ∃ oa, v = .pointer oa ∧ ∀ a, oa = some a → a.block < w.heap.size := by
  cases h with
  | nil => exact ⟨none, rfl, fun a h => nomatch h⟩
  | cons h1 _ _ _ => exact ⟨_, rfl, fun a h => by injection h with h; rw [← h]; exact heap_lt h1⟩
def KxQ (R : Kx) (W : World) (e : Ending) (w' : World) : Prop := (∀ z, R = .error z → e = .returned (.tuple #[.pointer none, .int .i64 ((z + 1 : Nat) : Int)])) ∧ (∀ t, R = .ok t → ∃ v, e = .returned (.tuple #[v, .int .i64 0]) ∧ HasT w' v (some t)) ∧ Up W w'
theorem kxq_err {R : Kx} {z : Nat} {y : Int} {W w' : World} (h : R = .error z) (hy : y = ((z + 1 : Nat) : Int)) (u : Up W w') : KxQ R W (.returned (.tuple #[.pointer none, .int .i64 y])) w' := ⟨fun z' h' => by rw [h] at h'; injection h' with h'; rw [hy, h'], (fun t h' => by rw [h] at h'; cases h'), u⟩
theorem kxq_ok {R : Kx} {t : Tr} {v : Value} {W w' : World} (h : R = .ok t) (hv : HasT w' v (some t)) (u : Up W w') : KxQ R W (.returned (.tuple #[v, .int .i64 0])) w' := ⟨(fun z h' => by rw [h] at h'; cases h'), (fun s hs => by rw [h] at hs; injection hs with hs; rw [← hs]; exact ⟨v, rfl, hv⟩), u⟩
theorem KxQ.up {R : Kx} {W w w' : World} {e : Ending} (h : KxQ R w e w') (u : Up W w) : KxQ R W e w' := ⟨h.1, h.2.1, u.trans h.2.2⟩
theorem KxQ.two {R : Kx} {f : FuncId} {args : Array Value} {w : World} (h : Calls Tryd.prog f args w (KxQ R w)) : (∀ e, R = .error e → Calls Tryd.prog f args w fun en w' => en = .returned (.tuple #[.pointer none, .int .i64 ((e + 1 : Nat) : Int)]) ∧ Up w w') ∧ (∀ t, R = .ok t → Calls Tryd.prog f args w fun en w' => ∃ v, en = .returned (.tuple #[v, .int .i64 0]) ∧ HasT w' v (some t) ∧ Up w w') :=
  ⟨fun e he => h.mono fun _ _ k => ⟨k.1 e he, k.2.2⟩, fun t ht => h.mono fun _ _ k => by obtain ⟨v, h1, h2⟩ := k.2.1 t ht; exact ⟨v, h1, h2, k.2.2⟩⟩
theorem KxQ.one {R : Kx} {f : FuncId} {args : Array Value} {w : World} (h : Calls Tryd.prog f args w (KxQ R w)) : Calls Tryd.prog f args w fun en w' => ∃ oq y, en = .returned (.tuple #[.pointer oq, .int .i64 y]) ∧ KxQ R w (.returned (.tuple #[.pointer oq, .int .i64 y])) w' :=
  h.mono fun en w' k => by
    cases R with
    | error z =>
      have h1 := k.1 z rfl
      subst h1
      exact ⟨_, _, rfl, k⟩
    | ok t =>
      obtain ⟨v, h1, h2⟩ := k.2.1 t rfl
      subst h1
      obtain ⟨q, p, rfl⟩ := InT.ptr (t := t) h2
      exact ⟨_, _, rfl, k⟩
set_option maxHeartbeats 3200000 in
set_option maxRecDepth 100000 in
theorem pStar0 {w : World} : Calls Tryd.prog 51 #[] w fun e w' => ∃ b, e = .returned (.pointer (some ⟨b, 0, none⟩)) ∧ HasT w' (.pointer (some ⟨b, 0, none⟩)) (some starT) ∧ Up w w' := by
  go_enter Tryd.func51, Tryd.ntmps51
  go_wp2_with fail
  go_ret
  exact ⟨_, rfl, leaf_has 100, (Up.refl _).alloc _⟩
theorem cx_one {w : World} {b : Nat} {v : Value} {k : Tr} (hb : w.heap[b]? = some (.cells #[v] 25 (0, 0))) (hv : HasT w v (some k)) : Cx w (.slice (some ⟨b, 0, none⟩) 1 1) [k] :=
  .inr ⟨b, 0, 1, rfl, Nat.le_refl _, heap_lt hb, fun j t ht => by
    cases j with
    | zero => injection ht with ht; rw [← ht]; exact ⟨v, cell_of_row w b 0 _ _ _ hb, hv⟩
    | succ j => simp at ht⟩
set_option maxHeartbeats 3200000 in
set_option maxRecDepth 100000 in
theorem pAhead {w : World} {rv kv : Value} {c1 c2 : List Tr} (hs : Sc w rv c2) (hk : Cx w kv c1) : Calls Tryd.prog 27 #[rv, kv] w fun e w' => ∃ b, e = .returned (.pointer (some ⟨b, 0, none⟩)) ∧ Sc w' (.pointer (some ⟨b, 0, none⟩)) (c1 ++ c2) ∧ Up w w' := by
  obtain ⟨oa, rfl, hlt⟩ := hs.ptr
  obtain ⟨A, n, rfl⟩ := hk.form
  have HS := Lib.hid hs
  have HK := Lib.hid hk
  have HL := Lib.hid hlt
  obtain ⟨N, hN⟩ : ∃ N, c1.length = N := ⟨_, rfl⟩
  rw [hN] at HK ⊢
  clear hs hk hlt hN
  go_enter Tryd.func27, Tryd.ntmps27
  go_wp2_with fail
  go_ret
  have u : Up w (w.alloc (.cells #[.slice A N n, .pointer oa] 89)) := (Up.refl _).alloc _
  exact ⟨_, rfl, .cons (heap_alloc_new w _) (HK.out.up u) (fun a h => by injection h with h; exact HL.out a h) (HS.out.up u), u⟩
def Qn (w : World) (v : Value) (mb : Nat) (sv : Value) : Prop := ∃ b1 b2, v = .func (.func 80) #[] #[.pointer (some ⟨b1, 0, none⟩), .pointer (some ⟨b2, 0, none⟩)] ∧ w.heap[b1]? = some (.cells #[.map (some mb)] 58 (0, 0)) ∧ w.heap[b2]? = some (.cells #[sv] 60 (0, 0))
theorem Qn.up {W w : World} {v sv : Value} {mb : Nat} (h : Qn W v mb sv) (u : Up W w) : Qn w v mb sv := by
  obtain ⟨b1, b2, h1, h2, h3⟩ := h
  exact ⟨b1, b2, h1, u.row h2, u.row h3⟩
set_option maxHeartbeats 3200000 in
set_option maxRecDepth 100000 in
theorem pIn {w : World} (mb : Nat) (oa : Option Addr) : Calls Tryd.prog 47 #[.agg #[.map (some mb)], .pointer oa] w fun e w' => ∃ v, e = .returned v ∧ Qn w' v mb (.pointer oa) ∧ Up w w' := by
  go_enter Tryd.func47, Tryd.ntmps47
  go_wp2_with fail
  go_ret
  refine ⟨_, rfl, ⟨w.heap.size, w.heap.size + 1, rfl, ?_, ?_⟩, ((Up.refl _).alloc _).alloc _⟩
  · exact block_alloc _ (heap_alloc_new w _)
  · have := heap_alloc_new (w.alloc (.cells #[.map (some mb)] 58)) (.cells #[.pointer oa] 60)
    simp only [World.size_alloc] at this
    exact this
end Go.Proofs.YtmiicfdigkkbdaaDoor
namespace Go.Proofs.YtmiicfdigkkbdaaDoor
open Go.RowKit

theorem sc_some (w : World) (a : Addr) : (binOp .neq 60 (.pointer (some a)) (.pointer none)).run Tryd.prog w = .ok (.bool true) w := by
  have h : ∀ d : Nat, (Op.equalIn (d + 1) 60 (.pointer (some a)) (.pointer none)).run Tryd.prog w = .ok false w := fun d => by simp [Op.equalIn, run_underlying Tryd.underlying60]
  simp only [binOp]
  simp [Op.equal, Op.maxDepth, h 9999]
theorem sc_none (w : World) : (binOp .neq 60 (.pointer none) (.pointer none)).run Tryd.prog w = .ok (.bool false) w := by
  have h : ∀ d : Nat, (Op.equalIn (d + 1) 60 (.pointer none) (.pointer none)).run Tryd.prog w = .ok true w := fun d => by simp [Op.equalIn, run_underlying Tryd.underlying60]
  simp only [binOp]
  simp [Op.equal, Op.maxDepth, h 9999]
theorem wrap_sub_nn (a b : Nat) (ha : a ≤ 1000000000) (hb : b ≤ a) : wrap64 ((a : Int) - (b : Int)) = ((a - b : Nat) : Int) := by unfold wrap64; omega
set_option maxHeartbeats 6400000 in
set_option maxRecDepth 100000 in
theorem pAt {w : World} {sv : Value} {c : List Tr} (hs : Sc w sv c) (i : Nat) (hi : i ≤ 1000000) : Calls Tryd.prog 45 #[sv, .int .i64 (i : Int)] w (KxQ (vaX c (i : Int)) w) := by
  obtain ⟨R, hR⟩ : ∃ R, vaX c (i : Int) = R := ⟨_, rfl⟩
  have HR : Hid (R = match c[i]? with
    | some t => .ok t
    | none => .error 7) := Lib.hid (by rw [← hR]; unfold vaX; rw [Int.toNat_natCast]; cases c[i]? <;> rfl)
  rw [hR]
  have HS := Lib.hid hs
  obtain ⟨oa, rfl, -⟩ := hs.ptr
  clear hs hR
  go_enter Tryd.func45, Tryd.ntmps45
  go_wp2_with fail
  go_loopw [0, 1] (fun sv iv wr => ∃ (c' : List Tr) (i' : Nat), Sc w sv c' ∧ iv = .int .i64 (i' : Int) ∧ i' ≤ i ∧ c'[i']? = c[i]? ∧ ∃ n, wr = w.drewN n) (fun sv _ _ => match sv with
    | .pointer (some a) => a.block + 1
    | _ => 0)
  case atStart => exact ⟨c, i, HS.out, rfl, Nat.le_refl _, rfl, 0, rfl⟩
  case round =>
    obtain ⟨c', i', hs', rfl, hi', hc', n, rfl⟩ := hrel
    cases hs' with
    | nil =>
      have hn := sc_none (w.drewN n)
      have HX : Hid (R = .error 7) := Lib.hid (by rw [HR.out, ← hc']; rfl)
      clear hc'
      go_wp2_with fail
      go_ret2
      exact kxq_err HX.out rfl ((Up.refl w).drewN n)
    | cons hb hk hlt hr =>
      rename_i b kv rv c1 c2
      have hn := sc_some (w.drewN n) ⟨b, 0, none⟩
      obtain ⟨A, m, rfl⟩ := hk.form
      obtain ⟨N, hN⟩ : ∃ N, c1.length = N := ⟨_, rfl⟩
      rw [hN] at hb hk
      have d0 : w.cell? ⟨b, 0, none⟩ = some (.slice A N m) := cell_of_row w b 0 _ _ _ hb
      have d1 : w.cell? ⟨b, 1, none⟩ = some rv := cell_of_row w b 1 _ _ _ hb
      by_cases hl : i' < N
      · obtain ⟨t, ht⟩ : ∃ t, c1[i']? = some t := ⟨_, List.getElem?_eq_getElem (by omega)⟩
        obtain ⟨ab, ao, u, rfl, hcell, hu⟩ := hk.at ht
        have hlz : (i' : Int) < (N : Int) := by omega
        have HX : Hid (R = .ok t) := Lib.hid (by rw [HR.out, ← hc', List.getElem?_append_left (by omega), ht])
        have HU := Lib.hid hu
        clear hc' hk hlt hr hb hN ht hu
        go_wp2_with fail
        go_ret2
        exact kxq_ok HX.out (HU.out.up ((Up.refl w).drewN _)) ((Up.refl w).drewN _)
      · have hlz : ¬ (i' : Int) < (N : Int) := by omega
        have hw := wrap_sub_nn i' N (by omega) (by omega)
        obtain ⟨oa, rfl, -⟩ := hr.ptr
        have HREL : Hid (Sc w (.pointer oa) c2 ∧ c2[i' - N]? = c[i]?) := Lib.hid ⟨hr, by rw [← hc', List.getElem?_append_right (by omega), hN]⟩
        have HLT := Lib.hid hlt
        clear hc' hk hlt hr hb hN
        go_wp2_with fail
        go_roundw
        case rel => exact ⟨c2, i' - N, HREL.out.1, congrArg (Value.int IntKind.i64) (by omega), by omega, HREL.out.2, by first | exact ⟨_, rfl⟩ | exact ⟨_, World.drewN_drewN _ _ _⟩⟩
        case measure =>
          cases oa with
          | none => exact Nat.succ_pos _
          | some a => exact Nat.succ_lt_succ (HLT.out a rfl)
end Go.Proofs.YtmiicfdigkkbdaaDoor
namespace Go.Proofs.YtmiicfdigkkbdaaDoor
open Go.RowKit

def Fm (t : Tr) : Prop := coT t = true ∨ ∃ m, fdT m t = true
structure Pl (w : World) (Sq : Nat → Prop) (es : Array MapEntry) (c : List Tr) (v : Value) (t : Tr) : Prop where
  inn : InT w Sq v t
  cov : CovT w (InK es) v t
  fm : Fm t
  ap : ApT c t
theorem Pl.up {W w : World} {Sq : Nat → Prop} {es : Array MapEntry} {c : List Tr} {v : Value} {t : Tr} (h : Pl W Sq es c v t) (hS : Bel Sq W.heap.size) (u : Up W w) : Pl w Sq es c v t :=
  ⟨h.inn.keep (fun _ h => h) fun b hb => u.block b (hS b hb), h.cov.keep h.inn fun b hb => u.block b (hS b hb), h.fm, h.ap⟩
structure Mp (w : World) (Sq : Nat → Prop) (mb : Nat) (es : Array MapEntry) : Prop where
  row : ∃ ck, w.heap[mb]? = some (.map es ck)
  kys : Kys w Sq es
theorem Mp.up {W w : World} {Sq : Nat → Prop} {mb : Nat} {es : Array MapEntry} (h : Mp W Sq mb es) (hS : Bel Sq W.heap.size) (u : Up W w) : Mp w Sq mb es := by
  obtain ⟨⟨ck, h1⟩, h2⟩ := h
  exact ⟨⟨ck, u.row h1⟩, h2.keep fun b hb => u.block b (hS b hb)⟩
theorem belU {Sq : Nat → Prop} {W w : World} (hS : Bel Sq W.heap.size) (u : Up W w) : Bel Sq w.heap.size := fun q hq => Nat.lt_of_lt_of_le (hS q hq) u.size
def KnAt (n : Nat) : Prop := ∀ (t : Tr), szT t ≤ n → ∀ (c : List Tr) (M : Nat), GoodC c M → ∀ (w : World) (Sq : Nat → Prop) (es : Array MapEntry) (mb : Nat) (sv v : Value), Bel Sq w.heap.size → Mp w Sq mb es → Sc w sv c → Pl w Sq es c v t →
  Calls Tryd.prog 26 #[.agg #[.map (some mb)], sv, v] w (KxQ (ofT true c t) w)
set_option maxHeartbeats 3200000 in
set_option maxRecDepth 100000 in
theorem pQn {n : Nat} (hk : KnAt n) (t : Tr) (hn : szT t ≤ n) {c : List Tr} {M : Nat} (hg : GoodC c M) {w : World} {Sq : Nat → Prop} {es : Array MapEntry} {mb : Nat} {sv v : Value} {b1 b2 : Nat} (hS : Bel Sq w.heap.size) (hm : Mp w Sq mb es) (hs : Sc w sv c) (hp : Pl w Sq es c v t)
    (h1 : w.heap[b1]? = some (.cells #[.map (some mb)] 58 (0, 0))) (h2 : w.heap[b2]? = some (.cells #[sv] 60 (0, 0))) :
    Calls Tryd.prog 80 #[v, .pointer (some ⟨b1, 0, none⟩), .pointer (some ⟨b2, 0, none⟩)] w (KxQ (ofT true c t) w) := by
  obtain ⟨q, p, rfl⟩ := hp.inn.ptr
  have c1 := cell_of_row w b1 0 _ _ _ h1
  have c2 := cell_of_row w b2 0 _ _ _ h2
  have cK := hk t hn c M hg w Sq es mb sv _ hS hm hs hp
  obtain ⟨oa, rfl, -⟩ := hs.ptr
  obtain ⟨R, hR⟩ : ∃ R, ofT true c t = R := ⟨_, rfl⟩
  rw [hR] at cK ⊢
  clear hk hg hS hm hs hp h1 h2 hR
  cases R with
  | error z =>
    have cK := (KxQ.two cK).1 z rfl
    go_enter Tryd.func80, Tryd.ntmps80
    go_wp2_with fail
    refine cK.mono ?_
    rintro e w1 ⟨rfl, u1⟩
    go_wp2_with fail
    go_ret2
    exact kxq_err rfl rfl u1
  | ok k =>
    have cK := (KxQ.two cK).2 k rfl
    go_enter Tryd.func80, Tryd.ntmps80
    go_wp2_with fail
    refine cK.mono ?_
    rintro e w1 ⟨v1, rfl, h1, u1⟩
    have H1 := Lib.hid h1
    clear h1 cK
    go_wp2_with fail
    go_ret2
    exact kxq_ok rfl H1.out u1
def Pts (n : Nat) (w : World) (Sq : Nat → Prop) (es : Array MapEntry) (c : List Tr) (A : Option Addr) (f : Fr) : Prop := ∀ (done : Fr) (y : Nod) (l r : Fr), f = done.app (.cons y l r) → ∃ kb ko u, A = some ⟨kb, ko, none⟩ ∧ w.cell? ⟨kb, ko + done.len, none⟩ = some u ∧ szT (y, l) ≤ n ∧ Pl w Sq es c u (y, l)
set_option maxHeartbeats 12800000 in
set_option maxRecDepth 100000 in
theorem pTypes {n : Nat} (hk : KnAt n) {c : List Tr} {M : Nat} (hg : GoodC c M) {w : World} {Sq : Nat → Prop} {es : Array MapEntry} {mb : Nat} {sv qv : Value} {A : Option Addr} {cap : Nat} {f : Fr} (hS : Bel Sq w.heap.size) (hm : Mp w Sq mb es) (hs : Sc w sv c) (hq : Qn w qv mb sv) (hp : Pts n w Sq es c A f) (hl : f.len ≤ 1000000) :
    Calls Tryd.prog 46 #[qv, .slice A f.len cap] w (KxQ (okS (musL (ofF true c f))) w) := by
  obtain ⟨b1, b2, rfl, hb1, hb2⟩ := hq
  obtain ⟨N, hN⟩ : ∃ N, f.len = N := ⟨_, rfl⟩
  obtain ⟨R, hR⟩ : ∃ R, okS (musL (ofF true c f)) = R := ⟨_, rfl⟩
  rw [hN] at hl ⊢
  rw [hR]
  have HK := Lib.hid hk
  have HG := Lib.hid hg
  have HS := Lib.hid hS
  have HM := Lib.hid hm
  have HSC := Lib.hid hs
  have HP := Lib.hid hp
  have HB := Lib.hid (⟨hb1, hb2⟩ : w.heap[b1]? = some (.cells #[.map (some mb)] 58 (0, 0)) ∧ w.heap[b2]? = some (.cells #[sv] 60 (0, 0)))
  have HNN := Lib.hid hN
  have HR := Lib.hid hR
  clear hk hg hS hm hs hp hb1 hb2 hN hR
  go_enter Tryd.func46, Tryd.ntmps46
  go_wp2_with fail
  go_loopw [6, 8, 9, 10, 13] (fun fv _ _ _ j wr => ∃ (k : Nat) (done rest : Fr) (b : Bool), j = .int .i64 k ∧ k = done.len ∧ f = done.app rest ∧ fv = .bool b ∧ musB true (ofF true c f) = musB b (ofF true c rest) ∧ Up w wr) (fun _ _ _ _ j _ => N - (intOf j).toNat)
  case atStart => exact ⟨0, .nil, f, true, rfl, rfl, rfl, rfl, rfl, Up.refl _⟩
  case round =>
    obtain ⟨k, done, rest, b, rfl, hk, hf, rfl, hmu, hu⟩ := hrel
    have hll : N = done.len + rest.len := by rw [← HNN.out, hf, Fr.len_app]
    have HF := Lib.hid hf
    have HMU := Lib.hid hmu
    have HU := Lib.hid hu
    have HKD := Lib.hid hk
    by_cases hlt : 0 < rest.len
    · obtain ⟨y, l, r, rfl⟩ := Fr.cut hlt
      obtain ⟨kb, ko, u, rfl, hcell, hsz, hpl⟩ := HP.out done y l r hf
      have hlr2 : (Fr.cons y l r).len = r.len + 1 := rfl
      have hkN : k < N := by omega
      have hkz : (k : Int) < (N : Int) := by omega
      have hcell := hu.cell hcell
      rw [← hk] at hcell
      obtain ⟨uq, up, rfl⟩ := hpl.inn.ptr
      have cQ := pQn HK.out (y, l) hsz HG.out (belU HS.out hu) (HM.out.up HS.out hu) (HSC.out.up hu) (hpl.up HS.out hu) (hu.row HB.out.1) (hu.row HB.out.2)
      obtain ⟨Q, hQ⟩ : ∃ Q, ofT true c (y, l) = Q := ⟨_, rfl⟩
      have HQ : Hid (musB true (ofF true c f) = musB b (Q :: ofF true c r)) := Lib.hid (by rw [HMU.out, ofF_c, hQ])
      rw [hQ] at cQ
      have HLEN : Hid (k + 1 = (done.app (.cons y l .nil)).len) := Lib.hid (by rw [Fr.len_app]; simp only [Fr.len]; omega)
      clear hpl hf hmu hu hk hll hlr2 hlt hQ hsz
      cases Q with
      | error z =>
        have cQ := (KxQ.two cQ).1 z rfl
        obtain ⟨Z, hZ⟩ : ∃ Z : Int, ((z + 1 : Nat) : Int) = Z := ⟨_, rfl⟩
        have h9 : (Z != 0) = true := by rw [bne_iff_ne]; omega
        have HX : Hid (R = .error z) := Lib.hid (by rw [← HR.out]; unfold musL; rw [HQ.out]; rfl)
        have HZ := Lib.hid hZ
        rw [hZ] at cQ
        clear hZ
        go_wp2_with fail
        refine cQ.mono ?_
        rintro e w1 ⟨rfl, u1⟩
        have U1 := Lib.hid (HU.out.trans u1)
        clear u1 cQ
        go_wp2_with fail
        go_ret2
        exact kxq_err HX.out HZ.out.symm U1.out
      | ok t =>
        have cQ := (KxQ.two cQ).2 t rfl
        have HX : Hid (musB true (ofF true c f) = musB (b && decide (t.1.k = 100)) (ofF true c r)) := Lib.hid HQ.out
        go_wp2_with fail
        refine cQ.mono ?_
        rintro e w1 ⟨v1, rfl, h1, u1⟩
        have h1 : InT w1 (fun q => q < w1.heap.size) v1 t := h1
        obtain ⟨q1, p1, A1, cc1, rfl, _, d0, _⟩ := InT.open (x := t.1) (ks := t.2) h1
        obtain ⟨K, hK⟩ : ∃ K, t.1.k = K := ⟨_, rfl⟩
        rw [hK] at d0 HX
        have U1 := Lib.hid (HU.out.trans u1)
        clear u1 cQ h1 hK
        cases b with
        | false =>
          go_wp2_with fail
          go_roundw
          case rel => exact ⟨k + 1, done.app (.cons y l .nil), r, false, by go_num, HLEN.out, by rw [HF.out, Fr.app_cons], rfl, HX.out, U1.out⟩
          case measure => simp [intOf]; omega
        | true =>
          by_cases h100 : K = 100
          · subst h100
            go_wp2_with fail
            go_roundw
            case rel => exact ⟨k + 1, done.app (.cons y l .nil), r, true, by go_num, HLEN.out, by rw [HF.out, Fr.app_cons], rfl, HX.out, U1.out⟩
            case measure => simp [intOf]; omega
          · have h9 : (K == 100) = false := by rw [beq_eq_false_iff_ne]; exact h100
            have HX2 : Hid (musB true (ofF true c f) = musB false (ofF true c r)) := Lib.hid (by rw [HX.out, decide_eq_false h100]; rfl)
            go_wp2_with fail
            go_roundw
            case rel => exact ⟨k + 1, done.app (.cons y l .nil), r, false, by go_num, HLEN.out, by rw [HF.out, Fr.app_cons], rfl, HX2.out, U1.out⟩
            case measure => simp [intOf]; omega
    · have h0 : rest = .nil := by
        cases rest with
        | nil => rfl
        | cons y l r => exact absurd (Nat.succ_pos _) hlt
      subst h0
      have hkz : ¬ (k : Int) < (N : Int) := by have : (Fr.nil).len = 0 := rfl; omega
      clear hf hmu hu hk hll hlt
      cases b with
      | false =>
        have HX : Hid (R = .error 9) := Lib.hid (by rw [← HR.out]; unfold musL; rw [HMU.out]; rfl)
        go_wp2_with fail
        go_ret2
        exact kxq_err HX.out rfl HU.out
      | true =>
        have HX : Hid (R = .ok starT) := Lib.hid (by rw [← HR.out]; unfold musL; rw [HMU.out]; rfl)
        go_wp2_with fail
        refine pStar0.mono ?_
        rintro e w1 ⟨b, rfl, h1, u1⟩
        have H1 := Lib.hid h1
        have U1 := Lib.hid (HU.out.trans u1)
        clear u1 h1
        go_wp2_with fail
        go_ret2
        exact kxq_ok HX.out H1.out U1.out
end Go.Proofs.YtmiicfdigkkbdaaDoor
namespace Go.Proofs.YtmiicfdigkkbdaaDoor
open Go.RowKit

set_option maxHeartbeats 6400000 in
set_option maxRecDepth 100000 in
theorem pFunction {n : Nat} (hk : KnAt n) (h t : Tr) (hn : szT t ≤ n) {c : List Tr} {M : Nat} (hg : GoodC c M) {w : World} {Sq : Nat → Prop} {es : Array MapEntry} {mb : Nat} {sv qv hv v : Value} (hS : Bel Sq w.heap.size) (hm : Mp w Sq mb es) (hs : Sc w sv c) (hq : Qn w qv mb sv) (hh : HasT w hv (some h)) (hp : Pl w Sq es c v t) :
    Calls Tryd.prog 48 #[qv, hv, v] w (KxQ (laX h (ofT true c t)) w) := by
  obtain ⟨b1, b2, rfl, hb1, hb2⟩ := hq
  have cQ := pQn hk t hn hg hS hm hs hp hb1 hb2
  obtain ⟨q1, p1, rfl⟩ := hp.inn.ptr
  obtain ⟨q2, p2, rfl⟩ := InT.ptr (t := h) hh
  obtain ⟨R, hR⟩ : ∃ R, ofT true c t = R := ⟨_, rfl⟩
  rw [hR] at cQ ⊢
  have HH := Lib.hid hh
  clear hk hg hS hm hs hp hb1 hb2 hR hh
  cases R with
  | error z =>
    have cQ := (KxQ.two cQ).1 z rfl
    obtain ⟨Z, hZ⟩ : ∃ Z : Int, ((z + 1 : Nat) : Int) = Z := ⟨_, rfl⟩
    have h9 : (Z != 0) = true := by rw [bne_iff_ne]; omega
    have HZ := Lib.hid hZ
    rw [hZ] at cQ
    clear hZ
    go_enter Tryd.func48, Tryd.ntmps48
    go_wp2_with fail
    refine cQ.mono ?_
    rintro e w1 ⟨rfl, u1⟩
    have U1 := Lib.hid u1
    clear u1 cQ
    go_wp2_with fail
    go_ret2
    exact kxq_err rfl HZ.out.symm U1.out
  | ok k =>
    have cQ := (KxQ.two cQ).2 k rfl
    go_enter Tryd.func48, Tryd.ntmps48
    go_wp2_with fail
    refine cQ.mono ?_
    rintro e w1 ⟨v1, rfl, h1, u1⟩
    have H1 := Lib.hid h1
    have U1 := Lib.hid u1
    obtain ⟨q3, p3, rfl⟩ := InT.ptr (t := k) h1
    clear h1 cQ u1
    go_wp2_with fail
    go_ret2
    have h3 := two_has 101 (HH.out.up U1.out) H1.out
    exact kxq_ok (t := karT h k) rfl h3 (Up.trans U1.out (by repeat (first | exact Up.refl _ | refine Up.alloc ?_ _)))
theorem apX_no {f : Tr} {b : Tr} (h : f.1.k ≠ 101) : apX (.ok f) (.ok b) = .error 9 := by
  unfold apX
  simp only
  rw [if_neg h]
theorem kar_two {f : Tr} (h : kdT f = true) (h1 : f.1.k = 101) : ∃ a ka y l, f.2 = .cons a ka (.cons y l .nil) ∧ ∀ b, apX (.ok f) (.ok b) = if eqTB (a, ka) b = true then .ok (y, l) else .error 9 := by
  have h0 := h
  unfold kdT at h
  rw [Bool.and_eq_true, if_neg (by omega)] at h
  have h2 := h.2
  simp only [Bool.and_eq_true, beq_iff_eq] at h2
  obtain ⟨a, ka, y, l, h3⟩ := Fr.two h2.2.1
  refine ⟨a, ka, y, l, h3, fun b => ?_⟩
  unfold apX
  simp only
  rw [if_pos h1, h3]
set_option maxHeartbeats 12800000 in
set_option maxRecDepth 100000 in
theorem pApplied {n : Nat} (hk : KnAt n) (t s : Tr) (hn : szT t ≤ n) (hn' : szT s ≤ n) {c : List Tr} {M : Nat} (hg : GoodC c M) {w : World} {Sq : Nat → Prop} {es : Array MapEntry} {mb : Nat} {sv qv v u : Value} (hS : Bel Sq w.heap.size) (hm : Mp w Sq mb es) (hs : Sc w sv c) (hq : Qn w qv mb sv) (hp : Pl w Sq es c v t) (hp' : Pl w Sq es c u s) (hco : coT t = true)
    (hap : ∀ q, ofT true c t = .ok q → szT q ≤ 65536) : Calls Tryd.prog 49 #[qv, v, u] w (KxQ (apX (ofT true c t) (ofT true c s)) w) := by
  obtain ⟨b1, b2, rfl, hb1, hb2⟩ := hq
  have cQ := pQn hk t hn hg hS hm hs hp hb1 hb2
  have cS := Lib.hid (fun (W : World) (hu : Up w W) => pQn hk s hn' hg (belU hS hu) (hm.up hS hu) (hs.up hu) (hp'.up hS hu) (hu.row hb1) (hu.row hb2))
  have hkd : ∀ q, ofT true c t = .ok q → kdT q = true := fun q h => (of_good (szT t) t (Nat.le_refl _) hco c M hg q h).1
  obtain ⟨q1, p1, rfl⟩ := hp.inn.ptr
  obtain ⟨q2, p2, rfl⟩ := hp'.inn.ptr
  obtain ⟨R, hR⟩ : ∃ R, ofT true c t = R := ⟨_, rfl⟩
  obtain ⟨Q, hQ⟩ : ∃ Q, ofT true c s = Q := ⟨_, rfl⟩
  rw [hR] at cQ hap hkd ⊢
  rw [hQ] at cS ⊢
  have HAP := Lib.hid hap
  have HKD := Lib.hid hkd
  clear hk hg hS hm hs hp hp' hb1 hb2 hR hQ hap hkd hco
  cases R with
  | error z =>
    have cQ := (KxQ.two cQ).1 z rfl
    obtain ⟨Z, hZ⟩ : ∃ Z : Int, ((z + 1 : Nat) : Int) = Z := ⟨_, rfl⟩
    have h9 : (Z != 0) = true := by rw [bne_iff_ne]; omega
    have HZ := Lib.hid hZ
    rw [hZ] at cQ
    clear hZ
    go_enter Tryd.func49, Tryd.ntmps49
    go_wp2_with fail
    refine cQ.mono ?_
    rintro e w1 ⟨rfl, u1⟩
    have U1 := Lib.hid u1
    clear u1 cQ
    go_wp2_with fail
    go_ret2
    exact kxq_err rfl HZ.out.symm U1.out
  | ok f =>
    have cQ := (KxQ.two cQ).2 f rfl
    have hfk := HKD.out f rfl
    have hfz := HAP.out f rfl
    have HFK := Lib.hid hfk
    have HFZ := Lib.hid hfz
    clear hfk hfz
    cases Q with
    | error z =>
      have CS := Lib.hid (fun W hu => (KxQ.two (cS.out W hu)).1 z rfl)
      obtain ⟨Z, hZ⟩ : ∃ Z : Int, ((z + 1 : Nat) : Int) = Z := ⟨_, rfl⟩
      have h9 : (Z != 0) = true := by rw [bne_iff_ne]; omega
      have HZ := Lib.hid hZ
      rw [hZ] at CS
      clear hZ cS
      go_enter Tryd.func49, Tryd.ntmps49
      go_wp2_with fail
      refine cQ.mono ?_
      rintro e w1 ⟨v1, rfl, h1, u1⟩
      have U1 := Lib.hid u1
      clear u1 cQ h1
      go_wp2_with fail
      refine (CS.out w1 U1.out).mono ?_
      rintro e w2 ⟨rfl, u2⟩
      have U2 := Lib.hid (U1.out.trans u2)
      clear u2
      go_wp2_with fail
      go_ret2
      exact kxq_err rfl HZ.out.symm U2.out
    | ok b =>
      have CS := Lib.hid (fun W hu => (KxQ.two (cS.out W hu)).2 b rfl)
      clear cS
      by_cases h101 : f.1.k = 101
      · obtain ⟨a, ka, y, l, hf2, hap⟩ := kar_two HFK.out h101
        have HX := Lib.hid (hap b)
        have HAZ : Hid (szO (some ((a, ka) : Tr)) ≤ 65536) := Lib.hid (by
          have h1 := HFZ.out
          have h2 : szT f = 1 + f.2.sz := rfl
          rw [hf2] at h2
          have h3 : (Fr.cons a ka (.cons y l .nil)).sz = 1 + ka.sz + (1 + l.sz + 0) := rfl
          show 1 + ka.sz ≤ 65536
          omega)
        obtain ⟨x, k⟩ := f
        have hf2 : k = .cons a ka (.cons y l .nil) := hf2
        subst hf2
        have h101 : x.k = 101 := h101
        obtain ⟨E, hE⟩ : ∃ E, eqTB (a, ka) b = E := ⟨_, rfl⟩
        have HE := Lib.hid hE
        rw [hE] at HX
        clear hap hE
        go_enter Tryd.func49, Tryd.ntmps49
        go_wp2_with fail
        refine cQ.mono ?_
        rintro e w1 ⟨v1, rfl, h1, u1⟩
        have H1 := Lib.hid h1
        have U1 := Lib.hid u1
        clear u1 cQ
        obtain ⟨q3, p3, rfl⟩ := InT.ptr (t := (x, _)) h1
        clear h1
        go_wp2_with fail
        refine (CS.out w1 U1.out).mono ?_
        rintro e w2 ⟨v2, rfl, h2, u2⟩
        have HB2 := Lib.hid h2
        have U2 := Lib.hid (U1.out.trans u2)
        obtain ⟨q4, p4, rfl⟩ := InT.ptr (t := b) h2
        have hin : InT w2 (fun q => q < w2.heap.size) (.pointer (some ⟨q3, p3, none⟩)) (x, .cons a ka (.cons y l .nil)) := HasT.up (o := some (x, .cons a ka (.cons y l .nil))) H1.out u2
        clear u2 h2
        obtain ⟨q5, p5, A5, c5, hv5, hq5, d0, _, _, _, d4, hc5, hkid⟩ := hin.open
        injection hv5 with hv5
        injection hv5 with hv5
        injection hv5 with e1 e2
        subst e1 e2
        rw [h101] at d0
        obtain ⟨kb, ko, va, rfl, hkb, e0, hua, hnx⟩ := hkid.next
        obtain ⟨kb', ko', vy, hAA, hkb', e1, huy, _⟩ := hnx.next
        injection hAA with hAA
        injection hAA with g1 g2
        subst g1 g2
        rw [Nat.add_zero] at e0
        have hl2 : (Fr.cons a ka (.cons y l .nil)).len = 2 := rfl
        rw [hl2] at d4 hc5
        have HUA : Hid (HasT w2 va (some (a, ka))) := Lib.hid hua
        have HUY : Hid (HasT w2 vy (some (y, l))) := Lib.hid huy
        obtain ⟨q6, p6, rfl⟩ := InT.ptr hua
        obtain ⟨q7, p7, rfl⟩ := InT.ptr huy
        have cE := uSame (some (a, ka)) (some b) HUA.out HB2.out HAZ.out E (by rw [← HE.out, eqTB_iff]; exact ⟨fun h => by rw [h], fun h => by injection h⟩) (Up.refl w2)
        clear hin hkid hnx hua huy hkb hkb' hq5
        cases E with
        | true =>
          have HR : Hid (apX (.ok (x, .cons a ka (.cons y l .nil))) (.ok b) = .ok (y, l)) := Lib.hid (by rw [HX.out, if_pos rfl])
          go_wp2_with fail
          refine cE.mono ?_
          rintro e w3 ⟨rfl, u3⟩
          have U3 := Lib.hid (U2.out.trans u3)
          have HY3 := Lib.hid (HUY.out.up u3)
          have d4 := u3.cell d4
          have e1 := u3.cell e1
          clear u3 cE
          go_wp2_with fail
          go_ret2
          exact kxq_ok HR.out HY3.out U3.out
        | false =>
          have HR : Hid (apX (.ok (x, .cons a ka (.cons y l .nil))) (.ok b) = .error 9) := Lib.hid (by rw [HX.out, if_neg (by decide)])
          go_wp2_with fail
          refine cE.mono ?_
          rintro e w3 ⟨rfl, u3⟩
          have U3 := Lib.hid (U2.out.trans u3)
          clear u3 cE
          go_wp2_with fail
          go_ret2
          exact kxq_err HR.out rfl U3.out
      · have HR := Lib.hid (apX_no (b := b) h101)
        obtain ⟨K, hK⟩ : ∃ K, f.1.k = K := ⟨_, rfl⟩
        rw [hK] at h101
        have h9 : (K != 101) = true := by rw [bne_iff_ne]; exact h101
        have HK := Lib.hid hK
        clear hK
        go_enter Tryd.func49, Tryd.ntmps49
        go_wp2_with fail
        refine cQ.mono ?_
        rintro e w1 ⟨v1, rfl, h1, u1⟩
        have H1 := Lib.hid h1
        have U1 := Lib.hid u1
        obtain ⟨q3, p3, rfl⟩ := InT.ptr (t := f) h1
        clear u1 cQ h1
        go_wp2_with fail
        refine (CS.out w1 U1.out).mono ?_
        rintro e w2 ⟨v2, rfl, h2, u2⟩
        have U2 := Lib.hid (U1.out.trans u2)
        have hin : InT w2 (fun q => q < w2.heap.size) (.pointer (some ⟨q3, p3, none⟩)) (f.1, f.2) := HasT.up (o := some f) H1.out u2
        obtain ⟨q4, p4, rfl⟩ := InT.ptr (t := b) h2
        obtain ⟨q5, p5, A5, c5, hv5, _, d0, _⟩ := hin.open
        injection hv5 with hv5
        injection hv5 with hv5
        injection hv5 with e1 e2
        subst e1 e2
        rw [HK.out] at d0
        clear u2 h2 hin
        go_wp2_with fail
        go_ret2
        exact kxq_err HR.out rfl U2.out
end Go.Proofs.YtmiicfdigkkbdaaDoor
