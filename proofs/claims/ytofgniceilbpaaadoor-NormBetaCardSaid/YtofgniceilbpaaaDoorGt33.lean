/-
  What every row of the seat of constructors wants: what its variables hold, out of the row's list; a world that holds them.
-/
import Derived.Test.YtofgniceilbpaaaDoorGt32
import Derived.Deep.DeepHandedRow
import Derived.Deep.DeepWitnessRowRef
import Derived.LaidLaws
import Derived.Lib.LaidIn
import Derived.Lib.LaidU8T
import Derived.MakeChecks
import Derived.OpenShut
import Derived.ProofKit
import Derived.SizedLaws
namespace Go.Proofs.YtofgniceilbpaaaDoor
open Go.ChangeShapes Go.WideShapes Go.ChangeAt Go.RowKit Go.Lib

theorem ownKnobNone : ownKnob Tryd.prog.godebug = none := by kernel_rfl
def laidL : List (String × DataW Unit) := [("math/bits.deBruijn32tab", Rows.laid_math_bits_deBruijn32tab), ("math/bits.deBruijn64tab", Rows.laid_math_bits_deBruijn64tab), ("internal/strconv.uint64pow10", Rows.laid_internal_strconv_uint64pow10)]
theorem pow_is : (Rows.laid_internal_strconv_uint64pow10 : DataW Unit) = Lib.tabData .u64 Lib.pow10Tab := by kernel_rfl
theorem reads_cells {w : World} {n : String} {d : DataW Unit} (h : VarReads Tryd.prog w n d) {g : Nat} {t : TypeId} (hg : Tryd.prog.globalNamed n = some g) (ht : (Tryd.prog.globals[g]?).map (·.type) = some t) :
    ∃ cs fuel p, w.var? Tryd.prog n = some cs ∧ (∃ e z, w.heap[g]? = some (.cells cs e z)) ∧ DataW.trod (fun _ => ()) Tryd.prog w 0 (fun _ => true) false fuel t cs.toList = some (d, p) := by
  obtain ⟨g', t', cs, fuel, p, h1, h2, h3, h4⟩ := h
  obtain rfl := Option.some.inj (hg.symm.trans h1)
  obtain rfl := Option.some.inj (ht.symm.trans h2)
  refine ⟨cs, fuel, p, h3, ?_, h4⟩
  unfold World.var? at h3
  rw [hg] at h3
  simp only [Option.bind_some] at h3
  split at h3
  · rename_i cs' e z he
    injection h3 with h3
    subst h3
    exact ⟨e, z, he⟩
  · cases h3
theorem pw_of {W : World} {l : List (String × DataW Unit)} (h : laidMetH Tryd.prog l W) (hl : l = laidL) : Pw W := by
  subst hl
  have h : laidMet Tryd.prog laidL W := h
  have h3 := Lib.laidMet.reads h (show ("internal/strconv.uint64pow10", Rows.laid_internal_strconv_uint64pow10) ∈ laidL by simp [laidL])
  rw [pow_is] at h3
  obtain ⟨cs, fuel, p, k1, _, k3⟩ := reads_cells h3 (g := 1) (t := 146) (by kernel_rfl) (by kernel_rfl)
  unfold Pw TabIs
  rw [k1, ← Lib.cells_of_tab (t := 146) (n := 20) (e := 139) (by kernel_rfl) (by kernel_rfl) (by kernel_rfl) (by kernel_rfl) k3]
def litV : DataW Unit → Value
  | .lit (.int k z) => .int k z
  | .lit (.string l) => .string ⟨l.toArray⟩
  | _ => undef
def rowV : DataW Unit → Array Value
  | .agg ds => (ds.map litV).toArray
  | _ => #[]
noncomputable def laidWorld (os : Os) : World :=
  let w0 := World.holding Tryd.prog os ⟨#[], #[], []⟩
  let put (h : Array Obj) (g : Nat) (cs : Array Value) : Array Obj := h.modify g fun
    | .cells _ t frozen => .cells cs t frozen
    | o => o
  let h3 := put w0.heap 1 (rowV Rows.laid_internal_strconv_uint64pow10)
  let h4 := put h3 2 (rowV Rows.laid_math_bits_deBruijn32tab)
  let h5 := put h4 3 (rowV Rows.laid_math_bits_deBruijn64tab)
  { w0 with heap := h5 }
end Go.Proofs.YtofgniceilbpaaaDoor
namespace Go.Proofs.YtofgniceilbpaaaDoor
open Go.RowKit

theorem ctS_of {W : World} (h : Pw W) : CtS W := {
  check := fun w o v hin hz => pCheck o w v hin hz
  text := fun w o v hu hin hz => pShow o w v hin hz (h.up hu)
  subst := fun w o p v u i h1 z1 h2 z2 => (pSubst o p w v u i h1 z1 h2 z2).mono fun _ _ k => k.u }
end Go.Proofs.YtofgniceilbpaaaDoor
namespace Go.Proofs.YtofgniceilbpaaaDoor
open Go.RowKit

theorem kd_fiT {t : Tr} (h : kdT t = true) : fiT t = none := by
  have h1 := kd_fi (f := .cons t.1 t.2 .nil) (i := 0) (by rw [kdF_cons, show kdT (t.1, t.2) = true from h]; rfl)
  rw [fiF_cons, show ((t.1, t.2) : Tr) = t from rfl] at h1
  cases hq : fiT t with
  | none => rfl
  | some p => rw [hq] at h1; cases h1
theorem coT_kids {x : Nod} {k k' : Fr} (hl : k'.len = k.len) (h0 : ∀ m, coF m k = true → coF m k' = true) (h1 : ∀ m rise pre, m ≠ 0 → m ≠ 1 → coF m k = true → lbF rise pre k' = lbF rise pre k) (hc : coT (x, k) = true) : coT (x, k') = true := by
  unfold coT at hc ⊢
  simp only at hc ⊢
  rw [hl]
  by_cases h110 : x.k = 110
  · rw [if_pos h110] at hc ⊢
    exact hc
  rw [if_neg h110, Bool.and_eq_true] at hc ⊢
  refine ⟨hc.1, ?_⟩
  replace hc := hc.2
  by_cases c1 : 111 ≤ x.k ∧ x.k ≤ 113
  · rw [if_pos c1] at hc ⊢; exact hc
  rw [if_neg c1] at hc ⊢
  by_cases c2 : x.k = 114 ∨ x.k = 120
  · rw [if_pos c2, Bool.and_eq_true] at hc ⊢; exact ⟨hc.1, h0 _ hc.2⟩
  rw [if_neg c2] at hc ⊢
  by_cases c3 : x.k = 115
  · rw [if_pos c3, Bool.and_eq_true] at hc ⊢
    exact ⟨by rw [h1 2 _ _ (by decide) (by decide) hc.2]; exact hc.1, h0 _ hc.2⟩
  rw [if_neg c3] at hc ⊢
  by_cases c4 : 117 ≤ x.k ∧ x.k ≤ 119
  · rw [if_pos c4, Bool.and_eq_true] at hc ⊢; exact ⟨hc.1, h0 _ hc.2⟩
  rw [if_neg c4] at hc ⊢
  by_cases c5 : x.k = 121
  · rw [if_pos c5] at hc ⊢
    simp only [Bool.and_eq_true] at hc ⊢
    exact ⟨hc.1, by rw [h1 3 _ _ (by decide) (by decide) hc.2.2]; exact hc.2.1, h0 _ hc.2.2⟩
  rw [if_neg c5] at hc
  cases hc
theorem coF_tail {m : Nat} {x : Nod} {k r : Fr} (h : coF m (.cons x k r) = true) : coF (if m = 1 then 0 else m) r = true := by
  unfold coF at h
  rw [Bool.and_eq_true] at h
  exact h.2
theorem coF_with {m : Nat} {x : Nod} {k r r' : Fr} (h : coF m (.cons x k r) = true) (hr : coF (if m = 1 then 0 else m) r' = true) : coF m (.cons x k r') = true := by
  unfold coF at h ⊢
  rw [Bool.and_eq_true] at h ⊢
  exact ⟨h.1, hr⟩
theorem getZ_j {f : Fr} {j : Nat} {t : Tr} (h : f.get j = some t) : getZ f (0 + (j : Int)) = some t := by
  unfold getZ
  rw [if_neg (by omega), show (0 + (j : Int)).toNat = j by omega]
  exact h
theorem fi_co {s : Tr} (hs : coT s = true) {f : Fr} : ∀ {i : Int} {p : List Int}, fiF i f = some p → ∃ (j : Nat) (q : List Int) (t : Tr), p = (i + j) :: q ∧ f.get j = some t ∧ fiT t = some q ∧ (f.set j (withT t q s)).len = f.len ∧
    (∀ m, coF m f = true → coF m (f.set j (withT t q s)) = true) ∧ (∀ m rise pre, m ≠ 0 → m ≠ 1 → coF m f = true → lbF rise pre (f.set j (withT t q s)) = lbF rise pre f) := by
  induction f with
  | nil => intro i p h; cases h
  | cons x k r ihk ihr =>
    intro i p h
    rw [fiF_cons] at h
    cases hq : fiT (x, k) with
    | none =>
      rw [hq] at h
      obtain ⟨j, q, t, h1, h2, h3, h4, h5, h6⟩ := ihr h
      refine ⟨j + 1, q, t, by rw [h1]; congr 1; omega, h2, h3, by show (r.set j _).len + 1 = r.len + 1; rw [h4], fun m hc => ?_, fun m rise pre n0 n1 hc => ?_⟩
      · exact coF_with hc (h5 _ (coF_tail hc))
      · show (_ && lbF rise (pre ++ [x.a]) (r.set j _)) = (_ && lbF rise (pre ++ [x.a]) r)
        have ht := coF_tail hc
        rw [if_neg n1] at ht
        rw [h6 m _ _ n0 n1 ht]
    | some q =>
      rw [hq] at h
      injection h with h
      have hlen : ((Fr.cons x k r).set 0 (withT (x, k) q s)).len = (Fr.cons x k r).len := rfl
      refine ⟨0, q, (x, k), by rw [← h]; congr 1; omega, rfl, hq, hlen, ?_⟩
      unfold fiT at hq
      by_cases hb : rdxB x k = true
      · rw [if_pos hb] at hq
        injection hq with hq
        subst hq
        have hk : x.k = 120 := by
          unfold rdxB at hb
          rw [Bool.and_eq_true, beq_iff_eq] at hb
          exact hb.1
        refine ⟨fun m hc => ?_, fun m rise pre n0 n1 hc => ?_⟩
        · by_cases hm0 : m = 0
          · subst hm0
            rw [coF_0, Bool.and_eq_true] at hc
            show coF 0 (.cons s.1 s.2 r) = true
            rw [coF_0, Bool.and_eq_true]
            exact ⟨hs, hc.2⟩
          · exfalso
            by_cases hm1 : m = 1
            · subst hm1
              rw [coF_1, Bool.and_eq_true] at hc
              have := kdT_k hc.1
              omega
            · rw [coF_f hm0 hm1, Bool.and_eq_true] at hc
              have := fdT_k hc.1
              omega
        · exfalso
          rw [coF_f n0 n1, Bool.and_eq_true] at hc
          have := fdT_k hc.1
          omega
      · rw [if_neg hb] at hq
        obtain ⟨j, q', t, h1, h2, h3, h4, h5, h6⟩ := ihk hq
        have hw : withT (x, k) q s = (x, k.set j (withT t q' s)) := by
          rw [h1, withT_some q' s (u := t) (getZ_j h2), show (0 + (j : Int)).toNat = j by omega]
        rw [hw]
        refine ⟨fun m hc => ?_, fun m rise pre n0 n1 hc => rfl⟩
        show coF m (.cons x (k.set j (withT t q' s)) r) = true
        by_cases hm0 : m = 0
        · subst hm0
          rw [coF_0, Bool.and_eq_true] at hc ⊢
          exact ⟨coT_kids h4 h5 h6 hc.1, hc.2⟩
        · by_cases hm1 : m = 1
          · exfalso
            subst hm1
            rw [coF_1, Bool.and_eq_true] at hc
            have h7 := kd_fiT hc.1
            unfold fiT at h7
            rw [if_neg hb, hq] at h7
            cases h7
          · rw [coF_f hm0 hm1, Bool.and_eq_true] at hc ⊢
            refine ⟨?_, hc.2⟩
            have h7 := hc.1
            unfold fdT at h7 ⊢
            simp only [Bool.and_eq_true] at h7 ⊢
            exact ⟨h7.1, h7.2.1, h7.2.2.1, by rw [h4]; exact h7.2.2.2.1, h5 _ h7.2.2.2.2⟩
theorem fiT_co {t s : Tr} {p : List Int} (hc : coT t = true) (hs : coT s = true) (h : fiT t = some p) : coT (withT t p s) = true := by
  obtain ⟨x, k⟩ := t
  unfold fiT at h
  split at h
  · injection h with h
    subst h
    exact hs
  · obtain ⟨j, q, t, h1, h2, _, h4, h5, h6⟩ := fi_co hs h
    rw [h1, withT_some q s (u := t) (getZ_j h2), show (0 + (j : Int)).toNat = j by omega]
    exact coT_kids h4 h5 h6 hc
theorem st_co {t m : Tr} (h : stR (some t) = (some m, true, 0)) : coT m = true := by
  rcases st_cases t with ⟨_, h1⟩ | ⟨_, _, h1⟩ | ⟨h0, p, u, b, a, hf, ha, _, _, _, hb1, ha1, _, _, ⟨s, h5, h1⟩ | ⟨e, _, _, h1⟩⟩
  · rw [h1] at h; cases h
  · rw [h1] at h; cases h
  · rw [h1] at h
    injection h with h _
    injection h with h
    subst h
    obtain ⟨k1, _, k3⟩ := sb_pt h5
    exact fiT_co (ck_co h0) (ptT_co k3 ha1 k1 hb1) hf
  · rw [h1] at h; cases h
theorem st_ckm {t m : Tr} (h : stR (some t) = (some m, true, 0)) : (szT m ≤ 65536 ∧ ckE (some m) = 0) ∨ (65536 < szT m ∧ ckE (some m) = 3) := by
  have hc := st_co h
  by_cases hz : szT m ≤ 65536
  · exact .inl ⟨hz, ckE_of hz hc⟩
  · refine .inr ⟨by omega, ?_⟩
    unfold ckE
    simp only
    rw [if_neg hz]

/-! ### where a path leads -/
def Ld (w : World) : List Int → Value → Value → Prop
  | [], v, u => v = u
  | i :: p, v, u => ∃ q o kb ko n c x, v = .pointer (some ⟨q, o, none⟩) ∧ w.cell? ⟨q, o + 4, none⟩ = some (.slice (some ⟨kb, ko, none⟩) n c) ∧ 0 ≤ i ∧ w.cell? ⟨kb, ko + i.toNat, none⟩ = some x ∧ Ld w p x u
theorem Ld.up {W w : World} (hu : Up W w) : ∀ {p : List Int} {v u : Value}, Ld W p v u → Ld w p v u
  | [], _, _, h => h
  | _ :: _, _, _, ⟨q, o, kb, ko, n, c, x, h1, h2, h3, h4, h5⟩ => ⟨q, o, kb, ko, n, c, x, h1, hu.cell h2, h3, hu.cell h4, Ld.up hu h5⟩
theorem Kid.at0 {w : World} {S : Nat → Prop} {A : Option Addr} {f : Fr} {j : Nat} {t : Tr} (h : Kid w S A f 0) (hg : f.get j = some t) : ∃ kb ko v, A = some ⟨kb, ko, none⟩ ∧ S kb ∧ w.cell? ⟨kb, ko + j, none⟩ = some v ∧ InT w S v t := by
  obtain ⟨us, h1, h2⟩ := h.vals2
  obtain ⟨v, hv, ht⟩ := h1.at hg
  obtain ⟨kb, ko, hA, hk, hc⟩ := h2 (by have := Fr.get_lt hg; omega)
  exact ⟨kb, ko, v, hA, hk, hc j v hv, ht⟩
theorem Ld.has {w : World} : ∀ {p : List Int} {v u : Value} {t s : Tr}, HasT w v (some t) → Ld w p v u → atT t p = some s → HasT w u (some s)
  | [], v, u, t, s, h, hl, ha => by
    have hl : v = u := hl
    subst hl
    have ha : some t = some s := ha
    injection ha with ha
    subst ha
    exact h
  | i :: p, v, u, (x, ks), s, h, ⟨q, o, kb, ko, n, c, y, h1, h2, h3, h4, h5⟩, ha => by
    obtain ⟨q', o', A, c', e1, _, _, _, _, _, d4, _, hkid⟩ := InT.open (x := x) (ks := ks) h
    rw [h1] at e1
    injection e1 with e1
    injection e1 with e1
    injection e1 with e1 e2
    subst e1 e2
    rw [h2] at d4
    injection d4 with d4
    injection d4 with d4 _ _
    cases hg : getZ ks i with
    | none => rw [atT_none p hg] at ha; cases ha
    | some t1 =>
      rw [atT_some p hg] at ha
      obtain ⟨_, hget⟩ := getZ_some hg
      obtain ⟨kb', ko', v', hA, _, hc', ht⟩ := hkid.at0 hget
      rw [← d4] at hA
      injection hA with hA
      injection hA with e3 e4
      subst e3 e4
      rw [h4] at hc'
      injection hc' with hc'
      subst hc'
      exact Ld.has (p := p) (t := t1) ht h5 ha
end Go.Proofs.YtofgniceilbpaaaDoor
namespace Go.Proofs.YtofgniceilbpaaaDoor
open Go.RowKit

def FsP (R : Option (List Int)) (v : Value) (W : World) (e : Ending) (w' : World) : Prop := ∃ u, e = .returned (.tuple #[u, .bool R.isSome]) ∧ (R = none → u = .pointer none) ∧ (∀ p, R = some p → Ld w' p v u) ∧ Up W w'
theorem fsp_none {R : Option (List Int)} {v : Value} {W w' : World} (h : R = none) (u : Up W w') : FsP R v W (.returned (.tuple #[.pointer none, .bool false])) w' := by
  refine ⟨_, by rw [h]; rfl, fun _ => rfl, ?_, u⟩
  intro p h'
  rw [h] at h'
  cases h'
theorem fsp_some {R : Option (List Int)} {p : List Int} {v x : Value} {W w' : World} (h : R = some p) (l : Ld w' p v x) (u : Up W w') : FsP R v W (.returned (.tuple #[x, .bool true])) w' := by
  refine ⟨_, by rw [h]; rfl, ?_, ?_, u⟩
  · intro h'
    rw [h] at h'
    cases h'
  · intro q h'
    rw [h] at h'
    injection h' with h'
    subst h'
    exact l
def FsAt (n : Nat) : Prop := ∀ (t : Tr), szT t ≤ n → apkT t → ∀ (w : World) (v : Value), HasT w v (some t) → Calls Tryd.prog 29 #[v] w (FsP (fiT t) v w)
set_option maxHeartbeats 12800000 in
set_option maxRecDepth 100000 in
theorem pFirst : ∀ (n : Nat), n ≤ 1000000000 → FsAt n
  | 0, _, t, h, _, _, _, _ => absurd h (by unfold szT; omega)
  | n + 1, hbig, (x, ks), hn, hv, w, v, hin => by
    have ih := pFirst n (by omega)
    have HIN := Lib.hid hin
    obtain ⟨q, p, A, cc, rfl, hqw, c0, c1, c2, c3, c4, hc, hkid⟩ := InT.open (x := x) (ks := ks) hin
    have hsz : szT (x, ks) = 1 + ks.sz := rfl
    have hll := Fr.len_le ks
    have HR0 : rdxB x ks = true → Hid (fiT (x, ks) = some []) := fun h => Lib.hid (by unfold fiT; rw [if_pos h])
    have HR1 : rdxB x ks = false → Hid (fiT (x, ks) = fiF 0 ks) := fun h => Lib.hid (by unfold fiT; rw [if_neg (by rw [h]; exact Bool.false_ne_true)])
    have HRX : Hid (rdxB x ks = (x.k == 120 && hdLam ks)) := Lib.hid rfl
    obtain ⟨R, hR⟩ : ∃ R, fiT (x, ks) = R := ⟨_, rfl⟩
    rw [hR] at HR0 HR1 ⊢
    obtain ⟨B, hB⟩ : ∃ B, rdxB x ks = B := ⟨_, rfl⟩
    rw [hB] at HR0 HR1 HRX
    obtain ⟨K, hK⟩ : ∃ K, x.k = K := ⟨_, rfl⟩
    rw [hK] at c0 HRX
    have hv1 : K = 120 → 0 < ks.len := by rw [← hK]; exact hv.1
    obtain ⟨N, hN⟩ : ∃ N, ks.len = N := ⟨_, rfl⟩
    rw [hN] at c4 hll hv1
    have hN1 : N ≤ 1000000000 := by omega
    have HK := Lib.hid hkid
    have HNN := Lib.hid hN
    have HSZ := Lib.hid (by omega : ks.sz ≤ n)
    have HIH := Lib.hid ih
    have HVK := Lib.hid hv.2
    have key : (¬ K = 120 ∧ B = false) ∨ (K = 120 ∧ 0 < N ∧ ∃ kb ko q' p' K2, A = some ⟨kb, ko, none⟩ ∧ w.cell? ⟨kb, ko, none⟩ = some (.pointer (some ⟨q', p', none⟩)) ∧ w.cell? ⟨q', p', none⟩ = some (.int .i64 K2) ∧ B = (K2 == 119)) := by
      by_cases e1 : K = 120
      · right
        have h0 := hv1 e1
        refine ⟨e1, h0, ?_⟩
        obtain ⟨y, l, r, rfl⟩ := Fr.cut (by omega : 0 < ks.len)
        obtain ⟨kb, ko, u, hA, hkb, hcell, hu, -⟩ := hkid.next
        obtain ⟨q', p', A', cc', rfl, hq', d0, _⟩ := hu.open
        refine ⟨kb, ko, q', p', y.k, hA, hcell, d0, ?_⟩
        rw [HRX.out, e1]
        rfl
      · left
        refine ⟨e1, ?_⟩
        rw [HRX.out, beq_eq_false_iff_ne.2 e1]
        rfl
    clear hin hkid ih hv hR hN hc hsz hn hK hB HRX hv1
    obtain ⟨AA, hAA⟩ : ∃ AA, AA = A := ⟨_, rfl⟩
    rw [← hAA] at HK
    have HAA := Lib.hid hAA
    clear hAA
    have fin : B = true ∨ (B = false ∧ (¬ K = 120 ∨ K = 120 ∧ 0 < N ∧ ∃ kb ko q' p' K2, A = some ⟨kb, ko, none⟩ ∧ w.cell? ⟨kb, ko, none⟩ = some (.pointer (some ⟨q', p', none⟩)) ∧ w.cell? ⟨q', p', none⟩ = some (.int .i64 K2) ∧ (K2 == 119) = false)) := by
      cases B with
      | true => exact .inl rfl
      | false =>
        right
        refine ⟨rfl, ?_⟩
        rcases key with ⟨e1, _⟩ | ⟨e1, h0, kb, ko, q', p', K2, h1, h2, h3, h4⟩
        · exact .inl e1
        · exact .inr ⟨e1, h0, kb, ko, q', p', K2, h1, h2, h3, h4.symm⟩
    rcases fin with rfl | ⟨rfl, fin⟩
    · rcases key with ⟨_, h⟩ | ⟨rfl, hN0, kb, ko, q', p', K2, rfl, d1, d0, hB⟩
      · cases h
      · have HR := HR0 rfl
        replace hB := beq_iff_eq.1 hB.symm
        subst hB
        clear HR0 HR1
        go_enter Tryd.func29, Tryd.ntmps29
        go_wp2_with fail
        go_ret2
        exact fsp_some HR.out rfl (Up.refl _)
    clear key
    have HR := HR1 rfl
    have HC4 := Lib.hid c4
    clear HR0 HR1
    rcases fin with e1 | ⟨rfl, hN0, kb, ko, q', p', K2, rfl, d1, d0, hB⟩
    all_goals
      go_enter Tryd.func29, Tryd.ntmps29
      go_wp2_with fail
      try clear d1 d0 hB
      clear c4 c0 c1 c2 c3
      go_loopw [5, 6, 7, 31] (fun _ _ _ j wr => ∃ (k : Nat) (done rest : Fr), j = .int .i64 k ∧ k = done.len ∧ ks = done.app rest ∧ Kid w (fun q => q < w.heap.size) AA rest k ∧ fiF 0 done = none ∧ Up w wr) (fun _ _ _ j _ => N - (intOf j).toNat)
      case atStart => exact ⟨0, .nil, ks, rfl, rfl, rfl, HK.out, rfl, Up.refl _⟩
      case round =>
        obtain ⟨k, done, rest, rfl, hk, hks, hkid, hfd, hup⟩ := hrel
        have hl : N = done.len + rest.len := by rw [← HNN.out, hks, Fr.len_app]
        have hs : ks.sz = done.sz + rest.sz := by rw [hks, Fr.sz_app]
        have hsz := HSZ.out
        have HKS := Lib.hid hks
        have HFD := Lib.hid hfd
        have HUP := Lib.hid hup
        clear hfd hup
        by_cases hlt : 0 < rest.len
        · obtain ⟨y, l, r, rfl⟩ := Fr.cut hlt
          obtain ⟨kb2, ko2, u, hA2, hkb, hcell, hu, hnext⟩ := hkid.next
          have c4r := HUP.out.cell HC4.out
          have HA2 := Lib.hid hA2
          have hA3 := HAA.out.symm.trans hA2
          first | subst hA3 | (injection hA3 with hA3; injection hA3 with e1 e2; have e1 := e1.symm; have e2 := e2.symm; subst e1 e2)
          have hcr := HUP.out.cell hcell
          have HCR := Lib.hid hcell
          have hyl : szT (y, l) = 1 + l.sz := rfl
          have hsr : (Fr.cons y l r).sz = 1 + l.sz + r.sz := rfl
          have hlr : (Fr.cons y l r).len = r.len + 1 := rfl
          have hvy : apkT (y, l) := by
            have h := HVK.out
            rw [HKS.out, Fr.apk_app] at h
            exact ⟨h.2.1, h.2.2.1⟩
          have cI := HIH.out (y, l) (by omega) hvy wr u (HasT.up (o := some (y, l)) hu HUP.out)
          have hkN : k < N := by omega
          have hkz : (k : Int) < (N : Int) := by omega
          have HK1 := Lib.hid hk
          have HN := Lib.hid hnext
          have HAP := Lib.hid (fiF_app done (.cons y l r) 0)
          have HAQ := Lib.hid (fiF_app done (.cons y l .nil) 0)
          obtain ⟨Q, hQ⟩ : ∃ Q, fiT (y, l) = Q := ⟨_, rfl⟩
          have HQ := Lib.hid hQ
          rw [hQ] at cI
          clear hkid hnext hu hks hk hl hs hlr hsr hsz hyl hvy hcell hQ hA2
          go_wp2_with fail
          refine cI.mono ?_
          rintro e w2 ⟨v2, rfl, hv2, hl2, u2⟩
          have HU2 := Lib.hid (HUP.out.trans u2)
          clear u2 cI
          cases Q with
          | none =>
            clear hl2 hv2
            go_wp2_with fail
            go_roundw
            case rel => exact ⟨k + 1, done.app (.cons y l .nil), r, by go_num, by rw [Fr.len_app, HK1.out]; rfl, by rw [HKS.out, Fr.app_cons], HN.out, by rw [HAQ.out, HFD.out]; show fiF _ (.cons y l .nil) = none; rw [fiF_cons, HQ.out]; rfl, HU2.out⟩
            case measure => simp [intOf]; omega
          | some pp =>
            have HL2 := Lib.hid (hl2 pp rfl)
            clear hl2 hv2
            go_wp2_with fail
            go_ret2
            have HF : fiF 0 ks = some ((k : Int) :: pp) := by
              rw [HKS.out, HAP.out, HFD.out]
              show fiF _ (.cons y l r) = _
              rw [fiF_cons, HQ.out, HK1.out, Int.zero_add]
            refine fsp_some (HR.out.trans HF) ⟨q, p, kb2, ko2, N, cc, u, rfl, ?_, by omega, ?_, HL2.out⟩ HU2.out
            · have h := HU2.out.cell HC4.out
              rw [← HAA.out, HA2.out] at h
              exact h
            · rw [Int.toNat_natCast]
              exact HU2.out.cell HCR.out
        · have h0 : rest = .nil := by
            cases rest with
            | nil => rfl
            | cons y l r => exact absurd (Nat.succ_pos _) hlt
          subst h0
          have c4r := HUP.out.cell HC4.out
          have hl' : N = done.len := by simpa [Fr.len] using hl
          have hkz : ¬ (k : Int) < (N : Int) := by omega
          clear hkid hks hk hl hl' hs hsz
          go_wp2_with fail
          go_ret2
          exact fsp_none (by rw [HR.out, HKS.out, Fr.app_nil]; exact HFD.out) HUP.out
end Go.Proofs.YtofgniceilbpaaaDoor
