/-
  Layer 10, the program's side: asked, Check, Kind.
-/
import Derived.Test.YtmiicfdigkkbdaaDoorGt17
import Derived.Test.YtmiicfdigkkbdaaDoorGt27
namespace Go.Proofs.YtmiicfdigkkbdaaDoor
open Go.RowKit

def asR (o : Option Tr) (B : Tr → Bool) : Int := match o with
  | none => 1
  | some t => if szT t ≤ 65536 then (if B t = true then 0 else 16) else 3
set_option maxHeartbeats 6400000 in
set_option maxRecDepth 100000 in
theorem pAsked (g : FuncId) (hE : EntF g) (B : Tr → Bool) (o : Option Tr) (w : World) (v : Value) (h : HasT w v o) (hz : szO o ≤ 65536)
    (cG : ∀ t, o = some t → ∀ (W : World), Up w W → Calls Tryd.prog g #[v] W (BoP (B t) W)) :
    Calls Tryd.prog 28 #[v, .func (.func g) #[] #[]] w (InP (asR o B) w) := by
  have cS := uSize o h hz (Up.refl w)
  cases o with
  | none =>
    obtain rfl : v = .pointer none := h
    have hM : szO (none : Option Tr) = 0 := rfl
    rw [hM] at cS
    have CS := Lib.hid cS
    clear hz cG hE cS hM
    have cS := CS.out
    go_enter Tryd.func28, Tryd.ntmps28
    go_wp2_with fail
    refine cS.mono ?_
    rintro e w1 ⟨rfl, u1⟩
    have cW : Calls Tryd.prog 53 #[.pointer none] w1 (SbB false w1) := by
      go_enter Tryd.func53, Tryd.ntmps53
      go_wp2_with fail
      go_ret
      exact sbb rfl
    have U1 := Lib.hid u1
    clear u1
    go_wp2_with fail
    refine cW.mono ?_
    rintro e w2 ⟨rfl, rfl⟩
    go_wp2_with fail
    go_ret
    exact ⟨rfl, U1.out⟩
  | some t =>
    have hz : szT t ≤ 65536 := hz
    have hR : asR (some t) B = if B t = true then 0 else 16 := if_pos hz
    rw [hR]
    have cW := fun W (u : Up w W) => pWhole (szT t) t (Nat.le_refl _) (by omega) W (fun q => q < w.heap.size) v (InT.keep (t := t) h (fun _ h => h) fun b hb => u.block b hb)
    have cG := cG t rfl
    obtain ⟨b, hb⟩ : ∃ b, B t = b := ⟨_, rfl⟩
    obtain ⟨M, hM⟩ : ∃ b, szO (some t) = b := ⟨_, rfl⟩
    rw [hM] at cS
    rw [hb] at cG ⊢
    have hMz : ¬ (65536 : Int) < (M : Int) := by have : szT t = M := hM; omega
    obtain ⟨q, p, rfl⟩ := InT.ptr h
    have HE := Lib.hid hE
    have CW := Lib.hid cW
    have CG := Lib.hid cG
    clear hb hM hz hR h cW cG hE
    cases b
    all_goals
      go_enter Tryd.func28, Tryd.ntmps28
      go_wp2_with fail
      refine cS.mono ?_
      rintro e w1 ⟨rfl, u1⟩
      have U1 := Lib.hid u1
      clear u1
      go_wp2_with fail
      refine (CW.out w1 U1.out).mono ?_
      rintro e w2 ⟨rfl, rfl⟩
      go_wp2_with fail
      rw [HE.out, Oper.upon_enter]
      refine (CG.out w2 U1.out).mono ?_
      rintro e w3 ⟨rfl, u3⟩
      go_wp2_with fail
      go_ret
      exact ⟨rfl, U1.out.trans u3⟩
theorem pCheck (o : Option Tr) (w : World) (v : Value) (h : HasT w v o) (hz : szO o ≤ 65536) : Calls Tryd.prog 19 #[v] w (InP (ckE o) w) := by
  have cA := pAsked 38 ent_isCon coT o w v h hz (fun t ht W u => by
    subst ht
    exact pCon (szT t) (by have : szT t ≤ 65536 := hz; omega) t (Nat.le_refl _) W (fun q => q < w.heap.size) v (fun q hq => Nat.lt_of_lt_of_le hq u.size) (InT.keep (t := t) h (fun _ h => h) fun b hb => u.block b hb))
  have e : asR o coT = ckE o := rfl
  rw [e] at cA
  obtain ⟨E, hE⟩ : ∃ E, ckE o = E := ⟨_, rfl⟩
  rw [hE] at cA ⊢
  clear hE e h hz
  go_enter Tryd.func19, Tryd.ntmps19
  go_wp2_with fail
  refine cA.mono ?_
  rintro e w1 ⟨rfl, u1⟩
  go_wp2_with fail
  go_ret
  exact ⟨rfl, u1⟩
theorem pKind (o : Option Tr) (w : World) (v : Value) (h : HasT w v o) (hz : szO o ≤ 65536) : Calls Tryd.prog 13 #[v] w (InP (kkE o) w) := by
  have cA := pAsked 29 ent_isKind kdT o w v h hz (fun t ht W u => by
    subst ht
    exact pKd (szT t) (by have : szT t ≤ 65536 := hz; omega) t (Nat.le_refl _) W (fun q => q < w.heap.size) v (fun q hq => Nat.lt_of_lt_of_le hq u.size) (InT.keep (t := t) h (fun _ h => h) fun b hb => u.block b hb))
  have e : asR o kdT = kkE o := rfl
  rw [e] at cA
  obtain ⟨E, hE⟩ : ∃ E, kkE o = E := ⟨_, rfl⟩
  rw [hE] at cA ⊢
  clear hE e h hz
  go_enter Tryd.func13, Tryd.ntmps13
  go_wp2_with fail
  refine cA.mono ?_
  rintro e w1 ⟨rfl, u1⟩
  go_wp2_with fail
  go_ret
  exact ⟨rfl, u1⟩
end Go.Proofs.YtmiicfdigkkbdaaDoor
namespace Go.Proofs.YtmiicfdigkkbdaaDoor

def mpF (tr : Nod → Nat → Tr) : Nat → Fr → Fr
  | _, .nil => .nil
  | d, .cons x k r => if x.k = 110 then (if x.n < d then .cons x k (mpF tr d r) else .cons (tr x d).1 (tr x d).2 (mpF tr d r)) else .cons x (mpF tr (d + innK x.k) k) (mpF tr d r)
def mpT (tr : Nod → Nat → Tr) (d : Nat) (t : Tr) : Tr := if t.1.k = 110 then (if t.1.n < d then t else tr t.1 d) else (t.1, mpF tr (d + innK t.1.k) t.2)
def fdF {σ : Type} (st : σ → Nod → Nat → σ) : σ → Nat → Fr → σ
  | s, _, .nil => s
  | s, d, .cons x k r => fdF st (if x.k = 110 then (if x.n < d then s else st s x d) else fdF st s (d + innK x.k) k) d r
def fdT' {σ : Type} (st : σ → Nod → Nat → σ) (s : σ) (d : Nat) (t : Tr) : σ := if t.1.k = 110 then (if t.1.n < d then s else st s t.1 d) else fdF st s (d + innK t.1.k) t.2
theorem mpF_c (tr : Nod → Nat → Tr) (d : Nat) (x : Nod) (k r : Fr) : mpF tr d (.cons x k r) = .cons (mpT tr d (x, k)).1 (mpT tr d (x, k)).2 (mpF tr d r) := by
  conv => lhs; unfold mpF
  unfold mpT
  by_cases h : x.k = 110
  · by_cases h' : x.n < d
    · rw [if_pos h, if_pos h', if_pos h, if_pos h']
    · rw [if_pos h, if_neg h', if_pos h, if_neg h']
  · rw [if_neg h, if_neg h]
theorem fdF_c {σ : Type} (st : σ → Nod → Nat → σ) (s : σ) (d : Nat) (x : Nod) (k r : Fr) : fdF st s d (.cons x k r) = fdF st (fdT' st s d (x, k)) d r := rfl
theorem mpF_app (tr : Nod → Nat → Tr) (d : Nat) (f g : Fr) : mpF tr d (f.app g) = (mpF tr d f).app (mpF tr d g) := by
  induction f with
  | nil => rfl
  | cons x k r _ ih =>
    show mpF tr d (.cons x k (r.app g)) = _
    rw [mpF_c, mpF_c, ih]
    rfl
theorem fdF_app {σ : Type} (st : σ → Nod → Nat → σ) (d : Nat) (f g : Fr) : ∀ s, fdF st s d (f.app g) = fdF st (fdF st s d f) d g := by
  induction f with
  | nil => intro s; rfl
  | cons x k r _ ih =>
    intro s
    show fdF st s d (.cons x k (r.app g)) = _
    rw [fdF_c, fdF_c, ih]
theorem mpF_len (tr : Nod → Nat → Tr) (d : Nat) (f : Fr) : (mpF tr d f).len = f.len := by
  induction f with
  | nil => rfl
  | cons x k r _ ih => rw [mpF_c]; simp only [Fr.len, ih]
/-! ### shifted -/
def varN (k : Int) : Nod := ⟨110, k, ⟨#[]⟩, ⟨#[]⟩⟩
def trS (b c : Int) (x : Nod) (d : Nat) : Tr := if x.n - d < c then (x, .nil) else if b < d - x.n ∨ 65536 - x.n < b then (x, .nil) else (varN (x.n + b), .nil)
def stS (b c : Int) (s : Bool) (x : Nod) (d : Nat) : Bool := if x.n - d < c then s else if b < d - x.n ∨ 65536 - x.n < b then false else s
theorem nod_eta {x : Nod} {z : Int} (h1 : x.k = 110) (h2 : x.a = ⟨#[]⟩) : setN x z = varN z := by
  unfold setN varN
  rw [h1, h2]
theorem mv_eq (b c : Int) (d : Nat) (x : Nod) (k r : Fr) : Fr.mv b c d (.cons x k r) = (match mvN b c d x, Fr.mv b c (d + innK x.k) k, Fr.mv b c d r with
    | some y, some k', some r' => some (.cons y k' r')
    | _, _, _ => none) := rfl
theorem fdF_sh (b c : Int) {f : Fr} : ∀ {d : Nat} {s : Bool}, f.vok → fdF (stS b c) s d f = (s && (Fr.mv b c d f).isSome) ∧ ∀ g, Fr.mv b c d f = some g → mpF (trS b c) d f = g := by
  induction f with
  | nil => intro d s _; exact ⟨(Bool.and_true _).symm, fun g h => by injection h⟩
  | cons x k r ihk ihr =>
    intro d s hv
    obtain ⟨⟨hm, hn⟩, hk, hr⟩ := hv
    rw [fdF_c, mpF_c]
    unfold fdT' mpT
    by_cases h : x.k = 110
    · obtain ⟨n0, n1, na, rfl⟩ := hn h
      have hin : innK x.k = 0 := by unfold innK; rw [if_neg (by rw [h]; decide)]
      rw [if_pos h, if_pos h]
      by_cases hd : x.n < d
      · obtain ⟨i1, i2⟩ := ihr (d := d) (s := s) hr
        have hx : mvN b c d x = some x := by unfold mvN; rw [if_neg (fun q => by have := q.2.1; omega), setN_self hm]
        rw [if_pos hd, if_pos hd, i1]
        refine ⟨?_, fun g hg => ?_⟩
        · rw [mv_eq, hx]
          cases Fr.mv b c d r <;> rfl
        · obtain ⟨y, k', r', h1, h2, h3, rfl⟩ := Fr.mv_cons hg
          rw [hx] at h1
          injection h1 with h1
          injection h2 with h2
          rw [← h1, ← h2, i2 r' h3]
      · rw [if_neg hd, if_neg hd]
        unfold stS trS
        simp only
        by_cases h1 : x.n - d < c
        · obtain ⟨i1, i2⟩ := ihr (d := d) (s := s) hr
          unfold stS at i1
          have hx : mvN b c d x = some x := by unfold mvN; rw [if_neg (fun q => by have := q.2.2; omega), setN_self hm]
          rw [if_pos h1, if_pos h1, i1]
          refine ⟨?_, fun g hg => ?_⟩
          · rw [mv_eq, hx]
            cases Fr.mv b c d r <;> rfl
          · obtain ⟨y, k', r', h4, h2, h3, rfl⟩ := Fr.mv_cons hg
            rw [hx] at h4
            injection h4 with h4
            injection h2 with h2
            rw [← h4, ← h2]
            exact congrArg _ (i2 r' h3)
        · rw [if_neg h1, if_neg h1]
          have hf : frV c d x := ⟨h, by omega, by omega⟩
          by_cases h2 : b < d - x.n ∨ 65536 - x.n < b
          · obtain ⟨i1, i2⟩ := ihr (d := d) (s := false) hr
            unfold stS at i1
            have hx : mvN b c d x = none := by unfold mvN; rw [if_pos hf, if_pos h2]
            rw [if_pos h2, if_pos h2, i1]
            refine ⟨?_, fun g hg => ?_⟩
            · rw [mv_eq, hx, Bool.false_and]
              simp
            · obtain ⟨y, k', r', h4, _⟩ := Fr.mv_cons hg
              rw [hx] at h4
              cases h4
          · obtain ⟨i1, i2⟩ := ihr (d := d) (s := s) hr
            unfold stS at i1
            have hx : mvN b c d x = some (varN (x.n + b)) := by unfold mvN; rw [if_pos hf, if_neg h2, nod_eta h na]
            rw [if_neg h2, if_neg h2, i1]
            refine ⟨?_, fun g hg => ?_⟩
            · rw [mv_eq, hx]
              cases Fr.mv b c d r <;> rfl
            · obtain ⟨y, k', r', h4, h5, h3, rfl⟩ := Fr.mv_cons hg
              rw [hx] at h4
              injection h4 with h4
              injection h5 with h5
              rw [← h4, ← h5]
              exact congrArg _ (i2 r' h3)
    · rw [if_neg h, if_neg h]
      obtain ⟨k1, k2⟩ := ihk (d := d + innK x.k) (s := s) hk
      simp only
      rw [k1]
      obtain ⟨i1, i2⟩ := ihr (d := d) (s := s && (Fr.mv b c (d + innK x.k) k).isSome) hr
      have hx : mvN b c d x = some x := by unfold mvN; rw [if_neg (fun q => h q.1), setN_self hm]
      rw [i1]
      refine ⟨?_, fun g hg => ?_⟩
      · rw [mv_eq, hx]
        cases Fr.mv b c (d + innK x.k) k <;> cases Fr.mv b c d r <;> cases s <;> rfl
      · obtain ⟨y, k', r', h4, h5, h3, rfl⟩ := Fr.mv_cons hg
        rw [hx] at h4
        injection h4 with h4
        rw [k2 k' h5, ← h4]
        exact congrArg _ (i2 r' h3)
theorem tvokF {t : Tr} (h : tvok t) : (Fr.cons t.1 t.2 .nil).vok := ⟨h.1, h.2, trivial⟩
theorem mv_F {b c : Int} {d : Nat} {t : Tr} : (Fr.mv b c d (.cons t.1 t.2 .nil)).isSome = (mvT b c d t).isSome := by
  unfold mvT
  rw [mv_eq]
  cases mvN b c d t.1 <;> cases Fr.mv b c (d + innK t.1.k) t.2 <;> rfl
theorem fdT_sh (b c : Int) {t : Tr} (d : Nat) (s : Bool) (h : tvok t) : fdT' (stS b c) s d t = (s && (mvT b c d t).isSome) ∧ ∀ u, mvT b c d t = some u → mpT (trS b c) d t = u := by
  obtain ⟨h1, h2⟩ := fdF_sh b c (d := d) (s := s) (tvokF h)
  rw [fdF_c] at h1
  rw [mpF_c] at h2
  refine ⟨by rw [← mv_F]; exact h1, fun u hu => ?_⟩
  have := h2 _ (mvT_F.1 hu)
  simp only [mpF] at this
  injection this with e1 e2
  exact Prod.ext e1 e2
/-! ### put -/
def trP (i : Int) (u : Tr) (x : Nod) (d : Nat) : Tr := if x.n - d < i then (x, .nil) else if i < x.n - d then (varN (x.n - 1), .nil) else mpT (trS d 0) 0 u
def stP (i : Int) (u : Tr) (s : Bool) (x : Nod) (d : Nat) : Bool := if x.n - d < i then s else if i < x.n - d then s else s && fdT' (stS d 0) true 0 u
theorem fdF_pt (i : Int) (u : Tr) (hu : tvok u) {f : Fr} : ∀ {d : Nat} {s : Bool}, f.vok → fdF (stP i u) s d f = (s && (Fr.pt i u d f).isSome) ∧ ∀ g, Fr.pt i u d f = some g → mpF (trP i u) d f = g := by
  induction f with
  | nil => intro d s _; exact ⟨(Bool.and_true _).symm, fun g h => by injection h⟩
  | cons x k r ihk ihr =>
    intro d s hv
    obtain ⟨⟨hm, hn⟩, hk, hr⟩ := hv
    have key : ∀ (t' : Option Tr) (s' : Bool) (m : Tr), ptT i u d (x, k) = t' → fdT' (stP i u) s d (x, k) = s' → s' = (s && t'.isSome) → (∀ t, t' = some t → mpT (trP i u) d (x, k) = t) →
        fdF (stP i u) s d (.cons x k r) = (s && (Fr.pt i u d (.cons x k r)).isSome) ∧ ∀ g, Fr.pt i u d (.cons x k r) = some g → mpF (trP i u) d (.cons x k r) = g := by
      intro t' s' m h1 h2 h3 h4
      obtain ⟨i1, i2⟩ := ihr (d := d) (s := s') hr
      rw [fdF_c, mpF_c, h2, i1, Fr.pt_cons, h1, h3]
      refine ⟨?_, fun g hg => ?_⟩
      · cases t' <;> cases Fr.pt i u d r <;> cases s <;> rfl
      · cases t' with
        | none => cases hg
        | some t =>
          rw [h4 t rfl]
          cases h5 : Fr.pt i u d r with
          | none => rw [h5] at hg; cases hg
          | some r' => rw [h5] at hg; injection hg with hg; rw [← hg, i2 r' h5]
    by_cases h : x.k = 110
    · obtain ⟨n0, n1, na, rfl⟩ := hn h
      have hin : innK x.k = 0 := by unfold innK; rw [if_neg (by rw [h]; decide)]
      by_cases ha : atV i d x
      · obtain ⟨_, a2, a3⟩ := ha
        refine key (mvT d 0 0 u) (s && fdT' (stS d 0) true 0 u) u ?_ ?_ ?_ ?_
        · unfold ptT; rw [if_pos ⟨h, a2, a3⟩]
        · show (if x.k = 110 then (if x.n < d then s else stP i u s x d) else fdF (stP i u) s (d + innK x.k) .nil) = _
          rw [if_pos h, if_neg (by omega)]
          show (if x.n - d < i then s else if i < x.n - d then s else s && fdT' (stS d 0) true 0 u) = _
          rw [if_neg (by omega), if_neg (by omega)]
        · rw [(fdT_sh d 0 0 true hu).1, Bool.true_and]
        · intro t ht
          show (if x.k = 110 then (if x.n < d then (x, .nil) else trP i u x d) else (x, mpF (trP i u) (d + innK x.k) .nil)) = t
          rw [if_pos h, if_neg (by omega)]
          show (if x.n - d < i then (x, .nil) else if i < x.n - d then (varN (x.n - 1), .nil) else mpT (trS d 0) 0 u) = t
          rw [if_neg (by omega), if_neg (by omega)]
          exact (fdT_sh d 0 0 true hu).2 t ht
      · refine key (some (ptN i d x, .nil)) s u ?_ ?_ (by cases s <;> rfl) ?_
        · unfold ptT; rw [if_neg ha]; rfl
        · unfold fdT' stP
          rw [if_pos h]
          by_cases hd : x.n < d
          · rw [if_pos hd]
          · rw [if_neg hd]
            by_cases h1 : x.n - d < i
            · rw [if_pos h1]
            · rw [if_neg h1, if_pos]
              rcases Int.lt_trichotomy (x.n - d) i with q | q | q
              · exact absurd q h1
              · exact absurd ⟨h, by omega, q⟩ ha
              · exact q
        · intro t ht
          injection ht with ht
          rw [← ht]
          unfold mpT trP ptN
          rw [if_pos h]
          by_cases hd : x.n < d
          · rw [if_pos hd, if_neg (fun q => by have := q.2.1; omega), setN_self hm]
          · rw [if_neg hd]
            by_cases h1 : x.n - d < i
            · rw [if_pos h1, if_neg (fun q => by have := q.2.2; omega), setN_self hm]
            · have q : i < x.n - d := by
                rcases Int.lt_trichotomy (x.n - d) i with q | q | q
                · exact absurd q h1
                · exact absurd ⟨h, by omega, q⟩ ha
                · exact q
              rw [if_neg h1, if_pos q, if_pos ⟨h, by omega, by omega⟩, nod_eta h na]
    · have ha : ¬ atV i d x := fun q => h q.1
      obtain ⟨k1, k2⟩ := ihk (d := d + innK x.k) (s := s) hk
      refine key (match Fr.pt i u (d + innK x.k) k with | some k' => some (ptN i d x, k') | none => none) (s && (Fr.pt i u (d + innK x.k) k).isSome) u ?_ ?_ ?_ ?_
      · exact if_neg ha
      · unfold fdT'; rw [if_neg h]; exact k1
      · cases Fr.pt i u (d + innK x.k) k <;> rfl
      · intro t ht
        unfold mpT
        rw [if_neg h]
        cases h5 : Fr.pt i u (d + innK x.k) k with
        | none => rw [h5] at ht; cases ht
        | some k' =>
          rw [h5] at ht
          injection ht with ht
          rw [← ht, show ptN i d x = x by unfold ptN; rw [if_neg (fun q => h q.1), setN_self hm]]
          exact congrArg (Prod.mk x) (k2 k' h5)
theorem fdT_pt (i : Int) (u : Tr) (hu : tvok u) {t : Tr} (d : Nat) (s : Bool) (h : tvok t) : fdT' (stP i u) s d t = (s && (ptT i u d t).isSome) ∧ ∀ m, ptT i u d t = some m → mpT (trP i u) d t = m := by
  obtain ⟨h1, h2⟩ := fdF_pt i u hu (d := d) (s := s) (tvokF h)
  rw [fdF_c, Fr.pt_cons] at h1
  rw [mpF_c, Fr.pt_cons] at h2
  have h1 : fdT' (stP i u) s d t = (s && (match ptT i u d t, Fr.pt i u d .nil with
    | some t, some r' => some (Fr.cons t.1 t.2 r')
    | _, _ => none).isSome) := h1
  have h2 : ∀ g, (match ptT i u d t, Fr.pt i u d .nil with
    | some t, some r' => some (Fr.cons t.1 t.2 r')
    | _, _ => none) = some g → Fr.cons (mpT (trP i u) d t).1 (mpT (trP i u) d t).2 .nil = g := h2
  refine ⟨?_, fun m hm => ?_⟩
  · rw [h1]
    cases ptT i u d t <;> rfl
  · have := h2 (.cons m.1 m.2 .nil) (by rw [hm]; rfl)
    injection this with e1 e2
    exact Prod.ext e1 e2
/-! ### counted, the greatest one -/
def trI (x : Nod) (_ : Nat) : Tr := (x, .nil)
def stC (i : Int) (s : Nat) (x : Nod) (d : Nat) : Nat := if x.n - d = i then s + 1 else s
def stM (s : Int) (x : Nod) (d : Nat) : Int := max s (x.n - d + 1)
theorem fdF_ct (i : Int) {f : Fr} : ∀ {d s : Nat}, f.vok → fdF (stC i) s d f = s + Fr.ct i d f := by
  induction f with
  | nil => intro d s _; rfl
  | cons x k r ihk ihr =>
    intro d s hv
    obtain ⟨⟨hm, hn⟩, hk, hr⟩ := hv
    unfold Fr.ct
    rw [fdF_c, ihr hr]
    unfold fdT'
    by_cases h : x.k = 110
    · obtain ⟨_, _, _, rfl⟩ := hn h
      rw [if_pos h]
      have e0 : Fr.ct i (d + innK x.k) .nil = 0 := rfl
      rw [e0]
      by_cases hd : x.n < d
      · rw [if_pos hd, if_neg (fun q => by have := q.2.1; omega)]
        omega
      · rw [if_neg hd]
        unfold stC
        by_cases h1 : x.n - d = i
        · rw [if_pos h1, if_pos ⟨h, by omega, h1⟩]
          omega
        · rw [if_neg h1, if_neg (fun q => h1 q.2.2)]
          omega
    · rw [if_neg h, if_neg (fun q => h q.1), ihk hk]
      simp only
      omega
theorem fdT_ct (i : Int) {t : Tr} (d s : Nat) (h : tvok t) : fdT' (stC i) s d t = s + ctT i d t := by
  have := fdF_ct i (d := d) (s := s) (tvokF h)
  rw [fdF_c, Fr.ct_c] at this
  exact this
theorem fdF_fv {f : Fr} : ∀ {d : Nat} {s : Int}, 0 ≤ s → f.vok → fdF stM s d f = max s (Fr.fv d f) := by
  induction f with
  | nil => intro d s h0 _; show s = max s 0; omega
  | cons x k r ihk ihr =>
    intro d s h0 hv
    obtain ⟨⟨hm, hn⟩, hk, hr⟩ := hv
    have hs' : 0 ≤ fdT' stM s d (x, k) := by
      unfold fdT'
      by_cases h : x.k = 110
      · rw [if_pos h]
        split
        · exact h0
        · unfold stM; omega
      · rw [if_neg h, ihk h0 hk]; omega
    have e : Fr.fv d (.cons x k r) = max (max (fvN d x) (Fr.fv (d + innK x.k) k)) (Fr.fv d r) := rfl
    rw [fdF_c, ihr hs' hr, e]
    unfold fdT'
    have hp := Fr.fv_pos r d
    by_cases h : x.k = 110
    · obtain ⟨_, _, _, rfl⟩ := hn h
      rw [if_pos h]
      have e0 : Fr.fv (d + innK x.k) .nil = 0 := rfl
      rw [e0]
      by_cases hd : x.n < d
      · have e1 : fvN d x = 0 := by unfold fvN; rw [if_neg (by omega)]
        rw [if_pos hd, e1]
        omega
      · have e1 : fvN d x = x.n - d + 1 := by unfold fvN; rw [if_pos ⟨h, by omega⟩]
        rw [if_neg hd, e1]
        unfold stM
        simp only
        omega
    · have e1 : fvN d x = 0 := by unfold fvN; exact if_neg (fun q => h q.1)
      have hk0 := Fr.fv_pos k (d + innK x.k)
      rw [if_neg h, ihk h0 hk, e1]
      simp only
      omega
theorem fdT_fv {t : Tr} (d : Nat) (h : tvok t) : fdT' stM 0 d t = fvT d t := by
  have := fdF_fv (d := d) (Int.le_refl 0) (tvokF h)
  rw [fdF_c, Fr.fv_c] at this
  have h1 : fdT' stM 0 d t = max 0 (max (fvT d t) 0) := this
  have h2 := fvT_pos d t
  rw [h1]
  omega
end Go.Proofs.YtmiicfdigkkbdaaDoor
namespace Go.Proofs.YtmiicfdigkkbdaaDoor
open Go.RowKit

structure Gs (S : Nat → Prop) (w w' : World) : Prop where
  os : w'.os = w.os
  tape : w'.tape = w.tape
  output : w'.output = w.output
  size : w.heap.size ≤ w'.heap.size
  block : ∀ k, k < w.heap.size → ¬ S k → w'.heap[k]? = w.heap[k]?
theorem Gs.refl (S : Nat → Prop) (w : World) : Gs S w w := ⟨rfl, rfl, rfl, Nat.le_refl _, fun _ _ _ => rfl⟩
theorem Gs.trans {S : Nat → Prop} {a b c : World} (h : Gs S a b) (k : Gs S b c) : Gs S a c :=
  ⟨k.os.trans h.os, k.tape.trans h.tape, k.output.trans h.output, Nat.le_trans h.size k.size, fun i hi hn => (k.block i (Nat.lt_of_lt_of_le hi h.size) hn).trans (h.block i hi hn)⟩
theorem Gs.of {S : Nat → Prop} {w w' : World} (u : Up w w') : Gs S w w' := ⟨u.os, u.tape, u.output, u.size, fun k hk _ => u.block k hk⟩
theorem Gs.up {S : Nat → Prop} {W w w' : World} (u : Up W w) (h : Gs S w w') (hS : ∀ k, S k → W.heap.size ≤ k) : Up W w' :=
  ⟨h.os.trans u.os, h.tape.trans u.tape, h.output.trans u.output, Nat.le_trans u.size h.size, fun k hk => (h.block k (Nat.lt_of_lt_of_le hk u.size) fun hs => absurd (hS k hs) (by omega)).trans (u.block k hk)⟩
theorem Gs.row {S : Nat → Prop} {w w' : World} (h : Gs S w w') {b : Nat} {o : Obj} (hb : w.heap[b]? = some o) (hn : ¬ S b) : w'.heap[b]? = some o := (h.block b (heap_lt hb) hn).trans hb
theorem Gs.cell {S : Nat → Prop} {w w' : World} (h : Gs S w w') {p : Addr} {v : Value} (hc : w.cell? p = some v) (hn : ¬ S p.block) : w'.cell? p = some v := (World.cell?_of_block (h.block p.block (cell_lt hc) hn)).trans hc
theorem Gs.set {S : Nat → Prop} {a w : World} (h : Gs S a w) (p : Addr) (u : Value) (hp : S p.block ∨ a.heap.size ≤ p.block) : Gs S a (w.setCell p u) :=
  ⟨h.os, h.tape, h.output, by simpa [World.setCell] using h.size, fun k hk hn => (Below.heap_setCell _ _ _ _ (fun e => by rcases hp with hp | hp; exact hn (by rw [e]; exact hp); omega)).trans (h.block k hk hn)⟩
def On (b : Nat) (k : Nat) : Prop := k = b
/-! ### twin -/
def TwP (x : Nod) (N : Nat) (us : List Value) (w : World) (e : Ending) (w' : World) : Prop := ∃ v, e = .returned (.pointer (some ⟨w.heap.size, 0, none⟩)) ∧ Nb w' w.heap.size x v ∧ w'.ownsRow (w.heap.size + 1) 25 1 v N us ∧ Up w w'
set_option maxHeartbeats 6400000 in
set_option maxRecDepth 100000 in
theorem pTwin (x : Nod) (q p : Nat) (A : Option Addr) (N c : Nat) (us : List Value) (w : World) (hul : us.length = N) (hN : N ≤ 1000000) (one : ∀ u ∈ us, u.oneCell' = true)
    (c0 : w.cell? ⟨q, p, none⟩ = some (.int .i64 x.k)) (c1 : w.cell? ⟨q, p + 1, none⟩ = some (.int .i64 x.n)) (c2 : w.cell? ⟨q, p + 2, none⟩ = some (.string x.a)) (c3 : w.cell? ⟨q, p + 3, none⟩ = some (.string x.m)) (c4 : w.cell? ⟨q, p + 4, none⟩ = some (.slice A N c))
    (hA : 0 < N → ∃ b o, A = some ⟨b, o, none⟩ ∧ b < w.heap.size ∧ ∀ (j : Nat) u, us[j]? = some u → w.cell? ⟨b, o + j, none⟩ = some u) :
    Calls Tryd.prog 82 #[.pointer (some ⟨q, p, none⟩)] w (TwP x N us w) := by
  obtain ⟨H, hH⟩ : ∃ H, w.heap.size = H := ⟨_, rfl⟩
  have hqw : q < w.heap.size := cell_lt c4
  rw [hH] at hqw
  have HA := Lib.hid hA
  have HUL := Lib.hid hul
  have HONE := Lib.hid one
  have HH := Lib.hid hH
  unfold TwP
  rw [hH]
  have k4 : (w.alloc (.cells #[.int .i64 x.k, .int .i64 x.n, .string x.a, .string x.m, .slice A N c] 40)).cell? ⟨q, p + 4, none⟩ = some (.slice A N c) := ((Up.refl w).alloc _).cell c4
  clear hA hul one hH
  go_enter Tryd.func82, Tryd.ntmps82
  go_wp2_with fail
  obtain ⟨W1, hW1⟩ : ∃ W1, W1 = w.alloc (.cells #[.int .i64 x.k, .int .i64 x.n, .string x.a, .string x.m, .slice A N c] 40) := ⟨_, rfl⟩
  have hb1 : Below H w W1 := by rw [hW1]; exact (Below.refl H w).alloc (by rw [HH.out]; exact Nat.le_refl _) _
  have hs1 : W1.heap.size = H + 1 := by rw [hW1]; simp; exact HH.out
  have hn1 : Nb W1 H x (.slice A N c) := by rw [hW1, ← HH.out]; exact heap_alloc_new w _
  rw [← hW1] at k4
  rw [← hW1, HH.out]
  have cC := clone_any A N c us W1 HUL.out hN (fun h0 => by
    obtain ⟨b, o, e, hb, hcl⟩ := HA.out h0
    rw [HH.out] at hb
    exact ⟨b, o, e, by omega, fun j u hu => (hb1.cell (p := ⟨b, o + j, none⟩) hb).trans (hcl j u hu)⟩) HONE.out
  have HB1 := Lib.hid hb1
  have HS1 := Lib.hid hs1
  have HNB1 := Lib.hid hn1
  clear hW1 hb1 hs1 hn1 c0 c1 c2 c3 c4 k4 HA
  refine cC.mono ?_
  rintro e w1 ⟨vk, rfl, ⟨B, hB, hown⟩, hb⟩
  rw [HS1.out] at hB
  have hown : w1.ownsRow (H + 1) 25 1 vk N us := hown.mono hB
  have hnb1 : Nb w1 H x (.slice A N c) := heap_below HNB1.out hb
  have cn := hnb1.cell.1
  have cf := hnb1.cell.2
  obtain ⟨A2, c2, rfl⟩ := own_slice hown
  have hHw : H < w1.heap.size := heap_lt hnb1
  have hbel1 : Below H w w1 := HB1.out.trans (hb.mono (by rw [HS1.out]; omega))
  have hlt := hown.lt
  have HOWN := Lib.hid hown
  have HNBW := Lib.hid hnb1
  have HBEL := Lib.hid hbel1
  have HLT := Lib.hid hlt
  clear cC hB hown hnb1 hb hbel1 hlt HNB1 HB1 HS1
  go_wp2_with fail
  go_ret
  refine ⟨_, rfl, HNBW.out.store _, own_setCell HOWN.out _ _ (fun g hg => by have := (HLT.out g hg).1; simp only; omega), ?_⟩
  unfold Up
  rw [HH.out]
  exact HBEL.out.setCell (Nat.le_refl _) _
/-! ### mapped -/
theorem Kid.vals2 {w : World} {S : Nat → Prop} {A : Option Addr} {f : Fr} (h : Kid w S A f 0) : ∃ us, PtF w S us f ∧ (0 < f.len → ∃ b o, A = some ⟨b, o, none⟩ ∧ S b ∧ ∀ (j : Nat) u, us[j]? = some u → w.cell? ⟨b, o + j, none⟩ = some u) := by
  rcases Nat.eq_zero_or_pos f.len with h0 | h0
  · obtain rfl : f = .nil := by
      cases f with
      | nil => rfl
      | cons x k r => simp [Fr.len] at h0
    exact ⟨[], trivial, fun h => by omega⟩
  · obtain ⟨kb, ko, hA, h1, h2⟩ := h h0
    obtain ⟨us, h3, h4⟩ := InF.vals h2
    exact ⟨us, h3, fun _ => ⟨kb, ko, hA, h1, h4⟩⟩
section
variable {σ : Type}
def JS (F : Nat) (ty : TypeId) (val : σ → Value) (w : World) (s : σ) : Prop := w.heap[F]? = some (.cells #[val s] ty (0, 0))
def MpP (F : Nat) (ty : TypeId) (val : σ → Value) (S0 : Nat → Prop) (W : World) (s' : σ) (t' : Tr) (v : Value) (t : Tr) (e : Ending) (w' : World) : Prop :=
  ∃ v', e = .returned v' ∧ Gs (On F) W w' ∧ JS F ty val w' s' ∧ InT w' (Sin S0 W w') v' t' ∧ (v' = v → t' = t)
def CloAt (F : Nat) (ty : TypeId) (val : σ → Value) (S0 : Nat → Prop) (w0 : World) (st : σ → Nod → Nat → σ) (tr : Nod → Nat → Tr) (g : FuncId) (cap : Array Value) : Prop :=
  ∀ (s : σ) (d : Nat) (x : Nod) (w : World) (v : Value), d ≤ 1000000000 → JS F ty val w s → Gs (On F) w0 w → x.k = 110 → 0 ≤ x.n → x.n ≤ 65536 → x.a = ⟨#[]⟩ → x.m = ⟨#[]⟩ → (d : Int) ≤ x.n → InT w S0 v (x, .nil) →
    Calls Tryd.prog g (#[v, .int .i64 (d : Int)] ++ cap) w (MpP F ty val S0 w (st s x d) (tr x d) v (x, .nil))
def MapAt (n : Nat) (F : Nat) (ty : TypeId) (val : σ → Value) (S0 : Nat → Prop) (w0 : World) (st : σ → Nod → Nat → σ) (tr : Nod → Nat → Tr) (g : FuncId) (cap : Array Value) : Prop :=
  ∀ (t : Tr), szT t ≤ n → tvok t → ∀ (d : Nat), d + n ≤ 1000000000 → ∀ (s : σ) (w : World) (v : Value), Gs (On F) w0 w → JS F ty val w s → InT w S0 v t →
    Calls Tryd.prog 58 #[v, .int .i64 (d : Int), .func (.func g) #[] cap] w (MpP F ty val S0 w (fdT' st s d t) (mpT tr d t) v t)
set_option maxHeartbeats 6400000 in
set_option maxRecDepth 100000 in
theorem mapVar {F : Nat} {ty : TypeId} {val : σ → Value} {S0 : Nat → Prop} {w0 : World} {st : σ → Nod → Nat → σ} {tr : Nod → Nat → Tr} {g : FuncId} {cap : Array Value} (hE : EntF g) (hC : CloAt F ty val S0 w0 st tr g cap)
    (x : Nod) (h110 : x.k = 110) (hn0 : 0 ≤ x.n) (hn1 : x.n ≤ 65536) (ha : x.a = ⟨#[]⟩) (hm : x.m = ⟨#[]⟩) (d : Nat) (hd : d ≤ 1000000000) (s : σ) (w : World) (v : Value) (hg : Gs (On F) w0 w) (hj : JS F ty val w s) (hin : InT w S0 v (x, .nil)) :
    Calls Tryd.prog 58 #[v, .int .i64 (d : Int), .func (.func g) #[] cap] w (MpP F ty val S0 w (fdT' st s d (x, .nil)) (mpT tr d (x, .nil)) v (x, .nil)) := by
  have cG := fun h => hC s d x w v hd hj hg h110 hn0 hn1 ha hm h hin
  have HIN := Lib.hid hin
  obtain ⟨q, p, A, c, rfl, hq1, c0, c1, c2, c3, c4, hc, hkid⟩ := hin.open
  have HJ := Lib.hid hj
  have HE := Lib.hid hE
  obtain ⟨Z, hZ⟩ : ∃ Z, x.n = Z := ⟨_, rfl⟩
  rw [hZ] at c1
  rw [h110] at c0
  by_cases hdn : x.n < d
  · have e1 : fdT' st s d (x, .nil) = s := by unfold fdT'; rw [if_pos h110, if_pos hdn]
    have e2 : mpT tr d (x, .nil) = (x, .nil) := by unfold mpT; rw [if_pos h110, if_pos hdn]
    rw [e1, e2]
    rw [hZ] at hdn
    clear cG hin hkid hc hj hg hC e1 e2 c2 c3 c4 hE
    go_enter Tryd.func58, Tryd.ntmps58
    go_wp2_with fail
    go_ret
    exact ⟨_, rfl, Gs.refl _ _, HJ.out, HIN.out.keep (fun q h => .inl h) (fun _ _ => rfl), fun _ => rfl⟩
  · have e1 : fdT' st s d (x, .nil) = st s x d := by unfold fdT'; rw [if_pos h110, if_neg hdn]
    have e2 : mpT tr d (x, .nil) = tr x d := by unfold mpT; rw [if_pos h110, if_neg hdn]
    rw [e1, e2]
    have cG := cG (by omega)
    rw [hZ] at hdn
    clear hin hkid hc hj hg hC e1 e2 c2 c3 c4 hE
    go_enter Tryd.func58, Tryd.ntmps58
    go_wp2_with fail
    rw [HE.out, Oper.upon_enter]
    refine cG.mono ?_
    rintro e w1 ⟨v', rfl, h1, h2, h3, h4⟩
    go_wp2_with fail
    go_ret
    exact ⟨_, rfl, h1, h2, h3, h4⟩
end
end Go.Proofs.YtmiicfdigkkbdaaDoor
