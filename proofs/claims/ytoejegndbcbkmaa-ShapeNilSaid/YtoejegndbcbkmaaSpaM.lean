/-
  Layer 5, the program's small checks: number, plain, texts, named, long: what they tell of a node; the table's rows by category and kind.
-/
import Derived.Test.YtoejegndbcbkmaaMgA
import Derived.Test.YtoejegndbcbkmaaUp
import Derived.Test.YtoejegndbcbkmaaMgE
import Derived.Test.YtoejegndbcbkmaaShwM
namespace Go.Proofs.Ytoejegndbcbkmaa
open Go.RowKit

/-! ### plain: the rows of the table -/
section
variable {nk lg : ByteArray → Bool}
def hdB (nk lg : ByteArray → Bool) (x : Nod) (nm mr : List UInt8) (fr to : Int) : Bool := wordR nk lg x.a nm && wordR nk lg x.m mr && decide (fr ≤ x.n) && decide (x.n ≤ to)
def rowsAt (c k : Int) : List Rw := RWS.filter fun r => decide (r.cat = c) && decide (r.kind = k)
theorem isX_at (x : Nod) (l : List Inf) (c : Int) : isX nk lg x l c = (rowsAt c x.k).any fun r => hdB nk lg x r.nm r.mr r.fr r.to && seqOk l r.ks := by
  unfold isX rowsAt
  rw [List.any_filter]
  congr 1
  funext r
  unfold fitR hdB
  cases decide (r.cat = c) <;> cases decide (r.kind = x.k) <;> cases wordR nk lg x.a r.nm <;> cases wordR nk lg x.m r.mr <;> cases decide (r.fr ≤ x.n) <;> cases decide (x.n ≤ r.to) <;> rfl
theorem isX_one {x : Nod} {l : List Inf} {c k : Int} {nm mr ks : List UInt8} {fr to : Int} (hk : x.k = k) (h : rowsAt c k = [⟨c, k, nm, mr, fr, to, ks⟩]) : isX nk lg x l c = (hdB nk lg x nm mr fr to && seqOk l ks) := by
  rw [isX_at, hk, h]
  simp only [List.any_cons, List.any_nil, Bool.or_false]
theorem isX_two {x : Nod} {l : List Inf} {c k : Int} {nm mr ks ks' : List UInt8} {fr to : Int} (hk : x.k = k) (h : rowsAt c k = [⟨c, k, nm, mr, fr, to, ks⟩, ⟨c, k, nm, mr, fr, to, ks'⟩]) : isX nk lg x l c = (hdB nk lg x nm mr fr to && (seqOk l ks || seqOk l ks')) := by
  rw [isX_at, hk, h]
  simp only [List.any_cons, List.any_nil, Bool.or_false]
  cases hdB nk lg x nm mr fr to <;> rfl
theorem isX_none {x : Nod} {l : List Inf} {c : Int} (h : ∀ r ∈ RWS, r.cat = c → r.kind ≠ x.k) : isX nk lg x l c = false := by
  rw [isX_at]
  unfold rowsAt
  rw [List.any_eq_false]
  intro r hr
  rw [List.mem_filter] at hr
  simp only [Bool.and_eq_true, decide_eq_true_eq] at hr
  exact absurd hr.2.2 (h r hr.1 hr.2.1)
def numB (x : Nod) (a b : Int) : Bool := decide (a ≤ x.n) && decide (x.n ≤ b) && isEmp x.a && isEmp x.m
def texB (x : Nod) (A M : ByteArray → Bool) : Bool := decide (x.n = 0) && A x.a && M x.m
theorem hd_num (x : Nod) (fr to : Int) : hdB nk lg x [] [] fr to = numB x fr to := by
  unfold hdB numB wordR
  simp only [List.nil_eq, reduceCtorEq, if_false]
  cases isEmp x.a <;> cases isEmp x.m <;> cases decide (fr ≤ x.n) <;> cases decide (x.n ≤ to) <;> rfl
theorem zero_both (n : Int) : (decide (0 ≤ n) && decide (n ≤ 0)) = decide (n = 0) := by
  by_cases h : n = 0
  · subst h; rfl
  · rw [decide_eq_false h]
    by_cases h1 : 0 ≤ n
    · rw [decide_eq_false (by omega : ¬ n ≤ 0), Bool.and_false]
    · rw [decide_eq_false h1]; rfl
theorem hd_tex {x : Nod} {nm mr : List UInt8} {A M : ByteArray → Bool} (ha : ∀ s, wordR nk lg s nm = A s) (hm : ∀ s, wordR nk lg s mr = M s) : hdB nk lg x nm mr 0 0 = texB x A M := by
  unfold hdB texB
  rw [ha, hm, ← zero_both]
  cases A x.a <;> cases M x.m <;> cases decide (0 ≤ x.n) <;> cases decide (x.n ≤ 0) <;> rfl
end
/-! ### what the program's calls tell -/
def TelB (b : Bool) (w : World) (e : Ending) (w' : World) : Prop := e = .returned (.bool b) ∧ Up w w'
theorem tel_ret {a b : Bool} {w w' : World} (h : a = b) (u : Up w w') : TelB a w (.returned (.bool b)) w' := ⟨by rw [h], u⟩
set_option maxHeartbeats 3200000 in
set_option maxRecDepth 100000 in
theorem number_any (x : Nod) (f : Fr) (a b : Int) (w : World) (v : Value) (hv : HasT w v (some (x, f))) :
    Calls Try.prog 49 #[v, .int .i64 a, .int .i64 b] w (TelB (numB x a b) w) := by
  obtain ⟨q, p, A, c, rfl, hq, c0, c1, c2, c3, c4, hc, hkid⟩ := InT.open hv
  have e1 := emp_eq x.a
  have e2 := emp_eq x.m
  have HB : Hid (numB x a b = (decide (a ≤ x.n) && decide (x.n ≤ b) && isEmp x.a && isEmp x.m)) := Lib.hid rfl
  rw [HB.out]
  obtain ⟨d1, h1⟩ : ∃ d, decide (a ≤ x.n) = d := ⟨_, rfl⟩
  obtain ⟨d2, h2⟩ : ∃ d, decide (x.n ≤ b) = d := ⟨_, rfl⟩
  obtain ⟨d3, h3⟩ : ∃ d, isEmp x.a = d := ⟨_, rfl⟩
  obtain ⟨d4, h4⟩ : ∃ d, isEmp x.m = d := ⟨_, rfl⟩
  rw [h1, h2, h3, h4]
  rw [h3] at e1
  rw [h4] at e2
  clear hkid hc hq h3 h4 hv HB
  cases d1
  · have g1 : ¬ a ≤ x.n := of_decide_eq_false h1
    go_enter Try.func49, Try.ntmps49
    go_wp2_with fail
    go_ret
    exact tel_ret rfl (Up.refl _)
  · have g1 : a ≤ x.n := of_decide_eq_true h1
    cases d2
    · have g2 : ¬ x.n ≤ b := of_decide_eq_false h2
      go_enter Try.func49, Try.ntmps49
      go_wp2_with fail
      go_ret
      exact tel_ret rfl (Up.refl _)
    · have g2 : x.n ≤ b := of_decide_eq_true h2
      cases d3
      · go_enter Try.func49, Try.ntmps49
        go_wp2_with fail
        go_ret
        exact tel_ret rfl (Up.refl _)
      · cases d4
        all_goals
          go_enter Try.func49, Try.ntmps49
          go_wp2_with fail
          go_ret
          exact tel_ret rfl (Up.refl _)
set_option maxHeartbeats 1600000 in
set_option maxRecDepth 100000 in
theorem plain_any (x : Nod) (f : Fr) (w : World) (v : Value) (hv : HasT w v (some (x, f))) :
    Calls Try.prog 51 #[v] w (TelB (numB x 0 0) w) := by
  have cN := number_any x f 0 0 w v hv
  obtain ⟨b, hb⟩ : ∃ b, numB x 0 0 = b := ⟨_, rfl⟩
  rw [hb] at cN ⊢
  clear hb hv
  go_enter Try.func51, Try.ntmps51
  go_wp2_with fail
  refine cN.mono ?_
  rintro e w1 ⟨rfl, u1⟩
  go_wp2_with fail
  go_ret
  exact tel_ret rfl u1
set_option maxHeartbeats 1600000 in
set_option maxRecDepth 100000 in
theorem empty_any (s : ByteArray) (w : World) : Calls Try.prog 68 #[.string s] w (TelB (isEmp s) w) := by
  have e1 := emp_eq s
  obtain ⟨b, hb⟩ : ∃ b, isEmp s = b := ⟨_, rfl⟩
  rw [hb] at e1 ⊢
  go_enter Try.func68, Try.ntmps68
  go_wp2_with fail
  go_ret
  exact tel_ret rfl (Up.refl _)
/-- A function of the program's own text. -/
def Ent (k : FuncId) : Prop := ∀ (args : Array Value) (w : World), (callFunc k args).run Try.prog w = .ok (.enter k args) w
theorem ent_check : Ent 63 := fun _ _ => by kernel_rfl
theorem ent_long : Ent 62 := fun _ _ => by kernel_rfl
theorem ent_empty : Ent 68 := fun _ _ => by kernel_rfl
set_option maxHeartbeats 3200000 in
set_option maxRecDepth 100000 in
theorem texts_any (x : Nod) (f : Fr) (kf mf : FuncId) (F M : ByteArray → Bool) (w : World) (v : Value) (hv : HasT w v (some (x, f))) (ek : Ent kf) (em : Ent mf)
    (ck : ∀ w', Up w w' → Calls Try.prog kf #[.string x.a] w' (TelB (F x.a) w')) (cm : ∀ w', Up w w' → Calls Try.prog mf #[.string x.m] w' (TelB (M x.m) w')) :
    Calls Try.prog 61 #[v, .func (.func kf) #[] #[], .func (.func mf) #[] #[]] w (TelB (texB x F M) w) := by
  obtain ⟨q, p, A, c, rfl, hq, c0, c1, c2, c3, c4, hc, hkid⟩ := InT.open hv
  have HB : Hid (texB x F M = (decide (x.n = 0) && F x.a && M x.m)) := Lib.hid rfl
  rw [HB.out]
  obtain ⟨d1, h1⟩ : ∃ d, decide (x.n = 0) = d := ⟨_, rfl⟩
  obtain ⟨d2, h2⟩ : ∃ d, F x.a = d := ⟨_, rfl⟩
  obtain ⟨d3, h3⟩ : ∃ d, M x.m = d := ⟨_, rfl⟩
  have c3' : ∀ u : Upw w, u.w.cell? ⟨q, p + 3, none⟩ = some (.string x.m) := Upw.cell c3
  rw [h1, h2, h3]
  rw [h2] at ck
  rw [h3] at cm
  clear hkid hc hq h2 h3 hv HB
  cases d1
  · have g1 : ¬ x.n = 0 := of_decide_eq_false h1
    go_enter Try.func61, Try.ntmps61
    go_wp2_with fail
    go_ret
    exact tel_ret rfl (Up.refl _)
  · have g1 : x.n = 0 := of_decide_eq_true h1
    cases d2
    · go_enter Try.func61, Try.ntmps61
      go_wp2_with fail
      rw [ek, Oper.upon_enter]
      refine (ck _ (Up.refl _)).mono ?_
      rintro e w1 ⟨rfl, u1⟩
      go_wp2_with fail
      go_ret
      exact tel_ret rfl u1
    · go_enter Try.func61, Try.ntmps61
      go_wp2_with fail
      rw [ek, Oper.upon_enter]
      refine (ck _ (Up.refl _)).mono ?_
      rintro e w1 ⟨rfl, u1⟩
      have c3'' := c3' ⟨w1, u1⟩
      simp only at c3''
      go_wp2_with fail
      rw [em, Oper.upon_enter]
      refine (cm _ u1).mono ?_
      rintro e w2 ⟨rfl, u2⟩
      go_wp2_with fail
      go_ret
      exact tel_ret (by cases d3 <;> rfl) (u1.trans u2)
theorem up_tel {b : Bool} {w : World} {P : Program} {k : FuncId} {args : Array Value} (h : Calls P k args w (B.NmPost b w)) : Calls P k args w (TelB b w) := h.mono fun _ _ h => h
theorem named_any (x : Nod) (f : Fr) (w : World) (v : Value) (hv : HasT w v (some (x, f))) (ha : x.a.size ≤ 1000000000) :
    Calls Try.prog 53 #[v] w (TelB (texB x B.nck isEmp) w) := by
  have cT := texts_any x f 63 68 B.nck isEmp w v hv ent_check ent_empty (fun w' _ => up_tel (B.check_any _ w' ha)) (fun w' _ => empty_any _ w')
  obtain ⟨b, hb⟩ : ∃ b, texB x B.nck isEmp = b := ⟨_, rfl⟩
  rw [hb] at cT ⊢
  clear hb hv
  go_enter Try.func53, Try.ntmps53
  go_wp2_with fail
  refine cT.mono ?_
  rintro e w1 ⟨rfl, u1⟩
  go_wp2_with fail
  go_ret
  exact tel_ret rfl u1
theorem longd_any (x : Nod) (f : Fr) (w : World) (v : Value) (hv : HasT w v (some (x, f))) (ha : x.a.size ≤ 1000000000) (hx : B.Nx w) :
    Calls Try.prog 52 #[v] w (TelB (texB x B.long isEmp) w) := by
  have cT := texts_any x f 62 68 B.long isEmp w v hv ent_long ent_empty (fun w' u => up_tel (B.long_any _ w' ha (B.Nx.below hx u))) (fun w' _ => empty_any _ w')
  obtain ⟨b, hb⟩ : ∃ b, texB x B.long isEmp = b := ⟨_, rfl⟩
  rw [hb] at cT ⊢
  clear hb hv
  go_enter Try.func52, Try.ntmps52
  go_wp2_with fail
  refine cT.mono ?_
  rintro e w1 ⟨rfl, u1⟩
  go_wp2_with fail
  go_ret
  exact tel_ret rfl u1
theorem names2_any (x : Nod) (f : Fr) (w : World) (v : Value) (hv : HasT w v (some (x, f))) (ha : x.a.size ≤ 1000000000) (hm : x.m.size ≤ 1000000000) :
    Calls Try.prog 61 #[v, .func (.func 63) #[] #[], .func (.func 63) #[] #[]] w (TelB (texB x B.nck B.nck) w) :=
  texts_any x f 63 63 B.nck B.nck w v hv ent_check ent_check (fun w' _ => up_tel (B.check_any _ w' ha)) (fun w' _ => up_tel (B.check_any _ w' hm))
theorem longs2_any (x : Nod) (f : Fr) (w : World) (v : Value) (hv : HasT w v (some (x, f))) (ha : x.a.size ≤ 1000000000) (hm : x.m.size ≤ 1000000000) (hx : B.Nx w) :
    Calls Try.prog 61 #[v, .func (.func 62) #[] #[], .func (.func 62) #[] #[]] w (TelB (texB x B.long B.long) w) :=
  texts_any x f 62 62 B.long B.long w v hv ent_long ent_long (fun w' u => up_tel (B.long_any _ w' ha (B.Nx.below hx u))) (fun w' u => up_tel (B.long_any _ w' hm (B.Nx.below hx u)))
end Go.Proofs.Ytoejegndbcbkmaa
