/-
  Layer 5, the program's small checks: number, plain, texts, named, long: what they tell of a node; the table's rows by category and kind.
-/
import Derived.Test.YthonaeigacfmbaaGreatDoorGq23
namespace Go.Proofs.YthonaeigacfmbaaGreatDoor
open Go.RowKit

/-! ### plain: the rows of the table -/
section
variable {nk lg : ByteArray → Bool}
def hdB (nk lg : ByteArray → Bool) (x : Nod) (nm mr : List UInt8) (fr upto : Int) : Bool := wordR nk lg x.a nm && wordR nk lg x.m mr && decide (fr ≤ x.n) && decide (x.n ≤ upto)
def rowsAt (c k : Int) : List Rw := RWS.filter fun r => decide (r.cat = c) && decide (r.kind = k)
theorem isX_at (x : Nod) (l : List Inf) (c : Int) : isX nk lg x l c = (rowsAt c x.k).any fun r => hdB nk lg x r.nm r.mr r.fr r.to && seqOk l r.ks := by
  unfold isX rowsAt
  rw [List.any_filter]
  congr 1
  funext r
  unfold fitR hdB
  cases decide (r.cat = c) <;> cases decide (r.kind = x.k) <;> cases wordR nk lg x.a r.nm <;> cases wordR nk lg x.m r.mr <;> cases decide (r.fr ≤ x.n) <;> cases decide (x.n ≤ r.to) <;> rfl
theorem isX_one {x : Nod} {l : List Inf} {c k : Int} {nm mr ks : List UInt8} {fr upto : Int} (hk : x.k = k) (h : rowsAt c k = [⟨c, k, nm, mr, fr, upto, ks⟩]) : isX nk lg x l c = (hdB nk lg x nm mr fr upto && seqOk l ks) := by
  rw [isX_at, hk, h]
  simp only [List.any_cons, List.any_nil, Bool.or_false]
theorem isX_none {x : Nod} {l : List Inf} {c : Int} (h : ∀ r ∈ RWS, r.cat = c → r.kind ≠ x.k) : isX nk lg x l c = false := by
  rw [isX_at]
  unfold rowsAt
  rw [List.any_eq_false]
  intro r hr
  rw [List.mem_filter] at hr
  simp only [Bool.and_eq_true, decide_eq_true_eq] at hr
  exact absurd hr.2.2 (h r hr.1 hr.2.1)
def numB (x : Nod) (a b : Int) : Bool := decide (a ≤ x.n) && decide (x.n ≤ b) && isEmp x.a && isEmp x.m
def texB (x : Nod) (A M : ByteArray → Bool) : Bool := decide (x.n = 0) && A x.a && M x.m
theorem hd_num (x : Nod) (fr upto : Int) : hdB nk lg x [] [] fr upto = numB x fr upto := by
  unfold hdB numB wordR
  simp only [List.nil_eq, reduceCtorEq, if_false]
  cases isEmp x.a <;> cases isEmp x.m <;> cases decide (fr ≤ x.n) <;> cases decide (x.n ≤ upto) <;> rfl
theorem zero_both (n : Int) : (decide (0 ≤ n) && decide (n ≤ 0)) = decide (n = 0) := by
  by_cases h : n = 0
  · subst h; rfl
  · rw [decide_eq_false h]
    by_cases h1 : 0 ≤ n
    · rw [decide_eq_false (by omega : ¬ n ≤ 0), Bool.and_false]
    · rw [decide_eq_false h1]; rfl
theorem hd_tex {x : Nod} {nm mr : List UInt8} {A M : ByteArray → Bool} (ha : ∀ s, wordR nk lg s nm = A s) (hm : ∀ s, wordR nk lg s mr = M s) : hdB nk lg x nm mr 0 0 = texB x A M := by
  unfold hdB texB
  rw [ha, hm, ← zero_both]
  cases A x.a <;> cases M x.m <;> cases decide (0 ≤ x.n) <;> cases decide (x.n ≤ 0) <;> rfl
end
/-! ### what the program's calls tell -/
def TelB (b : Bool) (w : World) (e : Ending) (w' : World) : Prop := e = .returned (.bool b) ∧ Up w w'
theorem tel_ret {a b : Bool} {w w' : World} (h : a = b) (u : Up w w') : TelB a w (.returned (.bool b)) w' := ⟨by rw [h], u⟩
set_option maxHeartbeats 3200000 in
set_option maxRecDepth 100000 in
theorem number_any (x : Nod) (f : Fr) (a b : Int) (w : World) (v : Value) (hv : HasT w v (some (x, f))) :
    Calls Tryz.prog 159 #[v, .int .i64 a, .int .i64 b] w (TelB (numB x a b) w) := by
  obtain ⟨q, p, A, c, rfl, hq, c0, c1, c2, c3, c4, hc, hkid⟩ := InT.open hv
  have e1 := emp_eq x.a
  have e2 := emp_eq x.m
  have HB : Hid (numB x a b = (decide (a ≤ x.n) && decide (x.n ≤ b) && isEmp x.a && isEmp x.m)) := Lib.hid rfl
  rw [HB.out]
  obtain ⟨d1, h1⟩ : ∃ d, decide (a ≤ x.n) = d := ⟨_, rfl⟩
  obtain ⟨d2, h2⟩ : ∃ d, decide (x.n ≤ b) = d := ⟨_, rfl⟩
  obtain ⟨d3, h3⟩ : ∃ d, isEmp x.a = d := ⟨_, rfl⟩
  obtain ⟨d4, h4⟩ : ∃ d, isEmp x.m = d := ⟨_, rfl⟩
  rw [h1, h2, h3, h4]
  rw [h3] at e1
  rw [h4] at e2
  clear hkid hc hq h3 h4 hv HB
  cases d1
  · have g1 : ¬ a ≤ x.n := of_decide_eq_false h1
    go_enter Tryz.func159, Tryz.ntmps159
    go_wp2_with fail
    go_ret
    exact tel_ret rfl (Up.refl _)
  · have g1 : a ≤ x.n := of_decide_eq_true h1
    cases d2
    · have g2 : ¬ x.n ≤ b := of_decide_eq_false h2
      go_enter Tryz.func159, Tryz.ntmps159
      go_wp2_with fail
      go_ret
      exact tel_ret rfl (Up.refl _)
    · have g2 : x.n ≤ b := of_decide_eq_true h2
      cases d3
      · go_enter Tryz.func159, Tryz.ntmps159
        go_wp2_with fail
        go_ret
        exact tel_ret rfl (Up.refl _)
      · cases d4
        all_goals
          go_enter Tryz.func159, Tryz.ntmps159
          go_wp2_with fail
          go_ret
          exact tel_ret rfl (Up.refl _)
set_option maxHeartbeats 1600000 in
set_option maxRecDepth 100000 in
theorem plain_any (x : Nod) (f : Fr) (w : World) (v : Value) (hv : HasT w v (some (x, f))) :
    Calls Tryz.prog 130 #[v] w (TelB (numB x 0 0) w) := by
  have cN := number_any x f 0 0 w v hv
  obtain ⟨b, hb⟩ : ∃ b, numB x 0 0 = b := ⟨_, rfl⟩
  rw [hb] at cN ⊢
  clear hb hv
  go_enter Tryz.func130, Tryz.ntmps130
  go_wp2_with fail
  refine cN.mono ?_
  rintro e w1 ⟨rfl, u1⟩
  go_wp2_with fail
  go_ret
  exact tel_ret rfl u1
set_option maxHeartbeats 1600000 in
set_option maxRecDepth 100000 in
theorem empty_any (s : ByteArray) (w : World) : Calls Tryz.prog 194 #[.string s] w (TelB (isEmp s) w) := by
  have e1 := emp_eq s
  obtain ⟨b, hb⟩ : ∃ b, isEmp s = b := ⟨_, rfl⟩
  rw [hb] at e1 ⊢
  go_enter Tryz.func194, Tryz.ntmps194
  go_wp2_with fail
  go_ret
  exact tel_ret rfl (Up.refl _)
def Ent (k : FuncId) : Prop := ∀ (args : Array Value) (w : World), (callFunc k args).run Tryz.prog w = .ok (.enter k args) w
theorem ent_check : Ent 170 := fun _ _ => by kernel_rfl
theorem ent_long : Ent 56 := fun _ _ => by kernel_rfl
theorem ent_empty : Ent 194 := fun _ _ => by kernel_rfl
set_option maxHeartbeats 3200000 in
set_option maxRecDepth 100000 in
theorem texts_any (x : Nod) (f : Fr) (kf mf : FuncId) (F M : ByteArray → Bool) (w : World) (v : Value) (hv : HasT w v (some (x, f))) (ek : Ent kf) (em : Ent mf)
    (ck : ∀ w', Up w w' → Calls Tryz.prog kf #[.string x.a] w' (TelB (F x.a) w')) (cm : ∀ w', Up w w' → Calls Tryz.prog mf #[.string x.m] w' (TelB (M x.m) w')) :
    Calls Tryz.prog 193 #[v, .func (.func kf) #[] #[], .func (.func mf) #[] #[]] w (TelB (texB x F M) w) := by
  obtain ⟨q, p, A, c, rfl, hq, c0, c1, c2, c3, c4, hc, hkid⟩ := InT.open hv
  have HB : Hid (texB x F M = (decide (x.n = 0) && F x.a && M x.m)) := Lib.hid rfl
  rw [HB.out]
  obtain ⟨d1, h1⟩ : ∃ d, decide (x.n = 0) = d := ⟨_, rfl⟩
  obtain ⟨d2, h2⟩ : ∃ d, F x.a = d := ⟨_, rfl⟩
  obtain ⟨d3, h3⟩ : ∃ d, M x.m = d := ⟨_, rfl⟩
  have c3' : ∀ u : Upw w, u.w.cell? ⟨q, p + 3, none⟩ = some (.string x.m) := Upw.cell c3
  rw [h1, h2, h3]
  rw [h2] at ck
  rw [h3] at cm
  clear hkid hc hq h2 h3 hv HB
  cases d1
  · have g1 : ¬ x.n = 0 := of_decide_eq_false h1
    go_enter Tryz.func193, Tryz.ntmps193
    go_wp2_with fail
    go_ret
    exact tel_ret rfl (Up.refl _)
  · have g1 : x.n = 0 := of_decide_eq_true h1
    cases d2
    · go_enter Tryz.func193, Tryz.ntmps193
      go_wp2_with fail
      rw [ek, Oper.upon_enter]
      refine (ck _ (Up.refl _)).mono ?_
      rintro e w1 ⟨rfl, u1⟩
      go_wp2_with fail
      go_ret
      exact tel_ret rfl u1
    · go_enter Tryz.func193, Tryz.ntmps193
      go_wp2_with fail
      rw [ek, Oper.upon_enter]
      refine (ck _ (Up.refl _)).mono ?_
      rintro e w1 ⟨rfl, u1⟩
      have c3'' := c3' ⟨w1, u1⟩
      simp only at c3''
      go_wp2_with fail
      rw [em, Oper.upon_enter]
      refine (cm _ u1).mono ?_
      rintro e w2 ⟨rfl, u2⟩
      go_wp2_with fail
      go_ret
      exact tel_ret (by cases d3 <;> rfl) (u1.trans u2)
theorem up_tel {b : Bool} {w : World} {P : Program} {k : FuncId} {args : Array Value} (h : Calls P k args w (B.NmPost b w)) : Calls P k args w (TelB b w) := h.mono fun _ _ h => h
theorem named_any (x : Nod) (f : Fr) (w : World) (v : Value) (hv : HasT w v (some (x, f))) (ha : x.a.size ≤ 1000000000) :
    Calls Tryz.prog 133 #[v] w (TelB (texB x B.nck isEmp) w) := by
  have cT := texts_any x f 170 194 B.nck isEmp w v hv ent_check ent_empty (fun w' _ => up_tel (B.check_any _ w' ha)) (fun w' _ => empty_any _ w')
  obtain ⟨b, hb⟩ : ∃ b, texB x B.nck isEmp = b := ⟨_, rfl⟩
  rw [hb] at cT ⊢
  clear hb hv
  go_enter Tryz.func133, Tryz.ntmps133
  go_wp2_with fail
  refine cT.mono ?_
  rintro e w1 ⟨rfl, u1⟩
  go_wp2_with fail
  go_ret
  exact tel_ret rfl u1
theorem longd_any (x : Nod) (f : Fr) (w : World) (v : Value) (hv : HasT w v (some (x, f))) (ha : x.a.size ≤ 1000000000) (hx : B.Nx w) :
    Calls Tryz.prog 132 #[v] w (TelB (texB x B.long isEmp) w) := by
  have cT := texts_any x f 56 194 B.long isEmp w v hv ent_long ent_empty (fun w' u => up_tel (B.long_any _ w' ha (B.Nx.below hx u))) (fun w' _ => empty_any _ w')
  obtain ⟨b, hb⟩ : ∃ b, texB x B.long isEmp = b := ⟨_, rfl⟩
  rw [hb] at cT ⊢
  clear hb hv
  go_enter Tryz.func132, Tryz.ntmps132
  go_wp2_with fail
  refine cT.mono ?_
  rintro e w1 ⟨rfl, u1⟩
  go_wp2_with fail
  go_ret
  exact tel_ret rfl u1
theorem names2_any (x : Nod) (f : Fr) (w : World) (v : Value) (hv : HasT w v (some (x, f))) (ha : x.a.size ≤ 1000000000) (hm : x.m.size ≤ 1000000000) :
    Calls Tryz.prog 193 #[v, .func (.func 170) #[] #[], .func (.func 170) #[] #[]] w (TelB (texB x B.nck B.nck) w) :=
  texts_any x f 170 170 B.nck B.nck w v hv ent_check ent_check (fun w' _ => up_tel (B.check_any _ w' ha)) (fun w' _ => up_tel (B.check_any _ w' hm))
end Go.Proofs.YthonaeigacfmbaaGreatDoor
namespace Go.Proofs.YthonaeigacfmbaaGreatDoor
open Go.RowKit

theorem PtF.kid {w : World} {S : Nat → Prop} : ∀ {vs : List Value} {f : Fr} {m : Nat} {t : Tr}, PtF w S vs f → f.get m = some t → ∃ v, vs[m]? = some v ∧ InT w S v t
  | [], .nil, m, t, _, hg => by cases m <;> cases hg
  | v :: vs, .cons x k r, 0, t, h, hg => by injection hg with hg; subst hg; exact ⟨v, rfl, h.1⟩
  | v :: vs, .cons x k r, m + 1, t, h, hg => PtF.kid (vs := vs) (f := r) (m := m) h.2 hg
def Fns (w : World) (X : Option Nat) (A : Option Addr) (fs : List (FuncId × Array Value)) : Prop :=
  ∀ (j : Nat) k cap, fs[j]? = some (k, cap) → ∃ g o, A = some ⟨g, o, none⟩ ∧ X ≠ some g ∧ w.cell? ⟨g, o + j, none⟩ = some (.func (.func k) #[] cap)
def allB (n : Nat) (bs : Nat → Bool) : Bool := (List.range n).all bs
theorem allB_yes {n : Nat} {bs : Nat → Bool} (h : ∀ j, j < n → bs j = true) : allB n bs = true := by
  unfold allB
  rw [List.all_eq_true]
  intro j hj
  exact h j (List.mem_range.1 hj)
theorem allB_no {n j : Nat} {bs : Nat → Bool} (hj : j < n) (h : bs j = false) : allB n bs = false := by
  unfold allB
  rw [List.all_eq_false]
  exact ⟨j, List.mem_range.2 hj, by rw [h]; exact Bool.false_ne_true⟩
def TelX (b : Bool) (X : Option Nat) (w : World) (e : Ending) (w' : World) : Prop := e = .returned (.bool b) ∧ w.grownBy w' X
theorem telx_ret {a b : Bool} {X : Option Nat} {w w' : World} (h : a = b) (u : w.grownBy w' X) : TelX a X w (.returned (.bool b)) w' := ⟨by rw [h], u⟩
theorem gb_cellX {w w' : World} {X : Option Nat} (h : w.grownBy w' X) {p : Addr} {v : Value} (hc : w.cell? p = some v) (hne : X ≠ some p.block) : w'.cell? p = some v := h.cell hc (Ne.symm hne)
theorem up_gb {W w w' : World} {X : Option Nat} (hu : Up W w) (h : w.grownBy w' X) (hX : ∀ m, X = some m → W.heap.size ≤ m) : Up W w' := hu.grown h hu.size fun g hg => hX g hg
set_option maxHeartbeats 3200000 in
set_option maxRecDepth 100000 in
theorem pkids_any (W w0 : World) (v : Value) (x : Nod) (f : Fr) (hv : HasT W v (some (x, f))) (hu : Up W w0) (hf : f.len ≤ 1000000)
    (A : Option Addr) (c : Nat) (fs : List (FuncId × Array Value)) (hfl : fs.length ≤ 1000000) (X : Option Nat) (hA : Fns w0 X A fs) (hX : ∀ m, X = some m → W.heap.size ≤ m)
    (bs : Nat → Bool) (J : Nat → World → Prop) (hJ : J 0 w0)
    (hc : ∀ (i : Nat) (t : Tr) (kv : Value) (w : World) k cap, f.get i = some t → fs[i]? = some (k, cap) → HasT W kv (some t) → Up W w → J i w →
      Ent k ∧ Calls Tryz.prog k (#[kv] ++ cap) w fun e w' => TelX (bs i) X w e w' ∧ (bs i = true → J (i + 1) w')) :
    Calls Tryz.prog 131 #[v, .slice A fs.length c] w0 (TelX (decide (f.len = fs.length) && allB fs.length bs) X w0) := by
  obtain ⟨q, p, A', c', rfl, hq, c0, c1, c2, c3, c4, hcc, hkid⟩ := InT.open hv
  obtain ⟨us, hus, hcells⟩ := Kid.vals hkid HasT.bel
  have hlen := hus.len
  have HU := Lib.hid hu
  have HA := Lib.hid hA
  have HX := Lib.hid hX
  have HC := Lib.hid hc
  have HUS := Lib.hid hus
  have HCE := Lib.hid hcells
  have c4' := hu.cell c4
  have C4 := Lib.hid c4
  obtain ⟨M, hM⟩ : ∃ M, f.len = M := ⟨_, rfl⟩
  obtain ⟨n, hn⟩ : ∃ n, fs.length = n := ⟨_, rfl⟩
  rw [hM] at hf hlen hcc c4' ⊢
  rw [hn] at hfl ⊢
  have HM := Lib.hid hM
  have HN := Lib.hid hn
  clear hM hn hc hA hX hu hkid hus hcells c0 c1 c2 c3 c4 hv
  by_cases hmn : M = n
  · subst hmn
    have HB : Hid ((decide (M = M) && allB M bs) = allB M bs) := Lib.hid (by rw [decide_eq_true rfl]; rfl)
    rw [HB.out]
    go_enter Tryz.func131, Tryz.ntmps131
    go_wp2_with fail
    clear c4'
    go_loopw [5, 6, 17] (fun _ _ i wr => ∃ k : Nat, k ≤ M ∧ i = .int .i64 k ∧ w0.grownBy wr X ∧ J k wr ∧ (∀ j : Nat, j < k → bs j = true)) (fun _ _ i _ => M - (intOf i).toNat)
    case atStart => exact ⟨0, Nat.zero_le _, rfl, gb_refl _ _, hJ, fun j hj => absurd hj (Nat.not_lt_zero _)⟩
    case round =>
      obtain ⟨k, hk, rfl, hg, hj, hall⟩ := hrel
      have HG := Lib.hid hg
      have HJ := Lib.hid hj
      have HALL := Lib.hid hall
      clear hg hj hall hJ
      by_cases hlt : k < M
      · obtain ⟨⟨kf, cap⟩, hfs⟩ : ∃ y, fs[k]? = some y := ⟨_, List.getElem?_eq_getElem (by rw [HN.out]; exact hlt)⟩
        obtain ⟨g, o, rfl, hXg, hcf0⟩ := HA.out k kf cap hfs
        have hcf := gb_cellX HG.out hcf0 hXg
        obtain ⟨t, ht⟩ := Fr.get_some (f := f) (i := k) (by rw [HM.out]; exact hlt)
        obtain ⟨b, o', rfl, hb, hcs⟩ := HCE.out (by rw [HM.out]; omega)
        obtain ⟨kv, hkv, hint⟩ := PtF.kid HUS.out ht
        have uw := up_gb HU.out HG.out HX.out
        have hck := uw.cell (hcs k kv hkv)
        have hc4 := uw.cell C4.out
        rw [HM.out] at hc4
        obtain ⟨ek, cK⟩ := HC.out k t kv wr kf cap ht hfs hint uw HJ.out
        have UW := Lib.hid uw
        clear hcf0 hkv hint hcs hfs ht uw
        obtain ⟨d, hd⟩ : ∃ d, bs k = d := ⟨_, rfl⟩
        rw [hd] at cK
        have HD := Lib.hid hd
        clear hd
        cases d
        · go_wp2_with fail
          rw [ek, Oper.upon_enter]
          refine cK.mono ?_
          rintro e w2 ⟨⟨rfl, g2⟩, -⟩
          go_wp2_with fail
          go_ret
          exact telx_ret (allB_no hlt HD.out) (gb_trans HG.out g2)
        · go_wp2_with fail
          rw [ek, Oper.upon_enter]
          refine cK.mono ?_
          rintro e w2 ⟨⟨rfl, g2⟩, hj2⟩
          go_wp2_with fail
          go_roundw
          case rel => exact ⟨k + 1, by omega, by go_num, gb_trans HG.out g2, hj2 (by simp), fun j hj => by
            rcases Nat.lt_succ_iff_lt_or_eq.1 hj with h | h
            · exact HALL.out j h
            · rw [h]; exact HD.out⟩
          case measure => simp [intOf]; omega
      · have hkm : k = M := by omega
        subst hkm
        go_wp2_with fail
        go_ret
        exact telx_ret (allB_yes HALL.out) HG.out
  · have HB : Hid ((decide (M = n) && allB n bs) = false) := Lib.hid (by rw [decide_eq_false hmn]; rfl)
    have hmn' : ¬ (M : Int) = (n : Int) := by omega
    rw [HB.out]
    go_enter Tryz.func131, Tryz.ntmps131
    go_wp2_with fail
    go_ret
    exact telx_ret rfl (gb_refl _ _)
end Go.Proofs.YthonaeigacfmbaaGreatDoor
namespace Go.Proofs.YthonaeigacfmbaaGreatDoor
open Go.RowKit

def Wr (bw : Nat) (w : World) (ts : List ByteArray) : Prop := ∃ v, w.heap[bw]? = some (.cells #[v] 93 (0, 0)) ∧ w.ownsRow (bw + 1) 9 1 v ts.length (ts.map Value.string)
def WrP (W : World) (bw : Nat) (ts : List ByteArray) (e : Ending) (w' : World) : Prop := (∃ u, e = .returned u) ∧ Up W w' ∧ Wr bw w' ts
theorem Wr.up {bw : Nat} {w w' : World} {ts : List ByteArray} (h : Wr bw w ts) (u : Up w w') : Wr bw w' ts := by
  obtain ⟨v, h1, h2⟩ := h
  exact ⟨v, u.row h1, own_gs h2 (Gs.of (S := fun _ => False) u) fun _ h => h.elim⟩
set_option maxHeartbeats 6400000 in
set_option maxRecDepth 100000 in
theorem put_any (W : World) (bw : Nat) (hB : W.heap.size ≤ bw) (w : World) (hu : Up W w) (ts news : List ByteArray) (hw : Wr bw w ts) (hts : ts.length ≤ 1000000) (hn : news.length ≤ 10) (hn0 : 0 < news.length) (H : Nat) (hc : ∀ (j : Nat) u, (news.map Value.string)[j]? = some u → w.cell? ⟨H, 0 + j, none⟩ = some u) :
    Calls Tryz.prog 105 #[.pointer (some ⟨bw, 0, none⟩), .slice (some ⟨H, 0, none⟩) news.length news.length] w (WrP W bw (ts ++ news)) := by
  obtain ⟨v, h1, h2⟩ := hw
  have c0 : w.cell? ⟨bw, 0, none⟩ = some v := cell_of_row w bw 0 _ _ _ h1
  have hBw := heap_lt h1
  have HROW := Lib.hid h1
  have HOWN := Lib.hid h2
  have HU := Lib.hid hu
  have HC : Hid (∀ (j : Nat) u, (news.map Value.string)[j]? = some u → w.cell? ((⟨H, 0, none⟩ : Addr).add j) = some u) := Lib.hid fun j u h => by
    have e1 : (⟨H, 0, none⟩ : Addr).add j = ⟨H, 0 + j, none⟩ := by unfold Addr.add; split <;> simp_all
    rw [e1]
    exact hc j u h
  obtain ⟨i0, hi0, hz0, hz1, hz2⟩ := info_parts B.infoStr
  obtain ⟨n, hnn⟩ : ∃ n, ts.length = n := ⟨_, rfl⟩
  obtain ⟨m, hmm⟩ : ∃ m, news.length = m := ⟨_, rfl⟩
  rw [hnn] at hts HOWN
  rw [hmm] at hn hn0 ⊢
  have HN := Lib.hid hnn
  have HM := Lib.hid hmm
  clear h1 h2 hu hc hnn hmm
  go_enter Tryz.func105, Tryz.ntmps105
  go_wp2_with (at_builtin; refine wpList_append_lies _ rfl _ _ 91 rfl (bw + 1) 9 i0 _ 1 16 Tryz.underlying91 hi0 hz0 hz1 hz2 rfl (by omega) v n (ts.map Value.string) rfl HOWN.out ⟨H, 0, none⟩ m m (news.map Value.string) rfl (by rw [List.length_map, HM.out, Nat.mul_one]) HC.out (by intro u hu; obtain ⟨s, _, rfl⟩ := List.mem_map.1 hu; rfl) (by omega) (by unfold maxLen; omega) (by omega) (by omega) w.heap.size rfl ?_; intro g6 cap6 w6 ho6 hg6 hat6 hlt6; have r6 : w6.heap[bw]? = some (.cells #[v] 93 (0, 0)) := (hg6.block bw hBw (fun e => by have := (World.ownsRow.lt HOWN.out bw e.symm).1; omega)).trans HROW.out; have c6 := cell_of_row w6 bw 0 _ _ _ r6; have f6 := frozen_of_row w6 bw 0 _ _ r6; have hb6 := heap_lt r6; have HO6 := Lib.hid ho6; have HG6 := Lib.hid hg6; have HAT := Lib.hid hat6; have R6 := Lib.hid r6; clear ho6 hg6 hat6 r6)
  go_end0
  have hzz := HU.out.size
  refine ⟨⟨_, rfl⟩, ?_, .slice (some ⟨g6, 0, none⟩) (n + m) cap6, ?_, ?_⟩
  · exact (up_gb HU.out HG6.out fun g e => by have := (World.ownsRow.lt HOWN.out g e).1; omega).setCell (p := ⟨bw, 0, none⟩) hB _
  · exact Boxed.set _ R6.out
  · have e : (ts ++ news).map Value.string = ts.map Value.string ++ news.map Value.string := List.map_append
    rw [e, List.length_append, HN.out, HM.out]
    refine own_setCell HO6.out _ _ fun g e => ?_
    injection e with e
    have e : g6 = g := e
    subst e
    rcases HAT.out with h | h
    · have := (World.ownsRow.lt HOWN.out g6 h).1; simp only; omega
    · simp only; omega
end Go.Proofs.YthonaeigacfmbaaGreatDoor
namespace Go.Proofs.YthonaeigacfmbaaGreatDoor
open Go.RowKit

def txt (l : List Tk) : List ByteArray := l.map (·.s)
theorem put_lit {W : World} {bw : Nat} {w : World} {ts : List ByteArray} (news : List ByteArray) (hB : W.heap.size ≤ bw) (hu : Up W w) (hw : Wr bw w ts) (hts : ts.length ≤ 1000000) (hn : news.length ≤ 10) (hn0 : 0 < news.length) :
    Calls Tryz.prog 105 #[.pointer (some ⟨bw, 0, none⟩), .slice (some ⟨w.heap.size, 0, none⟩) news.length news.length] (w.alloc (.cells (news.map Value.string).toArray 9)) (WrP W bw (ts ++ news)) :=
  put_any W bw hB _ (hu.alloc _) ts news (hw.up ((Up.refl w).alloc _)) hts hn hn0 w.heap.size fun j u h => by
    rw [Nat.zero_add, cell_of_row _ w.heap.size j _ _ _ (heap_alloc_new w _), List.getElem?_toArray]
    exact h
def ruT (k : Int) : Int := if k = 5 then 0 else if k = 6 then 1 else 2
set_option maxHeartbeats 1600000 in
set_option maxRecDepth 100000 in
theorem ruleOf_any {W w : World} {v : Value} {x : Nod} {f : Fr} (hv : HasT W v (some (x, f))) (hu : Up W w) : Calls Tryz.prog 104 #[v] w fun e w' => e = .returned (.int .i64 (ruT x.k)) ∧ Up w w' := by
  obtain ⟨q, p, A, c, rfl, hq, c0, -⟩ := InT.open hv
  have k0 := hu.cell c0
  clear c0 hv
  by_cases h5 : x.k = 5
  · have HE : Hid (ruT x.k = 0) := Lib.hid (if_pos h5)
    rw [HE.out]
    rw [h5] at k0
    go_enter Tryz.func104, Tryz.ntmps104
    go_wp2_with fail
    go_ret
    exact ⟨rfl, Up.refl _⟩
  · by_cases h6 : x.k = 6
    · have HE : Hid (ruT x.k = 1) := Lib.hid (by unfold ruT; rw [if_neg h5, if_pos h6])
      rw [HE.out]
      rw [h6] at k0
      go_enter Tryz.func104, Tryz.ntmps104
      go_wp2_with fail
      go_ret
      exact ⟨rfl, Up.refl _⟩
    · have HE : Hid (ruT x.k = 2) := Lib.hid (by unfold ruT; rw [if_neg h5, if_neg h6])
      rw [HE.out]
      go_enter Tryz.func104, Tryz.ntmps104
      go_wp2_with fail
      go_ret
      exact ⟨rfl, Up.refl _⟩
set_option maxHeartbeats 6400000 in
set_option maxRecDepth 100000 in
theorem writePlain_any {W : World} {bw : Nat} {w : World} {ts : List ByteArray} (k : Nat) (hk : k < 3) (hB : W.heap.size ≤ bw) (hu : Up W w) (hw : Wr bw w ts) (hts : ts.length ≤ 1000000) (hp : Pl W) :
    Calls Tryz.prog 107 #[.pointer (some ⟨bw, 0, none⟩), .int .i64 ((k + 1 : Nat) : Int)] w (WrP W bw (ts ++ [plS k])) := by
  obtain ⟨tp, zp, hpl⟩ := hp.up hu
  have HW := Lib.hid hw
  have HU := Lib.hid hu
  obtain ⟨kk, hkk⟩ : ∃ kk, ((k + 1 : Nat) : Int) = kk := ⟨_, rfl⟩
  have HKK := Lib.hid hkk
  rw [hkk]
  clear hw hu hkk
  go_enter Tryz.func107, Tryz.ntmps107
  go_wp2_with (refine wpList_load_row rfl 182 (.global 0) rfl 0 rfl tp plV zp _ hpl Tryz.underlying182 rfl (by kernel_rfl) ?_)
  generalize hA : plV = AR
  have HAR := Lib.hid hA
  clear hA hpl
  go_loopw [7] (fun x wr => ∃ j : Nat, j ≤ 3 ∧ x = .int .i64 (j : Int) ∧ Up W wr ∧ Wr bw wr (if k < j then ts ++ [plS k] else ts)) (fun x _ => 4 - (intOf x).toNat)
  case atStart => exact ⟨0, Nat.zero_le _, rfl, HU.out, by rw [if_neg (by omega)]; exact HW.out⟩
  case round =>
    obtain ⟨j, hj, rfl, hur, hwr⟩ := hrel
    have HUR := Lib.hid hur
    have HWR := Lib.hid hwr
    clear hur hwr
    by_cases hlt : j < 3
    · have hix : ∀ W, (Instr.index 182 (.agg AR) (.int .i64 (j : Int))).run Tryz.prog W = .ok (.agg #[.string (plS j), .int .i64 ((j + 1 : Nat) : Int)]) W := fun W => by rw [← HAR.out]; exact pl_idx j hlt W
      have hw1 : IntKind.i64.wrap ((j : Int) + 1) = ((j + 1 : Nat) : Int) := by rw [IntKind.wrap_i64]; omega
      have hjz : (j : Int) < 3 := by omega
      obtain ⟨X, hX⟩ : ∃ X, plS j = X := ⟨_, rfl⟩
      obtain ⟨ka, hka⟩ : ∃ ka, ((j + 1 : Nat) : Int) = ka := ⟨_, rfl⟩
      rw [hX, hka] at hix
      rw [hka] at hw1
      have HX := Lib.hid hX
      have HKA := Lib.hid hka
      obtain ⟨Wr1, hWr1⟩ : ∃ Wr1, wr.alloc (.cells #[.string X, .int .i64 ka] 181) = Wr1 := ⟨_, rfl⟩
      have ur : Up wr Wr1 := by rw [← hWr1]; exact (Up.refl wr).alloc _
      have UR := Lib.hid ur
      have HW1 := Lib.hid hWr1
      by_cases he : ka = kk
      · have hjk : j = k := by have := HKK.out; omega
        have hw2 : Wr bw wr ts := by have h := HWR.out; rwa [if_neg (by omega)] at h
        have cP : Calls Tryz.prog 105 #[.pointer (some ⟨bw, 0, none⟩), .slice (some ⟨Wr1.heap.size, 0, none⟩) 1 1] (Wr1.alloc (.cells #[.string X] 9)) (WrP W bw (ts ++ [X])) := put_lit (W := W) [X] hB (HUR.out.trans ur) (hw2.up ur) hts (by show 1 ≤ 10; omega) Nat.one_pos
        have hz1 : Wr1.heap.size = wr.heap.size + 1 := by rw [← hWr1]; simp
        rw [hz1] at cP
        have cX : Wr1.cell? ⟨wr.heap.size, 0, none⟩ = some (.string X) := by rw [← hWr1]; exact cell_of_row _ wr.heap.size 0 _ _ _ (heap_alloc_new wr _)
        subst he
        have HJK := Lib.hid hjk
        clear hX hka hWr1 ur hw2 hjk hz1
        go_wp2_with fail
        rw [HW1.out]
        refine cP.mono ?_
        rintro en w2 ⟨⟨u, rfl⟩, u2, h2⟩
        have h2' := Lib.hid h2
        clear h2
        go_wp2_with fail
        go_roundw
        case rel => exact ⟨j + 1, by omega, i64_eq (by have := HKA.out; omega), u2, by have hjk := HJK.out; rw [if_pos (by omega), ← hjk, HX.out]; exact h2'.out⟩
        case measure => simp [intOf]; have := HKA.out; omega
      · have hne : ¬ j = k := fun e => he (by rw [← HKA.out, ← HKK.out, e])
        clear hX hka hWr1 ur
        go_wp2_with fail
        go_roundw
        case rel => exact ⟨j + 1, by omega, i64_eq (by have := HKA.out; omega), by rw [HW1.out]; exact HUR.out.trans UR.out, by
          rw [HW1.out]
          have h := HWR.out
          by_cases hkj : k < j
          · rw [if_pos hkj] at h; rw [if_pos (by omega)]; exact h.up UR.out
          · rw [if_neg hkj] at h; rw [if_neg (by omega)]; exact h.up UR.out⟩
        case measure => simp [intOf]; have := HKA.out; omega
    · obtain rfl : j = 3 := by omega
      go_wp2_with fail
      go_end0
      have h := HWR.out
      rw [if_pos (by omega)] at h
      exact ⟨⟨_, rfl⟩, HUR.out, h⟩
end Go.Proofs.YthonaeigacfmbaaGreatDoor
namespace Go.Proofs.YthonaeigacfmbaaGreatDoor
open Go.RowKit

def wiR (r : Int) (t : Tr) : List Tk := wi (decide (ruT t.1.k < r)) (tkT t)
theorem wiR_0 (t : Tr) : wiR 0 t = tkT t := by
  unfold wiR
  have h : ¬ ruT t.1.k < 0 := by unfold ruT; split <;> (try split) <;> omega
  rw [decide_eq_false h]
  rfl
theorem wiR_1 (t : Tr) : wiR 1 t = wi (is5 t.1) (tkT t) := by
  unfold wiR is5
  congr 1
  have h : ruT t.1.k < 1 ↔ t.1.k = 5 := by unfold ruT; split <;> (try split) <;> omega
  exact decide_eq_decide.2 h
theorem wiR_2 (t : Tr) : wiR 2 t = wi (is56 t.1) (tkT t) := by
  unfold wiR is56
  congr 1
  have h : ruT t.1.k < 2 ↔ (t.1.k = 5 ∨ t.1.k = 6) := by unfold ruT; split <;> (try split) <;> omega
  rw [decide_eq_decide.2 h, Bool.decide_or]
theorem wiR_no {r : Int} {t : Tr} (h : ¬ ruT t.1.k < r) : wiR r t = tkT t := by unfold wiR; rw [decide_eq_false h]; rfl
theorem txt_app (a b : List Tk) : txt (a ++ b) = txt a ++ txt b := List.map_append
theorem txt_len (a : List Tk) : (txt a).length = a.length := List.length_map _
def WriAt (W : World) (bw : Nat) (t : Tr) (r : Int) : Prop := ∀ (w : World) (ts : List ByteArray) (v : Value), HasT W v (some t) → Up W w → Wr bw w ts → ts.length + (wiR r t).length ≤ 1000000 → Calls Tryz.prog 66 #[.pointer (some ⟨bw, 0, none⟩), v, .int .i64 r] w (WrP W bw (ts ++ txt (wiR r t)))
section
variable {W : World} {bw : Nat}
theorem put_1 {w : World} {ts : List ByteArray} (x : ByteArray) (hB : W.heap.size ≤ bw) (hu : Up W w) (hw : Wr bw w ts) (hts : ts.length ≤ 1000000) :
    Calls Tryz.prog 105 #[.pointer (some ⟨bw, 0, none⟩), .slice (some ⟨w.heap.size, 0, none⟩) 1 1] (w.alloc (.cells #[.string x] 9)) (WrP W bw (ts ++ [x])) := put_lit [x] hB hu hw hts (by show 1 ≤ 10; omega) Nat.one_pos
set_option maxHeartbeats 6400000 in
set_option maxRecDepth 100000 in
theorem write_paren (t : Tr) (r : Int) (hB : W.heap.size ≤ bw) (h : ruT t.1.k < r) (c0 : WriAt W bw t 0) : WriAt W bw t r := fun w ts v hv hu hw hz => by
  obtain ⟨x, f⟩ := t
  have he : wiR r (x, f) = ky kOpen :: (tkT (x, f) ++ [ky kShut]) := by unfold wiR; rw [decide_eq_true h]; rfl
  have hzl : ts.length + (tkT (x, f)).length + 2 ≤ 1000000 := by rw [he] at hz; simp only [List.length_cons, List.length_append, List.length_nil] at hz; omega
  have HE : Hid (ts ++ txt (wiR r (x, f)) = ((ts ++ [kOpen]) ++ txt (wiR 0 (x, f))) ++ [kShut]) := Lib.hid (by rw [he, wiR_0]; show ts ++ kOpen :: txt (tkT (x, f) ++ [ky kShut]) = _; rw [txt_app]; simp [txt, ky])
  rw [HE.out]
  have cR := ruleOf_any hv hu
  have HV := Lib.hid hv
  have HU := Lib.hid hu
  have HW := Lib.hid hw
  have HC := Lib.hid c0
  have HZ := Lib.hid hzl
  have hq : (ruT x.k) < r := h
  obtain ⟨q, hqq⟩ : ∃ q, ruT x.k = q := ⟨_, rfl⟩
  rw [hqq] at cR hq
  clear hv hu hw c0 he hz hzl h hqq
  go_enter Tryz.func66, Tryz.ntmps66
  go_wp2_with fail
  refine cR.mono ?_
  rintro en w1 ⟨rfl, u1⟩
  have cP := put_1 (W := W) kOpen hB (HU.out.trans u1) (HW.out.up u1) (by have := HZ.out; omega)
  have U1 := Lib.hid (HU.out.trans u1)
  clear u1
  go_wp2_with fail
  refine cP.mono ?_
  rintro en w2 ⟨⟨u, rfl⟩, u2, h2⟩
  have cW := HC.out w2 (ts ++ [kOpen]) v HV.out u2 h2 (by rw [wiR_0, List.length_append]; have := HZ.out; simp only [List.length_cons, List.length_nil]; omega)
  clear u2 h2 cP
  go_wp2_with fail
  refine cW.mono ?_
  rintro en w3 ⟨⟨u, rfl⟩, u3, h3⟩
  have cP := put_1 (W := W) kShut hB u3 h3 (by rw [wiR_0]; simp only [List.length_append, txt_len, List.length_cons, List.length_nil]; have := HZ.out; omega)
  clear u3 h3 cW
  go_wp2_with fail
  refine cP.mono ?_
  rintro en w4 ⟨⟨u, rfl⟩, u4, h4⟩
  have H4 := Lib.hid h4
  clear h4
  go_wp2_with fail
  go_end0
  exact ⟨⟨_, rfl⟩, u4, H4.out⟩
set_option maxHeartbeats 6400000 in
set_option maxRecDepth 100000 in
theorem write_leaf (k : Nat) (hk : k < 3) (r : Int) (hB : W.heap.size ≤ bw) (hp : Pl W) (hr : ¬ ruT ((k + 1 : Nat) : Int) < r) : WriAt W bw (nd ((k + 1 : Nat) : Int) nob .nil) r := fun w ts v hv hu hw hz => by
  have he : wiR r (nd ((k + 1 : Nat) : Int) nob .nil) = tkT (nd ((k + 1 : Nat) : Int) nob .nil) := wiR_no hr
  have ht : txt (tkT (nd ((k + 1 : Nat) : Int) nob .nil)) = [plS k] := by obtain rfl | rfl | rfl : k = 0 ∨ k = 1 ∨ k = 2 := (by omega) <;> rfl
  have HE : Hid (ts ++ txt (wiR r (nd ((k + 1 : Nat) : Int) nob .nil)) = ts ++ [plS k]) := Lib.hid (by rw [he, ht])
  rw [HE.out]
  have cR := ruleOf_any hv hu
  obtain ⟨q, p, A, c, rfl, hq, k0, -⟩ := InT.open hv
  have HU := Lib.hid hu
  have HW := Lib.hid hw
  have k0 : W.cell? ⟨q, p, none⟩ = some (.int .i64 ((k + 1 : Nat) : Int)) := k0
  have HK := Lib.hid k0
  have hrr : ruT ((k + 1 : Nat) : Int) = 2 := by unfold ruT; rw [if_neg (by omega), if_neg (by omega)]
  rw [hrr] at hr
  have cR : Calls Tryz.prog 104 #[.pointer (some ⟨q, p, none⟩)] w fun e w' => e = .returned (.int .i64 2) ∧ Up w w' := by
    refine cR.mono fun e w' ⟨h1, h2⟩ => ⟨?_, h2⟩
    rw [h1]
    exact congrArg (fun z => Ending.returned (.int .i64 z)) hrr
  have hz1 : ts.length ≤ 1000000 := by omega
  obtain ⟨ka, hka⟩ : ∃ ka, ((k + 1 : Nat) : Int) = ka := ⟨_, rfl⟩
  have h4 : ¬ ka = 4 := by omega
  have h5 : ¬ ka = 5 := by omega
  have h6 : ¬ ka = 6 := by omega
  have h7 : ¬ ka = 7 := by omega
  have HKA := Lib.hid hka
  clear hv hu hw he ht hz hrr k0 hka HE
  go_enter Tryz.func66, Tryz.ntmps66
  go_wp2_with fail
  refine cR.mono ?_
  rintro en w1 ⟨rfl, u1⟩
  have k1 : w1.cell? ⟨q, p, none⟩ = some (.int .i64 ka) := by rw [← HKA.out]; exact (HU.out.trans u1).cell HK.out
  have cP := writePlain_any (W := W) (bw := bw) k hk hB (HU.out.trans u1) (HW.out.up u1) hz1 hp
  rw [HKA.out] at cP
  clear u1 cR
  go_wp2_with fail
  refine cP.mono ?_
  rintro en w2 ⟨⟨u, rfl⟩, u2, h2⟩
  have H2 := Lib.hid h2
  clear h2
  go_wp2_with fail
  go_end0
  exact ⟨⟨_, rfl⟩, u2, H2.out⟩
set_option maxHeartbeats 6400000 in
set_option maxRecDepth 100000 in
theorem write_name (s : ByteArray) (r : Int) (hB : W.heap.size ≤ bw) (hr : ¬ (2 : Int) < r) : WriAt W bw (nd 4 s .nil) r := fun w ts v hv hu hw hz => by
  have he : wiR r (nd 4 s .nil) = [nmT s] := wiR_no (t := nd 4 s .nil) hr
  have HE : Hid (ts ++ txt (wiR r (nd 4 s .nil)) = ts ++ [s]) := Lib.hid (by rw [he]; rfl)
  rw [HE.out]
  have cR : Calls Tryz.prog 104 #[v] w fun e w' => e = .returned (.int .i64 2) ∧ Up w w' := ruleOf_any hv hu
  obtain ⟨q, p, A, c, rfl, hq, k0, k1, k2, -⟩ := InT.open hv
  have HU := Lib.hid hu
  have HW := Lib.hid hw
  have HK := Lib.hid k0
  have HK2 := Lib.hid k2
  have hz1 : ts.length ≤ 1000000 := by omega
  clear hv hu hw he hz k0 k1 k2 HE
  go_enter Tryz.func66, Tryz.ntmps66
  go_wp2_with fail
  refine cR.mono ?_
  rintro en w1 ⟨rfl, u1⟩
  have k1 := (HU.out.trans u1).cell HK.out
  have k2 := (HU.out.trans u1).cell HK2.out
  have cP := put_1 (W := W) s hB (HU.out.trans u1) (HW.out.up u1) hz1
  clear u1 cR
  go_wp2_with fail
  refine cP.mono ?_
  rintro en w2 ⟨⟨u, rfl⟩, u2, h2⟩
  have H2 := Lib.hid h2
  clear h2
  go_wp2_with fail
  go_end0
  exact ⟨⟨_, rfl⟩, u2, H2.out⟩
set_option maxHeartbeats 12800000 in
set_option maxRecDepth 100000 in
theorem write_5 (a b : Tr) (r : Int) (hB : W.heap.size ≤ bw) (hr : ¬ (0 : Int) < r) (cA : WriAt W bw a 1) (cB : WriAt W bw b 0) : WriAt W bw (nd 5 nob (fr2 a b)) r := fun w ts v hv hu hw hz => by
  have he : wiR r (nd 5 nob (fr2 a b)) = wiR 1 a ++ (ky kArrow :: wiR 0 b) := by rw [wiR_no (t := nd 5 nob (fr2 a b)) hr, tk_two5, ← wiR_1, wiR_0 b]
  have HE : Hid (ts ++ txt (wiR r (nd 5 nob (fr2 a b))) = ((ts ++ txt (wiR 1 a)) ++ [kArrow]) ++ txt (wiR 0 b)) := Lib.hid (by rw [he, txt_app]; simp [txt, ky])
  have hzl : ts.length + (wiR 1 a).length + (wiR 0 b).length + 1 ≤ 1000000 := by rw [he] at hz; simp only [List.length_cons, List.length_append] at hz; omega
  rw [HE.out]
  obtain ⟨Z, hZ⟩ : ∃ Z, ((ts ++ txt (wiR 1 a)) ++ [kArrow]) ++ txt (wiR 0 b) = Z := ⟨_, rfl⟩
  rw [hZ]
  have HZZ := Lib.hid hZ
  clear hZ
  have cR : Calls Tryz.prog 104 #[v] w fun e w' => e = .returned (.int .i64 0) ∧ Up w w' := ruleOf_any hv hu
  obtain ⟨q, p, A, c, rfl, hq, k0, k1, k2, k3, k4, hc, hkid⟩ := InT.open hv
  obtain ⟨kb, ko, rfl, hkb, ⟨va, ka, ia⟩, ⟨vb, kb', ib⟩, -⟩ := hkid (by show 0 < 2; omega)
  obtain ⟨qa, pa, rfl⟩ := InT.ptr ia
  obtain ⟨qb, pb, rfl⟩ := InT.ptr ib
  have k4 : W.cell? ⟨q, p + 4, none⟩ = some (.slice (some ⟨kb, ko, none⟩) 2 c) := k4
  have ka : W.cell? ⟨kb, ko, none⟩ = some (.pointer (some ⟨qa, pa, none⟩)) := ka
  have kb' : W.cell? ⟨kb, ko + 1, none⟩ = some (.pointer (some ⟨qb, pb, none⟩)) := kb'
  have HIA : Hid (HasT W (.pointer (some ⟨qa, pa, none⟩)) (some a)) := Lib.hid ia
  have HIB : Hid (HasT W (.pointer (some ⟨qb, pb, none⟩)) (some b)) := Lib.hid ib
  have HU := Lib.hid hu
  have HW := Lib.hid hw
  have HK := Lib.hid k0
  have HK4 := Lib.hid k4
  have HKA := Lib.hid ka
  have HKB := Lib.hid kb'
  have HZ := Lib.hid hzl
  have HCA := Lib.hid cA
  have HCB := Lib.hid cB
  clear hv hu hw he hz k0 k1 k2 k3 k4 hkid ia ib ka kb' hzl cA cB HE
  go_enter Tryz.func66, Tryz.ntmps66
  go_wp2_with fail
  refine cR.mono ?_
  rintro en w1 ⟨rfl, u1⟩
  have k0 := (HU.out.trans u1).cell HK.out
  have k4 := (HU.out.trans u1).cell HK4.out
  have ka := (HU.out.trans u1).cell HKA.out
  have cWA := HCA.out w1 ts _ HIA.out (HU.out.trans u1) (HW.out.up u1) (by have := HZ.out; omega)
  clear u1 cR
  go_wp2_with fail
  refine cWA.mono ?_
  rintro en w2 ⟨⟨u, rfl⟩, u2, h2⟩
  have cP := put_1 (W := W) kArrow hB u2 h2 (by rw [List.length_append, txt_len]; have := HZ.out; omega)
  have U2 := Lib.hid u2
  clear u2 h2 cWA k0 k4 ka
  go_wp2_with fail
  refine cP.mono ?_
  rintro en w3 ⟨⟨u, rfl⟩, u3, h3⟩
  have k4 := u3.cell HK4.out
  have kb' := u3.cell HKB.out
  have cWB := HCB.out w3 _ _ HIB.out u3 h3 (by simp only [List.length_append, txt_len, List.length_cons, List.length_nil]; have := HZ.out; omega)
  clear u3 h3 cP
  go_wp2_with fail
  refine cWB.mono ?_
  rintro en w4 ⟨⟨u, rfl⟩, u4, h4⟩
  have H4 := Lib.hid h4
  clear h4
  go_wp2_with fail
  go_end0
  exact ⟨⟨_, rfl⟩, u4, by rw [← HZZ.out]; exact H4.out⟩
set_option maxHeartbeats 12800000 in
set_option maxRecDepth 100000 in
theorem write_6 (a b : Tr) (r : Int) (hB : W.heap.size ≤ bw) (hr : ¬ (1 : Int) < r) (cA : WriAt W bw a 2) (cB : WriAt W bw b 1) : WriAt W bw (nd 6 nob (fr2 a b)) r := fun w ts v hv hu hw hz => by
  have he : wiR r (nd 6 nob (fr2 a b)) = wiR 2 a ++ (ky kStar :: wiR 1 b) := by rw [wiR_no (t := nd 6 nob (fr2 a b)) hr, tk_two6, ← wiR_2, ← wiR_1]
  have HE : Hid (ts ++ txt (wiR r (nd 6 nob (fr2 a b))) = ((ts ++ txt (wiR 2 a)) ++ [kStar]) ++ txt (wiR 1 b)) := Lib.hid (by rw [he, txt_app]; simp [txt, ky])
  have hzl : ts.length + (wiR 2 a).length + (wiR 1 b).length + 1 ≤ 1000000 := by rw [he] at hz; simp only [List.length_cons, List.length_append] at hz; omega
  rw [HE.out]
  obtain ⟨Z, hZ⟩ : ∃ Z, ((ts ++ txt (wiR 2 a)) ++ [kStar]) ++ txt (wiR 1 b) = Z := ⟨_, rfl⟩
  rw [hZ]
  have HZZ := Lib.hid hZ
  clear hZ
  have cR : Calls Tryz.prog 104 #[v] w fun e w' => e = .returned (.int .i64 1) ∧ Up w w' := ruleOf_any hv hu
  obtain ⟨q, p, A, c, rfl, hq, k0, k1, k2, k3, k4, hc, hkid⟩ := InT.open hv
  obtain ⟨kb, ko, rfl, hkb, ⟨va, ka, ia⟩, ⟨vb, kb', ib⟩, -⟩ := hkid (by show 0 < 2; omega)
  obtain ⟨qa, pa, rfl⟩ := InT.ptr ia
  obtain ⟨qb, pb, rfl⟩ := InT.ptr ib
  have k4 : W.cell? ⟨q, p + 4, none⟩ = some (.slice (some ⟨kb, ko, none⟩) 2 c) := k4
  have ka : W.cell? ⟨kb, ko, none⟩ = some (.pointer (some ⟨qa, pa, none⟩)) := ka
  have kb' : W.cell? ⟨kb, ko + 1, none⟩ = some (.pointer (some ⟨qb, pb, none⟩)) := kb'
  have HIA : Hid (HasT W (.pointer (some ⟨qa, pa, none⟩)) (some a)) := Lib.hid ia
  have HIB : Hid (HasT W (.pointer (some ⟨qb, pb, none⟩)) (some b)) := Lib.hid ib
  have HU := Lib.hid hu
  have HW := Lib.hid hw
  have HK := Lib.hid k0
  have HK4 := Lib.hid k4
  have HKA := Lib.hid ka
  have HKB := Lib.hid kb'
  have HZ := Lib.hid hzl
  have HCA := Lib.hid cA
  have HCB := Lib.hid cB
  clear hv hu hw he hz k0 k1 k2 k3 k4 hkid ia ib ka kb' hzl cA cB HE
  go_enter Tryz.func66, Tryz.ntmps66
  go_wp2_with fail
  refine cR.mono ?_
  rintro en w1 ⟨rfl, u1⟩
  have k0 := (HU.out.trans u1).cell HK.out
  have k4 := (HU.out.trans u1).cell HK4.out
  have ka := (HU.out.trans u1).cell HKA.out
  have cWA := HCA.out w1 ts _ HIA.out (HU.out.trans u1) (HW.out.up u1) (by have := HZ.out; omega)
  clear u1 cR
  go_wp2_with fail
  refine cWA.mono ?_
  rintro en w2 ⟨⟨u, rfl⟩, u2, h2⟩
  have cP := put_1 (W := W) kStar hB u2 h2 (by rw [List.length_append, txt_len]; have := HZ.out; omega)
  have U2 := Lib.hid u2
  clear u2 h2 cWA k0 k4 ka
  go_wp2_with fail
  refine cP.mono ?_
  rintro en w3 ⟨⟨u, rfl⟩, u3, h3⟩
  have k4 := u3.cell HK4.out
  have kb' := u3.cell HKB.out
  have cWB := HCB.out w3 _ _ HIB.out u3 h3 (by simp only [List.length_append, txt_len, List.length_cons, List.length_nil]; have := HZ.out; omega)
  clear u3 h3 cP
  go_wp2_with fail
  refine cWB.mono ?_
  rintro en w4 ⟨⟨u, rfl⟩, u4, h4⟩
  have H4 := Lib.hid h4
  clear h4
  go_wp2_with fail
  go_end0
  exact ⟨⟨_, rfl⟩, u4, by rw [← HZZ.out]; exact H4.out⟩
end
end Go.Proofs.YthonaeigacfmbaaGreatDoor
