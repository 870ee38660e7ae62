/-
  Plain: the text of a constructor, a kind; how long it may be.
-/
import Derived.Test.YtdofcjnkpgbjaaaDoorGt10
import Derived.Test.YtdofcjnkpgbjaaaDoorGt14
namespace Go.Proofs.YtdofcjnkpgbjaaaDoor

def itS (k : Int) (f : Bool) (s nm tx : ByteArray) : ByteArray := (if f then s else s ++ (if k = 115 then ⟨#[32, 44]⟩ else ⟨#[32, 124]⟩)) ++ ⟨#[32]⟩ ++ nm ++ (if k = 115 then ⟨#[32, 61, 32]⟩ else ⟨#[32, 111, 102, 32]⟩) ++ tx
def rcR (k : Int) : Bool → ByteArray → List (ByteArray × ByteArray) → ByteArray
  | _, s, [] => s
  | f, s, (n, t) :: r => rcR k false (itS k f s n t) r
def twX (a b c : ByteArray) (ts : List (ByteArray × ByteArray)) : ByteArray := match ts with
  | (_, s) :: (_, t) :: _ => a ++ s ++ b ++ t ++ c
  | _ => ⟨#[]⟩
def ndX (x : Nod) (ts : List (ByteArray × ByteArray)) : ByteArray :=
  if x.k = 100 then ⟨#[42]⟩
  else if x.k = 101 ∨ x.k = 114 then twX ⟨#[40, 32]⟩ ⟨#[32, 45, 62, 32]⟩ ⟨#[32, 41]⟩ ts
  else if x.k = 110 then ⟨#[36]⟩ ++ B.T (B.numb x.n)
  else if x.k = 111 then ⟨#[105, 110, 116]⟩
  else if x.k = 112 then ⟨#[98, 111, 111, 108]⟩
  else if x.k = 113 then ⟨#[117, 110, 105, 116]⟩
  else if x.k = 117 then twX ⟨#[40, 32, 97, 108, 108, 32]⟩ ⟨#[32, 46, 32]⟩ ⟨#[32, 41]⟩ ts
  else if x.k = 118 then twX ⟨#[40, 32, 101, 120, 32]⟩ ⟨#[32, 46, 32]⟩ ⟨#[32, 41]⟩ ts
  else if x.k = 119 then twX ⟨#[40, 32, 102, 110, 32]⟩ ⟨#[32, 46, 32]⟩ ⟨#[32, 41]⟩ ts
  else if x.k = 120 then twX ⟨#[40, 32]⟩ ⟨#[32]⟩ ⟨#[32, 41]⟩ ts
  else if x.k = 121 then ⟨#[109, 117, 32]⟩ ++ rcR x.k true ⟨#[123]⟩ ts ++ ⟨#[32, 125]⟩
  else if x.k = 115 then rcR x.k true ⟨#[123]⟩ ts ++ ⟨#[32, 125]⟩
  else match ts with
    | (_, s) :: _ => s
    | [] => ⟨#[]⟩
def Fr.tx : Fr → List (ByteArray × ByteArray)
  | .nil => []
  | .cons x k r => (x.a, ndX x k.tx) :: r.tx
def txT (t : Tr) : ByteArray := ndX t.1 t.2.tx
theorem Fr.tx_c (x : Nod) (k r : Fr) : Fr.tx (.cons x k r) = (x.a, txT (x, k)) :: r.tx := rfl
def wtX : List (ByteArray × ByteArray) → Nat
  | [] => 0
  | (n, t) :: r => n.size + t.size + 10 + wtX r
theorem itS_sz (k : Int) (f : Bool) (s n t : ByteArray) : (itS k f s n t).size ≤ s.size + n.size + t.size + 10 := by
  unfold itS
  have h1 : (⟨#[32, 44]⟩ : ByteArray).size = 2 := rfl
  have h2 : (⟨#[32, 124]⟩ : ByteArray).size = 2 := rfl
  have h3 : (⟨#[32]⟩ : ByteArray).size = 1 := rfl
  have h4 : (⟨#[32, 61, 32]⟩ : ByteArray).size = 3 := rfl
  have h5 : (⟨#[32, 111, 102, 32]⟩ : ByteArray).size = 4 := rfl
  by_cases hk : k = 115
  · cases f
    · rw [if_pos hk, if_pos hk]; simp only [Bool.false_eq_true, if_false, ByteArray.size_append, h1, h3, h4]; omega
    · rw [if_pos hk, if_pos hk]; simp only [if_true, ByteArray.size_append, h3, h4]; omega
  · cases f
    · rw [if_neg hk, if_neg hk]; simp only [Bool.false_eq_true, if_false, ByteArray.size_append, h2, h3, h5]; omega
    · rw [if_neg hk, if_neg hk]; simp only [if_true, ByteArray.size_append, h3, h5]; omega
theorem rcR_sz (k : Int) (ts : List (ByteArray × ByteArray)) : ∀ f s, (rcR k f s ts).size ≤ s.size + wtX ts := by
  induction ts with
  | nil => intro f s; exact Nat.le_refl _
  | cons a r ih =>
    intro f s
    obtain ⟨n, t⟩ := a
    have h1 := ih false (itS k f s n t)
    have h2 := itS_sz k f s n t
    show (rcR k false (itS k f s n t) r).size ≤ s.size + (n.size + t.size + 10 + wtX r)
    omega
theorem twX_sz (a b c : ByteArray) (ts : List (ByteArray × ByteArray)) : (twX a b c ts).size ≤ a.size + b.size + c.size + wtX ts := by
  unfold twX
  split
  · rename_i n1 s n2 t r
    simp only [ByteArray.size_append, wtX]
    omega
  · exact Nat.zero_le _
theorem ndX_sz {x : Nod} {ts : List (ByteArray × ByteArray)} (h : x.k = 110 → 0 ≤ x.n ∧ x.n ≤ 65536) : (ndX x ts).size ≤ 40 + wtX ts := by
  unfold ndX
  by_cases c1 : x.k = 100
  · rw [if_pos c1]; show 1 ≤ _; omega
  rw [if_neg c1]
  by_cases c2 : x.k = 101 ∨ x.k = 114
  · rw [if_pos c2]; exact Nat.le_trans (twX_sz _ _ _ _) (by show 2 + 4 + 2 + wtX ts ≤ _; omega)
  rw [if_neg c2]
  by_cases c3 : x.k = 110
  · rw [if_pos c3]
    have h1 := h c3
    have h2 := B.numb_size x.n (by omega) (by omega)
    rw [ByteArray.size_append]
    show 1 + _ ≤ _
    omega
  rw [if_neg c3]
  by_cases c4 : x.k = 111
  · rw [if_pos c4]; show 3 ≤ _; omega
  rw [if_neg c4]
  by_cases c5 : x.k = 112
  · rw [if_pos c5]; show 4 ≤ _; omega
  rw [if_neg c5]
  by_cases c6 : x.k = 113
  · rw [if_pos c6]; show 4 ≤ _; omega
  rw [if_neg c6]
  by_cases c7 : x.k = 117
  · rw [if_pos c7]; exact Nat.le_trans (twX_sz _ _ _ _) (by show 6 + 3 + 2 + wtX ts ≤ _; omega)
  rw [if_neg c7]
  by_cases c8 : x.k = 118
  · rw [if_pos c8]; exact Nat.le_trans (twX_sz _ _ _ _) (by show 5 + 3 + 2 + wtX ts ≤ _; omega)
  rw [if_neg c8]
  by_cases c9 : x.k = 119
  · rw [if_pos c9]; exact Nat.le_trans (twX_sz _ _ _ _) (by show 5 + 3 + 2 + wtX ts ≤ _; omega)
  rw [if_neg c9]
  by_cases c10 : x.k = 120
  · rw [if_pos c10]; exact Nat.le_trans (twX_sz _ _ _ _) (by show 2 + 1 + 2 + wtX ts ≤ _; omega)
  rw [if_neg c10]
  have h2 : (⟨#[123]⟩ : ByteArray).size = 1 := rfl
  have h3 : (⟨#[109, 117, 32]⟩ : ByteArray).size = 3 := rfl
  have h4 : (⟨#[32, 125]⟩ : ByteArray).size = 2 := rfl
  have h5 := rcR_sz x.k ts true ⟨#[123]⟩
  by_cases c11 : x.k = 121
  · rw [if_pos c11, ByteArray.size_append, ByteArray.size_append, h3, h4]; omega
  rw [if_neg c11]
  by_cases c12 : x.k = 115
  · rw [if_pos c12, ByteArray.size_append, h4]; omega
  rw [if_neg c12]
  cases ts with
  | nil => exact Nat.zero_le _
  | cons a r =>
    obtain ⟨n, s⟩ := a
    show s.size ≤ 40 + (n.size + s.size + 10 + wtX r)
    omega
def Fr.nmo : Fr → Prop
  | .nil => True
  | .cons x k r => x.a.size ≤ 160 ∧ (x.k = 110 → 0 ≤ x.n ∧ x.n ≤ 65536) ∧ k.nmo ∧ r.nmo
theorem Fr.tx_sz {f : Fr} (h : f.nmo) : wtX f.tx ≤ 210 * f.sz := by
  induction f with
  | nil => exact Nat.le_refl _
  | cons x k r ihk ihr =>
    obtain ⟨h1, h2, h3, h4⟩ := h
    have h5 := ihk h3
    have h6 := ihr h4
    have h7 := ndX_sz (ts := k.tx) h2
    show x.a.size + (ndX x k.tx).size + 10 + wtX r.tx ≤ 210 * (1 + k.sz + r.sz)
    omega
theorem txT_sz {t : Tr} (h1 : t.1.k = 110 → 0 ≤ t.1.n ∧ t.1.n ≤ 65536) (h2 : t.2.nmo) : (txT t).size ≤ 210 * szT t := by
  have h3 := Fr.tx_sz h2
  have h4 := ndX_sz (x := t.1) (ts := t.2.tx) h1
  unfold txT szT
  omega
theorem emq_sz {s : ByteArray} (h : emq s = true) : s.size ≤ 160 := by rw [emq_eq h]; exact Nat.zero_le _
theorem kd_nmo {f : Fr} (h : kdF f = true) : f.nmo := by
  induction f with
  | nil => trivial
  | cons x k r ihk ihr =>
    rw [kdF_cons, Bool.and_eq_true] at h
    obtain ⟨h1, h2⟩ := h
    unfold kdT at h1
    rw [Bool.and_eq_true] at h1
    obtain ⟨h3, h4⟩ := h1
    have hp := plnB_ok h3
    refine ⟨by have h := hp.2.2 rfl; simp only at h; rw [h]; exact Nat.zero_le _, fun h => ?_, ?_, ihr h2⟩
    · exfalso
      have h : x.k = 110 := h
      rw [show (x, k).1.k = 110 from h, if_neg (by decide)] at h4
      cases h4
    · split at h4
      · rw [show k = .nil from Fr.len0 (beq_iff_eq.1 h4)]; trivial
      · simp only [Bool.and_eq_true] at h4
        exact ihk h4.2.2
theorem co_nmo {f : Fr} : ∀ {m : Nat}, coF m f = true → f.nmo := by
  induction f with
  | nil => intro m _; trivial
  | cons x k r ihk ihr =>
    intro m h
    have hv := (co_vok h).1.2
    unfold coF at h
    rw [Bool.and_eq_true] at h
    obtain ⟨h1, h2⟩ := h
    refine ⟨?_, fun h => ⟨(hv h).1, (hv h).2.1⟩, ?_, ihr h2⟩
    · split at h1
      · split at h1
        · simp only [Bool.and_eq_true] at h1
          exact emq_sz h1.2.1
        · rw [Bool.and_eq_true] at h1
          have := (plnB_ok h1.1).2.2 rfl
          rw [this]; exact Nat.zero_le _
      · split at h1
        · have := kd_nmo (f := .cons x k .nil) (by rw [kdF_cons, h1]; rfl)
          exact this.1
        · simp only [Bool.and_eq_true] at h1
          have := h1.2.2.1
          unfold labB at this
          simp only [Bool.and_eq_true, decide_eq_true_eq] at this
          exact this.2
    · split at h1
      · split at h1
        · simp only [Bool.and_eq_true, decide_eq_true_eq, beq_iff_eq] at h1
          rw [Fr.len0 h1.2.2.2.2]; trivial
        · rw [Bool.and_eq_true] at h1
          replace h1 := h1.2
          repeat' split at h1
          · rw [Fr.len0 (beq_iff_eq.1 h1)]; trivial
          · rw [Bool.and_eq_true] at h1; exact ihk h1.2
          · rw [Bool.and_eq_true] at h1; exact ihk h1.2
          · rw [Bool.and_eq_true] at h1; exact ihk h1.2
          · simp only [Bool.and_eq_true] at h1; exact ihk h1.2.2
          · cases h1
      · split at h1
        · have := kd_nmo (f := .cons x k .nil) (by rw [kdF_cons, h1]; rfl)
          exact this.2.2.1
        · simp only [Bool.and_eq_true] at h1
          exact ihk h1.2.2.2.2
end Go.Proofs.YtdofcjnkpgbjaaaDoor
namespace Go.Proofs.YtdofcjnkpgbjaaaDoor
open Go.RowKit

def okX (t : Tr) : Prop := coT t = true ∨ kdT t = true
theorem okX_sz {t : Tr} (h : okX t) : (txT t).size ≤ 210 * szT t := by
  rcases h with h | h
  · have := co_nmo (f := .cons t.1 t.2 .nil) (m := 0) (by rw [coT_F]; exact h)
    exact txT_sz this.2.1 this.2.2.1
  · have := kd_nmo (f := .cons t.1 t.2 .nil) (by rw [kdF_cons]; show (kdT t && true) = true; rw [h]; rfl)
    exact txT_sz this.2.1 this.2.2.1
theorem okX_two {x : Nod} {ks : Fr} (h : okX (x, ks)) (hk : x.k = 101 ∨ x.k = 114 ∨ x.k = 120 ∨ x.k = 117 ∨ x.k = 118 ∨ x.k = 119) : ∃ a ka d kd, ks = .cons a ka (.cons d kd .nil) ∧ okX (a, ka) ∧ okX (d, kd) := by
  rcases h with h | h
  · unfold coT at h
    rw [if_neg (by show ¬ x.k = 110; omega), Bool.and_eq_true] at h
    replace h := h.2
    rw [if_neg (by show ¬ (111 ≤ x.k ∧ x.k ≤ 113); omega)] at h
    simp only at h
    by_cases c2 : x.k = 114 ∨ x.k = 120
    · rw [if_pos c2, Bool.and_eq_true, beq_iff_eq] at h
      obtain ⟨a, ka, d, kd, rfl⟩ := Fr.two h.1
      have h2 := h.2
      rw [coF_0, coF_0, Bool.and_eq_true, Bool.and_eq_true] at h2
      exact ⟨a, ka, d, kd, rfl, .inl h2.1, .inl h2.2.1⟩
    · rw [if_neg c2] at h
      by_cases c3 : x.k = 115
      · omega
      · rw [if_neg c3] at h
        by_cases c4 : 117 ≤ x.k ∧ x.k ≤ 119
        · rw [if_pos c4, Bool.and_eq_true, beq_iff_eq] at h
          obtain ⟨a, ka, d, kd, rfl⟩ := Fr.two h.1
          have h2 := h.2
          rw [coF_1, coF_0, Bool.and_eq_true, Bool.and_eq_true] at h2
          exact ⟨a, ka, d, kd, rfl, .inr h2.1, .inl h2.2.1⟩
        · rw [if_neg c4] at h
          rw [if_neg (by omega)] at h
          cases h
  · unfold kdT at h
    rw [Bool.and_eq_true] at h
    replace h := h.2
    simp only at h
    rw [if_neg (by omega)] at h
    simp only [Bool.and_eq_true, beq_iff_eq] at h
    obtain ⟨a, ka, d, kd, rfl⟩ := Fr.two h.2.1
    have h2 := h.2.2
    rw [kdF_cons, kdF_cons, Bool.and_eq_true, Bool.and_eq_true] at h2
    exact ⟨a, ka, d, kd, rfl, .inr h2.1, .inr h2.2.1⟩
theorem fd_tx {m : Nat} {x : Nod} {k : Fr} (h : fdT m (x, k) = true) : txT (x, k) = (match k with | .cons y l _ => txT (y, l) | .nil => ⟨#[]⟩) ∧ x.a.size ≤ 160 ∧ ∃ y l, k = .cons y l .nil ∧ okX (y, l) := by
  unfold fdT at h
  simp only [Bool.and_eq_true, beq_iff_eq] at h
  obtain ⟨h1, h2, h3, h4, h5⟩ := h
  obtain ⟨y, l, rfl⟩ := Fr.one h4
  rw [coF_0, Bool.and_eq_true] at h5
  have hk : x.k = 116 ∨ x.k = 122 := by rw [h1]; unfold fdK; split <;> omega
  refine ⟨?_, ?_, y, l, rfl, .inl h5.1⟩
  · show ndX x (Fr.tx (.cons y l .nil)) = txT (y, l)
    unfold ndX
    rw [if_neg (by omega), if_neg (by omega), if_neg (by omega), if_neg (by omega), if_neg (by omega), if_neg (by omega), if_neg (by omega), if_neg (by omega), if_neg (by omega), if_neg (by omega), if_neg (by omega), if_neg (by omega)]
    rfl
  · unfold labB at h3
    simp only [Bool.and_eq_true, decide_eq_true_eq] at h3
    exact h3.2
def FdR : Fr → Prop
  | .nil => True
  | .cons x k r => (∃ y l, k = .cons y l .nil ∧ okX (y, l) ∧ txT (x, k) = txT (y, l)) ∧ x.a.size ≤ 160 ∧ FdR r
theorem fdR_of {m : Nat} (h0 : m ≠ 0) (h1 : m ≠ 1) {f : Fr} (h : coF m f = true) : FdR f := by
  induction f with
  | nil => trivial
  | cons x k r _ ih =>
    rw [coF_f h0 h1, Bool.and_eq_true] at h
    obtain ⟨e1, e2, y, l, rfl, e3⟩ := fd_tx h.1
    exact ⟨⟨y, l, rfl, e3, e1⟩, e2, ih h.2⟩
theorem FdR.app {a b : Fr} (h : FdR (a.app b)) : FdR a ∧ FdR b := by
  induction a with
  | nil => exact ⟨trivial, h⟩
  | cons x k r _ ih => exact ⟨⟨h.1, h.2.1, (ih h.2.2).1⟩, (ih h.2.2).2⟩
theorem okX_rec {x : Nod} {ks : Fr} (h : okX (x, ks)) (hk : x.k = 115 ∨ x.k = 121) : FdR ks := by
  rcases h with h | h
  · unfold coT at h
    rw [if_neg (by show ¬ x.k = 110; omega), Bool.and_eq_true] at h
    replace h := h.2
    rw [if_neg (by show ¬ (111 ≤ x.k ∧ x.k ≤ 113); omega), if_neg (by show ¬ (x.k = 114 ∨ x.k = 120); omega)] at h
    simp only at h
    by_cases c3 : x.k = 115
    · rw [if_pos c3, Bool.and_eq_true] at h
      exact fdR_of (by decide) (by decide) h.2
    · rw [if_neg c3, if_neg (by omega), if_pos (by omega)] at h
      simp only [Bool.and_eq_true] at h
      exact fdR_of (by decide) (by decide) h.2.2
  · unfold kdT at h
    rw [Bool.and_eq_true] at h
    replace h := h.2
    simp only at h
    rw [if_neg (by omega)] at h
    simp only [Bool.and_eq_true, beq_iff_eq] at h
    omega
theorem okX_k {x : Nod} {ks : Fr} (h : okX (x, ks)) : x.k = 100 ∨ x.k = 101 ∨ x.k = 110 ∨ x.k = 111 ∨ x.k = 112 ∨ x.k = 113 ∨ x.k = 114 ∨ x.k = 115 ∨ x.k = 117 ∨ x.k = 118 ∨ x.k = 119 ∨ x.k = 120 ∨ x.k = 121 := by
  rcases h with h | h
  · unfold coT at h
    by_cases c0 : x.k = 110
    · omega
    rw [if_neg (by exact c0), Bool.and_eq_true] at h
    replace h := h.2
    simp only at h
    by_cases c1 : 111 ≤ x.k ∧ x.k ≤ 113
    · omega
    rw [if_neg c1] at h
    by_cases c2 : x.k = 114 ∨ x.k = 120
    · omega
    rw [if_neg c2] at h
    by_cases c3 : x.k = 115
    · omega
    rw [if_neg c3] at h
    by_cases c4 : 117 ≤ x.k ∧ x.k ≤ 119
    · omega
    rw [if_neg c4] at h
    by_cases c5 : x.k = 121
    · omega
    rw [if_neg c5] at h
    cases h
  · unfold kdT at h
    rw [Bool.and_eq_true] at h
    replace h := h.2
    simp only at h
    by_cases c1 : x.k = 100
    · omega
    rw [if_neg c1] at h
    simp only [Bool.and_eq_true, beq_iff_eq] at h
    omega
def TxAt (n : Nat) : Prop := ∀ (t : Tr), szT t ≤ n → okX t → ∀ (w : World) (Sq : Nat → Prop) (v : Value), InT w Sq v t → Calls Tryd.prog 36 #[v] w (B.StrDrew (txT t) w)
theorem tx_quiet {P : Program} {f : FuncId} {args : Array Value} {w : World} {n : Nat} {s : ByteArray} (h : Calls P f args (w.drewN n) (B.StrDrew s (w.drewN n))) : Calls P f args (w.drewN n) fun e w'' => e = .returned (.string s) ∧ ∃ m, w'' = w.drewN m :=
  h.mono fun _ _ ⟨he, m, hm⟩ => ⟨he, n + m, by rw [hm, World.drewN_drewN]⟩
set_option maxHeartbeats 3200000 in
set_option maxRecDepth 100000 in
theorem refTx100 {w : World} {q p : Nat} {A : Option Addr} {N c : Nat} (c0 : w.cell? ⟨q, p, none⟩ = some (.int .i64 100)) (c4 : w.cell? ⟨q, p + 4, none⟩ = some (.slice A N c)) : Calls Tryd.prog 36 #[.pointer (some ⟨q, p, none⟩)] w (B.StrDrew ⟨#[42]⟩ w) := by
  go_enter Tryd.func36, Tryd.ntmps36
  go_wp2_with fail
  go_ret
  exact B.str_drew0 rfl
set_option maxHeartbeats 3200000 in
set_option maxRecDepth 100000 in
theorem refTx111 {w : World} {q p : Nat} {A : Option Addr} {N c : Nat} (c0 : w.cell? ⟨q, p, none⟩ = some (.int .i64 111)) (c4 : w.cell? ⟨q, p + 4, none⟩ = some (.slice A N c)) : Calls Tryd.prog 36 #[.pointer (some ⟨q, p, none⟩)] w (B.StrDrew ⟨#[105, 110, 116]⟩ w) := by
  go_enter Tryd.func36, Tryd.ntmps36
  go_wp2_with fail
  go_ret
  exact B.str_drew0 rfl
set_option maxHeartbeats 3200000 in
set_option maxRecDepth 100000 in
theorem refTx112 {w : World} {q p : Nat} {A : Option Addr} {N c : Nat} (c0 : w.cell? ⟨q, p, none⟩ = some (.int .i64 112)) (c4 : w.cell? ⟨q, p + 4, none⟩ = some (.slice A N c)) : Calls Tryd.prog 36 #[.pointer (some ⟨q, p, none⟩)] w (B.StrDrew ⟨#[98, 111, 111, 108]⟩ w) := by
  go_enter Tryd.func36, Tryd.ntmps36
  go_wp2_with fail
  go_ret
  exact B.str_drew0 rfl
set_option maxHeartbeats 3200000 in
set_option maxRecDepth 100000 in
theorem refTx113 {w : World} {q p : Nat} {A : Option Addr} {N c : Nat} (c0 : w.cell? ⟨q, p, none⟩ = some (.int .i64 113)) (c4 : w.cell? ⟨q, p + 4, none⟩ = some (.slice A N c)) : Calls Tryd.prog 36 #[.pointer (some ⟨q, p, none⟩)] w (B.StrDrew ⟨#[117, 110, 105, 116]⟩ w) := by
  go_enter Tryd.func36, Tryd.ntmps36
  go_wp2_with fail
  go_ret
  exact B.str_drew0 rfl
set_option maxHeartbeats 3200000 in
set_option maxRecDepth 100000 in
theorem refTx110 {w : World} {q p : Nat} {A : Option Addr} {N c : Nat} {Z : Int} (c0 : w.cell? ⟨q, p, none⟩ = some (.int .i64 110)) (c1 : w.cell? ⟨q, p + 1, none⟩ = some (.int .i64 Z)) (c4 : w.cell? ⟨q, p + 4, none⟩ = some (.slice A N c)) (h0 : 0 ≤ Z) (h1 : Z ≤ 65536) :
    Calls Tryd.prog 36 #[.pointer (some ⟨q, p, none⟩)] w (B.StrDrew (⟨#[36]⟩ ++ B.T (B.numb Z)) w) := by
  have cN := B.refNumber _ Z (Nat.le_refl _) (by omega) (by omega) w
  have hs := B.numb_size Z (by omega) (by omega)
  have r1 : ¬ 9223372036854775807 < 1 + (B.T (B.numb Z)).size := by omega
  clear hs h0 h1
  go_enter Tryd.func36, Tryd.ntmps36
  go_wp2_with fail
  refine cN.mono ?_
  rintro e w' ⟨rfl, m, rfl⟩
  go_wp2_with fail
  go_ret
  exact B.str_drew _ rfl
set_option maxHeartbeats 3200000 in
set_option maxRecDepth 100000 in
theorem refTx101 {w : World} {q p kb ko c : Nat} {u1 u2 : Value} {X Y : ByteArray} (c0 : w.cell? ⟨q, p, none⟩ = some (.int .i64 101)) (c4 : w.cell? ⟨q, p + 4, none⟩ = some (.slice (some ⟨kb, ko, none⟩) 2 c)) (h1 : w.cell? ⟨kb, ko, none⟩ = some u1) (h2 : w.cell? ⟨kb, ko + 1, none⟩ = some u2)
    (hX : X.size ≤ 1000000000000) (hY : Y.size ≤ 1000000000000) (CA : Hid (∀ m, Calls Tryd.prog 36 #[u1] (w.drewN m) (B.StrDrew X (w.drewN m)))) (CB : Hid (∀ m, Calls Tryd.prog 36 #[u2] (w.drewN m) (B.StrDrew Y (w.drewN m)))) :
    Calls Tryd.prog 36 #[.pointer (some ⟨q, p, none⟩)] w (B.StrDrew (⟨#[40, 32]⟩ ++ X ++ ⟨#[32, 45, 62, 32]⟩ ++ Y ++ ⟨#[32, 41]⟩) w) := by
  have r1 : ¬ 9223372036854775807 < 2 + X.size := by omega
  have r2 : ¬ 9223372036854775807 < 2 + X.size + 4 := by omega
  have r3 : ¬ 9223372036854775807 < 2 + X.size + 4 + Y.size := by omega
  have r4 : ¬ 9223372036854775807 < 2 + X.size + 4 + Y.size + 2 := by omega
  clear hX hY
  go_enter Tryd.func36, Tryd.ntmps36
  go_wp2_with fail
  go_big_quiet ((go_at_call 36; first | with_reducible exact tx_quiet (CA.out _) | with_reducible exact tx_quiet (CB.out _)))
  go_wp2_with fail
  go_ret
  exact B.str_drew _ rfl
set_option maxHeartbeats 3200000 in
set_option maxRecDepth 100000 in
theorem refTx114 {w : World} {q p kb ko c : Nat} {u1 u2 : Value} {X Y : ByteArray} (c0 : w.cell? ⟨q, p, none⟩ = some (.int .i64 114)) (c4 : w.cell? ⟨q, p + 4, none⟩ = some (.slice (some ⟨kb, ko, none⟩) 2 c)) (h1 : w.cell? ⟨kb, ko, none⟩ = some u1) (h2 : w.cell? ⟨kb, ko + 1, none⟩ = some u2)
    (hX : X.size ≤ 1000000000000) (hY : Y.size ≤ 1000000000000) (CA : Hid (∀ m, Calls Tryd.prog 36 #[u1] (w.drewN m) (B.StrDrew X (w.drewN m)))) (CB : Hid (∀ m, Calls Tryd.prog 36 #[u2] (w.drewN m) (B.StrDrew Y (w.drewN m)))) :
    Calls Tryd.prog 36 #[.pointer (some ⟨q, p, none⟩)] w (B.StrDrew (⟨#[40, 32]⟩ ++ X ++ ⟨#[32, 45, 62, 32]⟩ ++ Y ++ ⟨#[32, 41]⟩) w) := by
  have r1 : ¬ 9223372036854775807 < 2 + X.size := by omega
  have r2 : ¬ 9223372036854775807 < 2 + X.size + 4 := by omega
  have r3 : ¬ 9223372036854775807 < 2 + X.size + 4 + Y.size := by omega
  have r4 : ¬ 9223372036854775807 < 2 + X.size + 4 + Y.size + 2 := by omega
  clear hX hY
  go_enter Tryd.func36, Tryd.ntmps36
  go_wp2_with fail
  go_big_quiet ((go_at_call 36; first | with_reducible exact tx_quiet (CA.out _) | with_reducible exact tx_quiet (CB.out _)))
  go_wp2_with fail
  go_ret
  exact B.str_drew _ rfl
set_option maxHeartbeats 3200000 in
set_option maxRecDepth 100000 in
theorem refTx117 {w : World} {q p kb ko c : Nat} {u1 u2 : Value} {X Y : ByteArray} (c0 : w.cell? ⟨q, p, none⟩ = some (.int .i64 117)) (c4 : w.cell? ⟨q, p + 4, none⟩ = some (.slice (some ⟨kb, ko, none⟩) 2 c)) (h1 : w.cell? ⟨kb, ko, none⟩ = some u1) (h2 : w.cell? ⟨kb, ko + 1, none⟩ = some u2)
    (hX : X.size ≤ 1000000000000) (hY : Y.size ≤ 1000000000000) (CA : Hid (∀ m, Calls Tryd.prog 36 #[u1] (w.drewN m) (B.StrDrew X (w.drewN m)))) (CB : Hid (∀ m, Calls Tryd.prog 36 #[u2] (w.drewN m) (B.StrDrew Y (w.drewN m)))) :
    Calls Tryd.prog 36 #[.pointer (some ⟨q, p, none⟩)] w (B.StrDrew (⟨#[40, 32, 97, 108, 108, 32]⟩ ++ X ++ ⟨#[32, 46, 32]⟩ ++ Y ++ ⟨#[32, 41]⟩) w) := by
  have r1 : ¬ 9223372036854775807 < 6 + X.size := by omega
  have r2 : ¬ 9223372036854775807 < 6 + X.size + 3 := by omega
  have r3 : ¬ 9223372036854775807 < 6 + X.size + 3 + Y.size := by omega
  have r4 : ¬ 9223372036854775807 < 6 + X.size + 3 + Y.size + 2 := by omega
  clear hX hY
  go_enter Tryd.func36, Tryd.ntmps36
  go_wp2_with fail
  go_big_quiet ((go_at_call 36; first | with_reducible exact tx_quiet (CA.out _) | with_reducible exact tx_quiet (CB.out _)))
  go_wp2_with fail
  go_ret
  exact B.str_drew _ rfl
set_option maxHeartbeats 3200000 in
set_option maxRecDepth 100000 in
theorem refTx118 {w : World} {q p kb ko c : Nat} {u1 u2 : Value} {X Y : ByteArray} (c0 : w.cell? ⟨q, p, none⟩ = some (.int .i64 118)) (c4 : w.cell? ⟨q, p + 4, none⟩ = some (.slice (some ⟨kb, ko, none⟩) 2 c)) (h1 : w.cell? ⟨kb, ko, none⟩ = some u1) (h2 : w.cell? ⟨kb, ko + 1, none⟩ = some u2)
    (hX : X.size ≤ 1000000000000) (hY : Y.size ≤ 1000000000000) (CA : Hid (∀ m, Calls Tryd.prog 36 #[u1] (w.drewN m) (B.StrDrew X (w.drewN m)))) (CB : Hid (∀ m, Calls Tryd.prog 36 #[u2] (w.drewN m) (B.StrDrew Y (w.drewN m)))) :
    Calls Tryd.prog 36 #[.pointer (some ⟨q, p, none⟩)] w (B.StrDrew (⟨#[40, 32, 101, 120, 32]⟩ ++ X ++ ⟨#[32, 46, 32]⟩ ++ Y ++ ⟨#[32, 41]⟩) w) := by
  have r1 : ¬ 9223372036854775807 < 5 + X.size := by omega
  have r2 : ¬ 9223372036854775807 < 5 + X.size + 3 := by omega
  have r3 : ¬ 9223372036854775807 < 5 + X.size + 3 + Y.size := by omega
  have r4 : ¬ 9223372036854775807 < 5 + X.size + 3 + Y.size + 2 := by omega
  clear hX hY
  go_enter Tryd.func36, Tryd.ntmps36
  go_wp2_with fail
  go_big_quiet ((go_at_call 36; first | with_reducible exact tx_quiet (CA.out _) | with_reducible exact tx_quiet (CB.out _)))
  go_wp2_with fail
  go_ret
  exact B.str_drew _ rfl
set_option maxHeartbeats 3200000 in
set_option maxRecDepth 100000 in
theorem refTx119 {w : World} {q p kb ko c : Nat} {u1 u2 : Value} {X Y : ByteArray} (c0 : w.cell? ⟨q, p, none⟩ = some (.int .i64 119)) (c4 : w.cell? ⟨q, p + 4, none⟩ = some (.slice (some ⟨kb, ko, none⟩) 2 c)) (h1 : w.cell? ⟨kb, ko, none⟩ = some u1) (h2 : w.cell? ⟨kb, ko + 1, none⟩ = some u2)
    (hX : X.size ≤ 1000000000000) (hY : Y.size ≤ 1000000000000) (CA : Hid (∀ m, Calls Tryd.prog 36 #[u1] (w.drewN m) (B.StrDrew X (w.drewN m)))) (CB : Hid (∀ m, Calls Tryd.prog 36 #[u2] (w.drewN m) (B.StrDrew Y (w.drewN m)))) :
    Calls Tryd.prog 36 #[.pointer (some ⟨q, p, none⟩)] w (B.StrDrew (⟨#[40, 32, 102, 110, 32]⟩ ++ X ++ ⟨#[32, 46, 32]⟩ ++ Y ++ ⟨#[32, 41]⟩) w) := by
  have r1 : ¬ 9223372036854775807 < 5 + X.size := by omega
  have r2 : ¬ 9223372036854775807 < 5 + X.size + 3 := by omega
  have r3 : ¬ 9223372036854775807 < 5 + X.size + 3 + Y.size := by omega
  have r4 : ¬ 9223372036854775807 < 5 + X.size + 3 + Y.size + 2 := by omega
  clear hX hY
  go_enter Tryd.func36, Tryd.ntmps36
  go_wp2_with fail
  go_big_quiet ((go_at_call 36; first | with_reducible exact tx_quiet (CA.out _) | with_reducible exact tx_quiet (CB.out _)))
  go_wp2_with fail
  go_ret
  exact B.str_drew _ rfl
set_option maxHeartbeats 3200000 in
set_option maxRecDepth 100000 in
theorem refTx120 {w : World} {q p kb ko c : Nat} {u1 u2 : Value} {X Y : ByteArray} (c0 : w.cell? ⟨q, p, none⟩ = some (.int .i64 120)) (c4 : w.cell? ⟨q, p + 4, none⟩ = some (.slice (some ⟨kb, ko, none⟩) 2 c)) (h1 : w.cell? ⟨kb, ko, none⟩ = some u1) (h2 : w.cell? ⟨kb, ko + 1, none⟩ = some u2)
    (hX : X.size ≤ 1000000000000) (hY : Y.size ≤ 1000000000000) (CA : Hid (∀ m, Calls Tryd.prog 36 #[u1] (w.drewN m) (B.StrDrew X (w.drewN m)))) (CB : Hid (∀ m, Calls Tryd.prog 36 #[u2] (w.drewN m) (B.StrDrew Y (w.drewN m)))) :
    Calls Tryd.prog 36 #[.pointer (some ⟨q, p, none⟩)] w (B.StrDrew (⟨#[40, 32]⟩ ++ X ++ ⟨#[32]⟩ ++ Y ++ ⟨#[32, 41]⟩) w) := by
  have r1 : ¬ 9223372036854775807 < 2 + X.size := by omega
  have r2 : ¬ 9223372036854775807 < 2 + X.size + 1 := by omega
  have r3 : ¬ 9223372036854775807 < 2 + X.size + 1 + Y.size := by omega
  have r4 : ¬ 9223372036854775807 < 2 + X.size + 1 + Y.size + 2 := by omega
  clear hX hY
  go_enter Tryd.func36, Tryd.ntmps36
  go_wp2_with fail
  go_big_quiet ((go_at_call 36; first | with_reducible exact tx_quiet (CA.out _) | with_reducible exact tx_quiet (CB.out _)))
  go_wp2_with fail
  go_ret
  exact B.str_drew _ rfl
end Go.Proofs.YtdofcjnkpgbjaaaDoor
