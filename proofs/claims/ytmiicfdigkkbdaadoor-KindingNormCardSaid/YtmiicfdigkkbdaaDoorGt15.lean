/-
  Layer 10, the document's side: Put (written by gct.py out of XCth).
-/
import Derived.Test.YtmiicfdigkkbdaaDoorGt10
import Derived.Test.YtmiicfdigkkbdaaDoorGt14
namespace Go.Proofs.YtmiicfdigkkbdaaDoor
open Go.RowKit

def ptT (i : Int) (u : Tr) (d : Nat) (t : Tr) : Option Tr := if atV i d t.1 then mvT d 0 0 u else match Fr.pt i u (d + innK t.1.k) t.2 with
  | some k' => some (ptN i d t.1, k')
  | none => none
theorem Fr.pt_cons {i : Int} {u : Tr} {d : Nat} {x : Nod} {k r : Fr} : Fr.pt i u d (.cons x k r) = match ptT i u d (x, k), Fr.pt i u d r with
    | some t, some r' => some (.cons t.1 t.2 r')
    | _, _ => none := by
  unfold ptT
  show (if atV i d x then _ else _) = _
  by_cases h : atV i d x
  · rw [if_pos h]
    simp only [h, if_true]
    cases mvT (d : Int) 0 0 u <;> cases Fr.pt i u d r <;> rfl
  · rw [if_neg h]
    simp only [h, if_false]
    cases Fr.pt i u (d + innK x.k) k <;> cases Fr.pt i u d r <;> rfl
theorem Fr.pt_inv {i : Int} {u : Tr} {d : Nat} {x : Nod} {k r g : Fr} (h : Fr.pt i u d (.cons x k r) = some g) : ∃ t r', ptT i u d (x, k) = some t ∧ Fr.pt i u d r = some r' ∧ g = .cons t.1 t.2 r' := by
  rw [Fr.pt_cons] at h
  split at h
  · rename_i t r' h1 h2
    injection h with h
    exact ⟨t, r', h1, h2, h.symm⟩
  · cases h
theorem Fr.pt_mk {i : Int} {u t : Tr} {d : Nat} {x : Nod} {k r r' : Fr} (h1 : ptT i u d (x, k) = some t) (h2 : Fr.pt i u d r = some r') : Fr.pt i u d (.cons x k r) = some (.cons t.1 t.2 r') := by rw [Fr.pt_cons, h1, h2]
theorem Fr.pt_len {i : Int} {u : Tr} {d : Nat} {f g : Fr} (h : Fr.pt i u d f = some g) : g.len = f.len := by
  induction f generalizing g with
  | nil => injection h with h; rw [← h]
  | cons x k r _ ih =>
    obtain ⟨t, r', _, h2, rfl⟩ := Fr.pt_inv h
    show r'.len + 1 = r.len + 1
    rw [ih h2]
end Go.Proofs.YtmiicfdigkkbdaaDoor
namespace Go.Proofs.YtmiicfdigkkbdaaDoor
open Go.RowKit

def ctT (i : Int) (d : Nat) (t : Tr) : Nat := (if atV i d t.1 then 1 else 0) + Fr.ct i (d + innK t.1.k) t.2
def fvT (d : Nat) (t : Tr) : Int := max (fvN d t.1) (Fr.fv (d + innK t.1.k) t.2)
theorem Fr.ct_c (i : Int) (d : Nat) (x : Nod) (k r : Fr) : Fr.ct i d (.cons x k r) = ctT i d (x, k) + Fr.ct i d r := rfl
theorem Fr.fv_c (d : Nat) (x : Nod) (k r : Fr) : Fr.fv d (.cons x k r) = max (fvT d (x, k)) (Fr.fv d r) := rfl
theorem Fr.ct_app (i : Int) (d : Nat) (a b : Fr) : Fr.ct i d (a.app b) = Fr.ct i d a + Fr.ct i d b := by
  induction a with
  | nil => show _ = 0 + _; rw [Nat.zero_add]; rfl
  | cons x k r _ ih =>
    show Fr.ct i d (.cons x k (r.app b)) = _
    rw [Fr.ct_c, Fr.ct_c, ih, Nat.add_assoc]
theorem Fr.ct_le (i : Int) (f : Fr) : ∀ d, Fr.ct i d f ≤ f.sz := by
  induction f with
  | nil => intro d; exact Nat.le_refl _
  | cons x k r ihk ihr =>
    intro d
    have h1 := ihk (d + innK x.k)
    have h2 := ihr d
    unfold Fr.ct Fr.sz
    split <;> omega
theorem ctT_le (i : Int) (d : Nat) (t : Tr) : ctT i d t ≤ szT t := by
  have := Fr.ct_le i t.2 (d + innK t.1.k)
  unfold ctT szT
  split <;> omega
theorem fvT_pos (d : Nat) (t : Tr) : 0 ≤ fvT d t := by have := Fr.fv_pos t.2 (d + innK t.1.k); unfold fvT; omega
def CtAt (n : Nat) (i : Int) : Prop := ∀ (t : Tr), szT t ≤ n → tvok t → ∀ (d : Nat), d + n ≤ 1000000000 → ∀ (w : World) (Sq : Nat → Prop) (v : Value), InT w Sq v t →
  Calls Tryd.prog 72 #[v, .int .i64 i, .int .i64 (d : Int)] w (DrI ((ctT i d t : Nat) : Int) w)
set_option maxHeartbeats 12800000 in
set_option maxRecDepth 100000 in
theorem refCount (i : Int) : ∀ (n : Nat), CtAt n i
  | 0, t, h, _, _, _, _, _, _, _ => absurd h (by unfold szT; omega)
  | n + 1, (x, ks), hn, hv, d, hd, w, Sq, v, hin => by
    have ih := refCount i n
    obtain ⟨q, p, A, cc, rfl, hq1, c0, c1, c2, c3, c4, hc, hkid⟩ := hin.open
    have hsz : szT (x, ks) = 1 + ks.sz := rfl
    have hll := Fr.len_le ks
    have hi1 := innK_le x.k
    obtain ⟨B, hB⟩ : ∃ B : Nat, (if atV i d x then 1 else 0) = B := ⟨_, rfl⟩
    have hB1 : B ≤ 1 := by rw [← hB]; split <;> omega
    have hR : ctT i d (x, ks) = B + Fr.ct i (d + innK x.k) ks := by rw [← hB]; rfl
    obtain ⟨R, hRR⟩ : ∃ R, ctT i d (x, ks) = R := ⟨_, rfl⟩
    rw [hRR] at hR ⊢
    have hvx : x.k = 110 → 0 ≤ x.n ∧ x.n ≤ 65536 := fun h => ⟨(hv.1.2 h).1, (hv.1.2 h).2.1⟩
    obtain ⟨K, hK⟩ : ∃ K, x.k = K := ⟨_, rfl⟩
    obtain ⟨Z, hZ⟩ : ∃ K, x.n = K := ⟨_, rfl⟩
    have hBB : (if K = 110 ∧ (d : Int) ≤ Z ∧ Z - d = i then 1 else 0) = B := by
      rw [← hB, ← hK, ← hZ]
      by_cases h : atV i d x
      · rw [if_pos h]; exact if_pos h
      · rw [if_neg h]; exact if_neg h
    rw [hK] at c0 hR hvx hi1
    rw [hZ] at c1 hvx
    obtain ⟨N, hN⟩ : ∃ N, ks.len = N := ⟨_, rfl⟩
    rw [hN] at c4 hll
    have hN1 : N ≤ 1000000000 := by omega
    obtain ⟨I, hI⟩ : ∃ I, innK K = I := ⟨_, rfl⟩
    have HI := Lib.hid hI
    rw [hI] at hR hi1
    have HK := Lib.hid hkid
    have HNN := Lib.hid hN
    have HSZ := Lib.hid (by omega : ks.sz ≤ n)
    have HIH := Lib.hid ih
    have HVK := Lib.hid hv.2
    have HR := Lib.hid hR
    have HB1 := Lib.hid hB1
    have HC0 := Lib.hid c0
    have HDI := Lib.hid (by omega : d + I + n ≤ 1000000000)
    have HWI := Lib.hid (wrap_ni d I (by omega) (by omega))
    have key : (B = 0 ∧ ¬ K = 110) ∨ (B = 0 ∧ K = 110 ∧ decide ((d : Int) ≤ Z) = false) ∨ (B = 0 ∧ K = 110 ∧ decide ((d : Int) ≤ Z) = true ∧ (Z - (d : Int) == i) = false) ∨ (B = 1 ∧ K = 110 ∧ decide ((d : Int) ≤ Z) = true ∧ (Z - (d : Int) == i) = true) := by
      by_cases e1 : K = 110
      · by_cases e2 : (d : Int) ≤ Z
        · by_cases e3 : Z - (d : Int) = i
          · rw [if_pos ⟨e1, e2, e3⟩] at hBB
            exact .inr (.inr (.inr ⟨hBB.symm, e1, decide_eq_true e2, beq_iff_eq.2 e3⟩))
          · rw [if_neg (fun h => e3 h.2.2)] at hBB
            exact .inr (.inr (.inl ⟨hBB.symm, e1, decide_eq_true e2, beq_eq_false_iff_ne.2 e3⟩))
        · rw [if_neg (fun h => e2 h.2.1)] at hBB
          exact .inr (.inl ⟨hBB.symm, e1, decide_eq_false e2⟩)
      · rw [if_neg (fun h => e1 h.1)] at hBB
        exact .inl ⟨hBB.symm, e1⟩
    have w1 : K = 110 → wrap64 (Z - (d : Int)) = Z - (d : Int) := fun h => by have := hvx h; exact wrap_in _ (by omega) (by omega)
    have W1 := Lib.hid w1
    clear hin hkid ih hv hR hN hc hsz hn hd hK hZ hI hRR hB hB1 hBB hvx w1 hi1
    rcases key with ⟨rfl, e1⟩ | ⟨rfl, e1, e2⟩ | ⟨rfl, e1, e2, e3⟩ | ⟨rfl, e1, e2, e3⟩
    all_goals
      try (have w2 := W1.out e1; subst e1)
      go_enter Tryd.func72, Tryd.ntmps72
      go_wp2_with fail
      try clear w2
      go_loopw [7, 8] (fun s j wr => ∃ (k : Nat) (done rest : Fr) (B : Nat), B + Fr.ct i (d + I) ks = R ∧ B ≤ 1 ∧ j = .int .i64 k ∧ k = done.len ∧ ks = done.app rest ∧ s = .int .i64 ((B + Fr.ct i (d + I) done : Nat) : Int) ∧ Kid w Sq A rest k ∧ ∃ q, wr = w.drewN q) (fun _ j _ => N - (intOf j).toNat)
      case atStart => exact ⟨0, .nil, ks, _, HR.out.symm, HB1.out, rfl, rfl, rfl, rfl, HK.out, 0, rfl⟩
      case round =>
        obtain ⟨k, done, rest, B, hBR, hB1, rfl, hk, hks, rfl, hkid, qq, rfl⟩ := hrel
        have hl : N = done.len + rest.len := by rw [← HNN.out, hks, Fr.len_app]
        have hs : ks.sz = done.sz + rest.sz := by rw [hks, Fr.sz_app]
        have hsz := HSZ.out
        have HKS := Lib.hid hks
        have HBR := Lib.hid hBR
        have HB2 := Lib.hid hB1
        have hcl := Fr.ct_le i done (d + I)
        clear hBR
        by_cases hlt : 0 < rest.len
        · obtain ⟨y, l, r, rfl⟩ := Fr.cut hlt
          obtain ⟨kb, ko, u, rfl, hkb, hcell, hu, hnext⟩ := hkid.next
          have hyl : szT (y, l) = 1 + l.sz := rfl
          have hsr : (Fr.cons y l r).sz = 1 + l.sz + r.sz := rfl
          have hlr : (Fr.cons y l r).len = r.len + 1 := rfl
          have hvy : tvok (y, l) := by
            have h := HVK.out
            rw [HKS.out, Fr.vok_app] at h
            exact ⟨h.2.1, h.2.2.1⟩
          have cI := fun m => HIH.out (y, l) (by omega) hvy (d + I) (by have := HDI.out; omega) (w.drewN m) Sq u (hu.drew m)
          have hcy := ctT_le i (d + I) (y, l)
          have HN := Lib.hid hnext
          have hkN : k < N := by omega
          have hkz : (k : Int) < (N : Int) := by omega
          have HK1 := Lib.hid hk
          obtain ⟨C, hC⟩ : ∃ C, B + Fr.ct i (d + I) done = C := ⟨_, rfl⟩
          obtain ⟨D, hD⟩ : ∃ C, ctT i (d + I) (y, l) = C := ⟨_, rfl⟩
          rw [hC]
          rw [hD] at cI hcy
          have hE : B + Fr.ct i (d + I) (done.app (.cons y l .nil)) = C + D := by rw [Fr.ct_app, Fr.ct_c, hD, ← hC]; show B + (Fr.ct i (d + I) done + (D + 0)) = _; omega
          have HE := Lib.hid hE
          have HCI := Lib.hid cI
          have hdi := HDI.out
          have HW2 := Lib.hid (wrap_ni C D (by omega) (by omega))
          have HW3 := Lib.hid (wrap_nn C D (by omega) (by omega))
          have cN := fun m => refInner (w := w.drewN m) HC0.out
          rw [HI.out] at cN
          have CN := Lib.hid cN
          clear hkid hnext hu hks hk hl hs hlr hsr hsz hyl hcl hcy hC hD hE cI cN hvy hB1 hdi
          have hwi := HWI.out
          have hw2 := HW2.out
          have hw3 := HW3.out
          go_wp2_with fail
          go_big_quiet ((first
            | (go_at_call 89; exact Calls.mono (CN.out _) fun _ _ ⟨he, hm⟩ => ⟨he, _, hm⟩)
            | (go_at_call 72; exact quiet_off (HCI.out _))))
          go_wp2_with fail
          clear hwi hw2 hw3
          go_roundw
          case rel => exact ⟨k + 1, done.app (.cons y l .nil), r, B, HBR.out, HB2.out, by go_num, by rw [Fr.len_app, HK1.out]; rfl, by rw [HKS.out, Fr.app_cons], i64_eq (by rw [HE.out]; omega), HN.out, _, rfl⟩
          case measure => simp [intOf]; omega
        · have h0 : rest = .nil := by
            cases rest with
            | nil => rfl
            | cons y l r => exact absurd (Nat.succ_pos _) hlt
          subst h0
          have hl' : N = done.len := by simpa [Fr.len] using hl
          have hkz : ¬ (k : Int) < (N : Int) := by omega
          have HE : Hid (B + Fr.ct i (d + I) done = R) := Lib.hid (by rw [← HBR.out, HKS.out, Fr.app_nil])
          clear hkid hks hk hl hl' hs hsz hcl hB1
          go_wp2_with fail
          go_ret
          exact dri _ (by have := HE.out; omega)
end Go.Proofs.YtmiicfdigkkbdaaDoor
namespace Go.Proofs.YtmiicfdigkkbdaaDoor
open Go.RowKit

def errO (z : Int) : Option Tr → Option Tr × Int
  | none => (none, z)
  | some t => (some t, 0)
def ErP (R : Option Tr × Int) (W : World) (e : Ending) (w' : World) : Prop := ∃ v, e = .returned (.tuple #[v, .int .i64 R.2]) ∧ Up W w' ∧ NwO W w' v R.1
theorem NwO.up {W a w : World} {v : Value} {o : Option Tr} (h : NwO W a v o) (u : Up a w) : NwO W w v o := by
  cases o with
  | none => exact h
  | some t => exact NwT.up h u
theorem NwO.base {W a w : World} {v : Value} {o : Option Tr} (h : NwO a w v o) (u : W.heap.size ≤ a.heap.size) : NwO W w v o := by
  cases o with
  | none => exact h
  | some t => exact NwT.base h u
theorem NwO.has {W w : World} {v : Value} {o : Option Tr} (h : NwO W w v o) : HasT w v o := by
  cases o with
  | none => exact h
  | some t => exact NwT.has h
def frR (o : Option Tr) : Int := match o with
  | none => 0
  | some t => if ckE (some t) = 0 then fvT 0 t else 0
def sbR (i : Int) (o p : Option Tr) : Option Tr × Int := if ckE o = 0 then (if ckE p = 0 then (if i < 0 then (none, 2) else match o, p with
    | some t, some u => if 65536 < szT t - ctT i 0 t + ctT i 0 t * szT u then (none, 3) else errO 3 (ptT i u 0 t)
    | _, _ => (none, 1)) else (none, ckE p)) else (none, ckE o)
end Go.Proofs.YtmiicfdigkkbdaaDoor
namespace Go.Proofs.YtmiicfdigkkbdaaDoor
open Go.RowKit

theorem Fr.pt_c {i : Int} {u : Tr} {d : Nat} {x : Nod} {k r g : Fr} (h : Fr.pt i u d (.cons x k r) = some g) :
    (atV i d x ∧ ∃ t r', mvT d 0 0 u = some t ∧ Fr.pt i u d r = some r' ∧ g = .cons t.1 t.2 r') ∨
    (¬ atV i d x ∧ ∃ k' r', Fr.pt i u (d + innK x.k) k = some k' ∧ Fr.pt i u d r = some r' ∧ g = .cons (ptN i d x) k' r') := by
  unfold Fr.pt at h
  split at h
  · rename_i ha
    split at h
    · rename_i t r' h1 h2
      injection h with h
      exact .inl ⟨ha, t, r', h1, h2, h.symm⟩
    · cases h
  · rename_i ha
    split at h
    · rename_i k' r' h1 h2
      injection h with h
      exact .inr ⟨ha, k', r', h1, h2, h.symm⟩
    · cases h
theorem ptN_k (i : Int) (d : Nat) (x : Nod) : (ptN i d x).k = x.k ∧ (ptN i d x).a = x.a ∧ (ptN i d x).m = ⟨#[]⟩ := by
  unfold ptN
  split <;> exact ⟨rfl, rfl, rfl⟩
theorem ptN_other {i : Int} {d : Nat} {x : Nod} (h : ¬ x.k = 110) : (ptN i d x).n = x.n := by
  unfold ptN
  rw [if_neg (fun hf => h hf.1)]
  rfl
theorem ptN_var {i : Int} {d : Nat} {x : Nod} (hi : 0 ≤ i) (h0 : 0 ≤ x.n) (h1 : x.n ≤ 65536) : 0 ≤ (ptN i d x).n ∧ (ptN i d x).n ≤ 65536 := by
  unfold ptN
  split
  · rename_i hf
    obtain ⟨_, h2, h3⟩ := hf
    show 0 ≤ x.n - 1 ∧ x.n - 1 ≤ 65536
    omega
  · exact ⟨h0, h1⟩
theorem kdT_k {x : Nod} {k : Fr} (h : kdT (x, k) = true) : x.k = 100 ∨ x.k = 101 := by
  unfold kdT at h
  rw [Bool.and_eq_true] at h
  by_cases h0 : x.k = 100
  · exact .inl h0
  · right
    have h2 := h.2
    rw [if_neg (by exact h0)] at h2
    simp only [Bool.and_eq_true, beq_iff_eq] at h2
    exact h2.1
theorem fdT_k {m : Nat} {x : Nod} {k : Fr} (h : fdT m (x, k) = true) : x.k = 116 ∨ x.k = 122 := by
  unfold fdT at h
  simp only [Bool.and_eq_true, beq_iff_eq] at h
  have e := h.1
  unfold fdK at e
  split at e
  · exact .inl e
  · exact .inr e
theorem Fr.pt_kd {i : Int} {u : Tr} {f : Fr} : ∀ {d : Nat}, kdF f = true → Fr.pt i u d f = some f := by
  induction f with
  | nil => intro d _; rfl
  | cons x k r ihk ihr =>
    intro d h
    rw [kdF_cons, Bool.and_eq_true] at h
    obtain ⟨h1, h2⟩ := h
    have hk := kdT_k h1
    have hv : x.m = ⟨#[]⟩ := by unfold kdT at h1; rw [Bool.and_eq_true] at h1; exact (plnB_ok h1.1).1
    have hkk : kdF k = true := by
      unfold kdT at h1
      rw [Bool.and_eq_true] at h1
      have h3 := h1.2
      split at h3
      · rw [show k = .nil from Fr.len0 (beq_iff_eq.1 h3)]; rfl
      · simp only [Bool.and_eq_true] at h3
        exact h3.2.2
    unfold Fr.pt
    rw [if_neg (fun h => by have := h.1; omega), ihk hkk, ihr h2]
    show some (Fr.cons (ptN i d x) k r) = _
    unfold ptN
    rw [if_neg (fun h => by have := h.1; omega), setN_self hv]
theorem Fr.pt_lb {i : Int} {u : Tr} {rise : Bool} {m : Nat} (h0 : m ≠ 0) (h1 : m ≠ 1) {f g : Fr} : ∀ {d : Nat} {pre : List ByteArray}, coF m f = true → Fr.pt i u d f = some g → lbF rise pre g = lbF rise pre f := by
  induction f generalizing g with
  | nil => intro d pre _ h; injection h with h; rw [← h]
  | cons x k r _ ihr =>
    intro d pre hc h
    rw [coF_f h0 h1, Bool.and_eq_true] at hc
    have hk := fdT_k hc.1
    rcases Fr.pt_c h with ⟨ha, _⟩ | ⟨_, k', r', h2, h3, rfl⟩
    · exfalso
      have := ha.1
      omega
    · unfold lbF
      rw [(ptN_k i d x).2.1, ihr hc.2 h3]
theorem plnB_pt {i : Int} {d : Nat} {x : Nod} {nm : Bool} (hk : ¬ x.k = 110) (hp : plnB x nm = true) : plnB (ptN i d x) nm = true := by
  unfold plnB at hp ⊢
  obtain ⟨_, h1, h2⟩ := ptN_k i d x
  rw [h1, h2, ptN_other hk, emq_nil]
  rw [Bool.and_eq_true] at hp
  rw [hp.2]
  rfl
theorem Fr.pt_co {i : Int} (hi : 0 ≤ i) {u : Tr} (hu : coT u = true) {f g : Fr} : ∀ {d m : Nat}, Fr.pt i u d f = some g → coF m f = true → coF m g = true := by
  induction f generalizing g with
  | nil => intro d m h _; injection h with h; rw [← h]; rfl
  | cons x k r ihk ihr =>
    intro d m h hf
    rcases Fr.pt_c h with ⟨ha, t, r', h1, h2, rfl⟩ | ⟨hna, k', r', h2, h3, rfl⟩
    · have hk := ha.1
      by_cases hm0 : m = 0
      · subst hm0
        rw [coF_0, Bool.and_eq_true] at hf ⊢
        exact ⟨mvT_co h1 hu, ihr h2 hf.2⟩
      · exfalso
        by_cases hm1 : m = 1
        · subst hm1
          rw [coF_1, Bool.and_eq_true] at hf
          have := kdT_k hf.1
          omega
        · rw [coF_f hm0 hm1, Bool.and_eq_true] at hf
          have := fdT_k hf.1
          omega
    · have hl := Fr.pt_len h2
      have ha := ptN_k i d x
      unfold coF at hf ⊢
      rw [Bool.and_eq_true] at hf ⊢
      obtain ⟨hf1, hf2⟩ := hf
      refine ⟨?_, ihr h3 hf2⟩
      rw [ha.1, hl, ha.2.1, ha.2.2, emq_nil]
      by_cases hm0 : m = 0
      · rw [if_pos hm0] at hf1 ⊢
        by_cases h110 : x.k = 110
        · rw [if_pos h110] at hf1 ⊢
          simp only [Bool.and_eq_true, decide_eq_true_eq, beq_iff_eq] at hf1 ⊢
          have hv := ptN_var (d := d) hi hf1.2.2.1 hf1.2.2.2.1
          exact ⟨trivial, hf1.2.1, hv.1, hv.2, hf1.2.2.2.2⟩
        · rw [if_neg h110, Bool.and_eq_true] at hf1 ⊢
          refine ⟨plnB_pt h110 hf1.1, ?_⟩
          replace hf1 := hf1.2
          by_cases c1 : 111 ≤ x.k ∧ x.k ≤ 113
          · rw [if_pos c1] at hf1 ⊢; exact hf1
          rw [if_neg c1] at hf1 ⊢
          by_cases c2 : x.k = 114 ∨ x.k = 120
          · rw [if_pos c2, Bool.and_eq_true] at hf1 ⊢; exact ⟨hf1.1, ihk h2 hf1.2⟩
          rw [if_neg c2] at hf1 ⊢
          by_cases c3 : x.k = 115
          · rw [if_pos c3, Bool.and_eq_true] at hf1 ⊢
            exact ⟨by rw [Fr.pt_lb (m := 2) (by omega) (by omega) hf1.2 h2]; exact hf1.1, ihk h2 hf1.2⟩
          rw [if_neg c3] at hf1 ⊢
          by_cases c4 : 117 ≤ x.k ∧ x.k ≤ 119
          · rw [if_pos c4, Bool.and_eq_true] at hf1 ⊢; exact ⟨hf1.1, ihk h2 hf1.2⟩
          rw [if_neg c4] at hf1 ⊢
          by_cases c5 : x.k = 121
          · rw [if_pos c5] at hf1 ⊢
            simp only [Bool.and_eq_true] at hf1 ⊢
            exact ⟨hf1.1, by rw [Fr.pt_lb (m := 3) (by omega) (by omega) hf1.2.2 h2]; exact hf1.2.1, ihk h2 hf1.2.2⟩
          rw [if_neg c5] at hf1
          cases hf1
      · rw [if_neg hm0] at hf1 ⊢
        by_cases hm1 : m = 1
        · rw [if_pos hm1] at hf1 ⊢
          have hx : kdF (.cons x k .nil) = true := by rw [kdF_cons, hf1]; rfl
          have hkf : kdF (.cons (ptN i d x) k' .nil) = true := by
            have e1 : Fr.pt i u d (.cons x k .nil) = some (.cons (ptN i d x) k' .nil) := by
              unfold Fr.pt
              rw [if_neg hna, h2]
              rfl
            rw [Fr.pt_kd hx] at e1
            injection e1 with e1
            rw [← e1]
            exact hx
          rw [kdF_cons, Bool.and_eq_true] at hkf
          exact hkf.1
        · rw [if_neg hm1] at hf1 ⊢
          simp only [Bool.and_eq_true] at hf1 ⊢
          have h110 : ¬ x.k = 110 := fun h => by
            have e := beq_iff_eq.1 hf1.1
            unfold fdK at e
            split at e <;> omega
          exact ⟨hf1.1, plnB_pt h110 hf1.2.1, hf1.2.2.1, hf1.2.2.2.1, ihk h2 hf1.2.2.2.2⟩
theorem ptT_F {i : Int} {u : Tr} {d : Nat} {t t' : Tr} (h : ptT i u d t = some t') : Fr.pt i u d (.cons t.1 t.2 .nil) = some (.cons t'.1 t'.2 .nil) := Fr.pt_mk (t := t') h rfl
theorem ptT_co {i : Int} (hi : 0 ≤ i) {u t t' : Tr} {d : Nat} (hu : coT u = true) (h : ptT i u d t = some t') (hc : coT t = true) : coT t' = true := by
  rw [← coT_F] at hc ⊢
  exact Fr.pt_co hi hu (ptT_F h) hc

/-! ### redexes -/
def hdLam (k : Fr) : Bool := match k with
  | .cons y _ _ => y.k == 119
  | .nil => false
def rdxB (x : Nod) (k : Fr) : Bool := x.k == 120 && hdLam k
def fiF : Int → Fr → Option (List Int)
  | _, .nil => none
  | i, .cons x k r => if rdxB x k = true then some [i] else match fiF 0 k with
    | some p => some (i :: p)
    | none => fiF (i + 1) r
def fiT (t : Tr) : Option (List Int) := if rdxB t.1 t.2 = true then some [] else fiF 0 t.2
theorem fiF_cons (i : Int) (x : Nod) (k r : Fr) : fiF i (.cons x k r) = match fiT (x, k) with
    | some p => some (i :: p)
    | none => fiF (i + 1) r := by
  show (if rdxB x k = true then some [i] else match fiF 0 k with
    | some p => some (i :: p)
    | none => fiF (i + 1) r) = _
  unfold fiT
  by_cases h : rdxB x k = true
  · rw [if_pos h]
    show some [i] = match (if rdxB x k = true then some [] else fiF 0 k) with
      | some p => some (i :: p)
      | none => fiF (i + 1) r
    rw [if_pos h]
  · rw [if_neg h]
    show _ = match (if rdxB x k = true then some [] else fiF 0 k) with
      | some p => some (i :: p)
      | none => fiF (i + 1) r
    rw [if_neg h]
def betaO (t : Tr) : Option (Tr × Tr) := match t.2 with
  | .cons _ (.cons _ _ (.cons b bk _)) (.cons a ak _) => some ((b, bk), (a, ak))
  | _ => none
theorem beta_of {t : Tr} (hc : coT t = true) (hr : rdxB t.1 t.2 = true) : ∃ y l z zk b bk a ak, t.2 = .cons y (.cons z zk (.cons b bk .nil)) (.cons a ak .nil) ∧ coT (b, bk) = true ∧ coT (a, ak) = true ∧ l = y.k ∧ l = 119 := by
  obtain ⟨x, k⟩ := t
  unfold rdxB at hr
  simp only [Bool.and_eq_true, beq_iff_eq] at hr
  obtain ⟨h1, h2⟩ := hr
  unfold coT at hc
  simp only at hc
  rw [if_neg (by omega), Bool.and_eq_true, if_neg (by omega), if_pos (.inr h1), Bool.and_eq_true] at hc
  obtain ⟨_, h3, h4⟩ := hc
  obtain ⟨y, yk, a, ak, rfl⟩ := Fr.two (beq_iff_eq.1 h3)
  have hy2 : y.k = 119 := beq_iff_eq.1 h2
  clear h2
  rw [coF_0, coF_0, Bool.and_eq_true, Bool.and_eq_true] at h4
  obtain ⟨h5, h6, _⟩ := h4
  unfold coT at h5
  simp only at h5
  rw [if_neg (by omega), Bool.and_eq_true, if_neg (by omega), if_neg (by omega), if_neg (by omega), if_pos (by omega), Bool.and_eq_true] at h5
  obtain ⟨_, h7, h8⟩ := h5
  obtain ⟨z, zk, b, bk, rfl⟩ := Fr.two (beq_iff_eq.1 h7)
  rw [coF_1, coF_0, Bool.and_eq_true, Bool.and_eq_true] at h8
  exact ⟨y, y.k, z, zk, b, bk, a, ak, rfl, h8.2.1, h6, rfl, hy2⟩
end Go.Proofs.YtmiicfdigkkbdaaDoor
namespace Go.Proofs.YtmiicfdigkkbdaaDoor

def itS (k : Int) (f : Bool) (s nm tx : ByteArray) : ByteArray := (if f then s else s ++ (if k = 115 then ⟨#[32, 44]⟩ else ⟨#[32, 124]⟩)) ++ ⟨#[32]⟩ ++ nm ++ (if k = 115 then ⟨#[32, 61, 32]⟩ else ⟨#[32, 111, 102, 32]⟩) ++ tx
def rcR (k : Int) : Bool → ByteArray → List (ByteArray × ByteArray) → ByteArray
  | _, s, [] => s
  | f, s, (n, t) :: r => rcR k false (itS k f s n t) r
def twX (a b c : ByteArray) (ts : List (ByteArray × ByteArray)) : ByteArray := match ts with
  | (_, s) :: (_, t) :: _ => a ++ s ++ b ++ t ++ c
  | _ => ⟨#[]⟩
def ndX (x : Nod) (ts : List (ByteArray × ByteArray)) : ByteArray :=
  if x.k = 100 then ⟨#[42]⟩
  else if x.k = 101 ∨ x.k = 114 then twX ⟨#[40, 32]⟩ ⟨#[32, 45, 62, 32]⟩ ⟨#[32, 41]⟩ ts
  else if x.k = 110 then ⟨#[36]⟩ ++ B.T (B.numb x.n)
  else if x.k = 111 then ⟨#[105, 110, 116]⟩
  else if x.k = 112 then ⟨#[98, 111, 111, 108]⟩
  else if x.k = 113 then ⟨#[117, 110, 105, 116]⟩
  else if x.k = 117 then twX ⟨#[40, 32, 97, 108, 108, 32]⟩ ⟨#[32, 46, 32]⟩ ⟨#[32, 41]⟩ ts
  else if x.k = 118 then twX ⟨#[40, 32, 101, 120, 32]⟩ ⟨#[32, 46, 32]⟩ ⟨#[32, 41]⟩ ts
  else if x.k = 119 then twX ⟨#[40, 32, 102, 110, 32]⟩ ⟨#[32, 46, 32]⟩ ⟨#[32, 41]⟩ ts
  else if x.k = 120 then twX ⟨#[40, 32]⟩ ⟨#[32]⟩ ⟨#[32, 41]⟩ ts
  else if x.k = 121 then ⟨#[109, 117, 32]⟩ ++ rcR x.k true ⟨#[123]⟩ ts ++ ⟨#[32, 125]⟩
  else if x.k = 115 then rcR x.k true ⟨#[123]⟩ ts ++ ⟨#[32, 125]⟩
  else match ts with
    | (_, s) :: _ => s
    | [] => ⟨#[]⟩
def Fr.tx : Fr → List (ByteArray × ByteArray)
  | .nil => []
  | .cons x k r => (x.a, ndX x k.tx) :: r.tx
def txT (t : Tr) : ByteArray := ndX t.1 t.2.tx
def wtX : List (ByteArray × ByteArray) → Nat
  | [] => 0
  | (n, t) :: r => n.size + t.size + 10 + wtX r
theorem itS_sz (k : Int) (f : Bool) (s n t : ByteArray) : (itS k f s n t).size ≤ s.size + n.size + t.size + 10 := by
  unfold itS
  have h1 : (⟨#[32, 44]⟩ : ByteArray).size = 2 := rfl
  have h2 : (⟨#[32, 124]⟩ : ByteArray).size = 2 := rfl
  have h3 : (⟨#[32]⟩ : ByteArray).size = 1 := rfl
  have h4 : (⟨#[32, 61, 32]⟩ : ByteArray).size = 3 := rfl
  have h5 : (⟨#[32, 111, 102, 32]⟩ : ByteArray).size = 4 := rfl
  by_cases hk : k = 115
  · cases f
    · rw [if_pos hk, if_pos hk]; simp only [Bool.false_eq_true, if_false, ByteArray.size_append, h1, h3, h4]; omega
    · rw [if_pos hk, if_pos hk]; simp only [if_true, ByteArray.size_append, h3, h4]; omega
  · cases f
    · rw [if_neg hk, if_neg hk]; simp only [Bool.false_eq_true, if_false, ByteArray.size_append, h2, h3, h5]; omega
    · rw [if_neg hk, if_neg hk]; simp only [if_true, ByteArray.size_append, h3, h5]; omega
theorem rcR_sz (k : Int) (ts : List (ByteArray × ByteArray)) : ∀ f s, (rcR k f s ts).size ≤ s.size + wtX ts := by
  induction ts with
  | nil => intro f s; exact Nat.le_refl _
  | cons a r ih =>
    intro f s
    obtain ⟨n, t⟩ := a
    have h1 := ih false (itS k f s n t)
    have h2 := itS_sz k f s n t
    show (rcR k false (itS k f s n t) r).size ≤ s.size + (n.size + t.size + 10 + wtX r)
    omega
theorem twX_sz (a b c : ByteArray) (ts : List (ByteArray × ByteArray)) : (twX a b c ts).size ≤ a.size + b.size + c.size + wtX ts := by
  unfold twX
  split
  · rename_i n1 s n2 t r
    simp only [ByteArray.size_append, wtX]
    omega
  · exact Nat.zero_le _
theorem ndX_sz {x : Nod} {ts : List (ByteArray × ByteArray)} (h : x.k = 110 → 0 ≤ x.n ∧ x.n ≤ 65536) : (ndX x ts).size ≤ 40 + wtX ts := by
  unfold ndX
  by_cases c1 : x.k = 100
  · rw [if_pos c1]; show 1 ≤ _; omega
  rw [if_neg c1]
  by_cases c2 : x.k = 101 ∨ x.k = 114
  · rw [if_pos c2]; exact Nat.le_trans (twX_sz _ _ _ _) (by show 2 + 4 + 2 + wtX ts ≤ _; omega)
  rw [if_neg c2]
  by_cases c3 : x.k = 110
  · rw [if_pos c3]
    have h1 := h c3
    have h2 := B.numb_size x.n (by omega) (by omega)
    rw [ByteArray.size_append]
    show 1 + _ ≤ _
    omega
  rw [if_neg c3]
  by_cases c4 : x.k = 111
  · rw [if_pos c4]; show 3 ≤ _; omega
  rw [if_neg c4]
  by_cases c5 : x.k = 112
  · rw [if_pos c5]; show 4 ≤ _; omega
  rw [if_neg c5]
  by_cases c6 : x.k = 113
  · rw [if_pos c6]; show 4 ≤ _; omega
  rw [if_neg c6]
  by_cases c7 : x.k = 117
  · rw [if_pos c7]; exact Nat.le_trans (twX_sz _ _ _ _) (by show 6 + 3 + 2 + wtX ts ≤ _; omega)
  rw [if_neg c7]
  by_cases c8 : x.k = 118
  · rw [if_pos c8]; exact Nat.le_trans (twX_sz _ _ _ _) (by show 5 + 3 + 2 + wtX ts ≤ _; omega)
  rw [if_neg c8]
  by_cases c9 : x.k = 119
  · rw [if_pos c9]; exact Nat.le_trans (twX_sz _ _ _ _) (by show 5 + 3 + 2 + wtX ts ≤ _; omega)
  rw [if_neg c9]
  by_cases c10 : x.k = 120
  · rw [if_pos c10]; exact Nat.le_trans (twX_sz _ _ _ _) (by show 2 + 1 + 2 + wtX ts ≤ _; omega)
  rw [if_neg c10]
  have h2 : (⟨#[123]⟩ : ByteArray).size = 1 := rfl
  have h3 : (⟨#[109, 117, 32]⟩ : ByteArray).size = 3 := rfl
  have h4 : (⟨#[32, 125]⟩ : ByteArray).size = 2 := rfl
  have h5 := rcR_sz x.k ts true ⟨#[123]⟩
  by_cases c11 : x.k = 121
  · rw [if_pos c11, ByteArray.size_append, ByteArray.size_append, h3, h4]; omega
  rw [if_neg c11]
  by_cases c12 : x.k = 115
  · rw [if_pos c12, ByteArray.size_append, h4]; omega
  rw [if_neg c12]
  cases ts with
  | nil => exact Nat.zero_le _
  | cons a r =>
    obtain ⟨n, s⟩ := a
    show s.size ≤ 40 + (n.size + s.size + 10 + wtX r)
    omega
def Fr.nmo : Fr → Prop
  | .nil => True
  | .cons x k r => x.a.size ≤ 160 ∧ (x.k = 110 → 0 ≤ x.n ∧ x.n ≤ 65536) ∧ k.nmo ∧ r.nmo
theorem Fr.tx_sz {f : Fr} (h : f.nmo) : wtX f.tx ≤ 210 * f.sz := by
  induction f with
  | nil => exact Nat.le_refl _
  | cons x k r ihk ihr =>
    obtain ⟨h1, h2, h3, h4⟩ := h
    have h5 := ihk h3
    have h6 := ihr h4
    have h7 := ndX_sz (ts := k.tx) h2
    show x.a.size + (ndX x k.tx).size + 10 + wtX r.tx ≤ 210 * (1 + k.sz + r.sz)
    omega
theorem txT_sz {t : Tr} (h1 : t.1.k = 110 → 0 ≤ t.1.n ∧ t.1.n ≤ 65536) (h2 : t.2.nmo) : (txT t).size ≤ 210 * szT t := by
  have h3 := Fr.tx_sz h2
  have h4 := ndX_sz (x := t.1) (ts := t.2.tx) h1
  unfold txT szT
  omega
theorem emq_sz {s : ByteArray} (h : emq s = true) : s.size ≤ 160 := by rw [emq_eq h]; exact Nat.zero_le _
theorem kd_nmo {f : Fr} (h : kdF f = true) : f.nmo := by
  induction f with
  | nil => trivial
  | cons x k r ihk ihr =>
    rw [kdF_cons, Bool.and_eq_true] at h
    obtain ⟨h1, h2⟩ := h
    unfold kdT at h1
    rw [Bool.and_eq_true] at h1
    obtain ⟨h3, h4⟩ := h1
    have hp := plnB_ok h3
    refine ⟨by have h := hp.2.2 rfl; simp only at h; rw [h]; exact Nat.zero_le _, fun h => ?_, ?_, ihr h2⟩
    · exfalso
      have h : x.k = 110 := h
      rw [show (x, k).1.k = 110 from h, if_neg (by decide)] at h4
      cases h4
    · split at h4
      · rw [show k = .nil from Fr.len0 (beq_iff_eq.1 h4)]; trivial
      · simp only [Bool.and_eq_true] at h4
        exact ihk h4.2.2
theorem co_nmo {f : Fr} : ∀ {m : Nat}, coF m f = true → f.nmo := by
  induction f with
  | nil => intro m _; trivial
  | cons x k r ihk ihr =>
    intro m h
    have hv := (co_vok h).1.2
    unfold coF at h
    rw [Bool.and_eq_true] at h
    obtain ⟨h1, h2⟩ := h
    refine ⟨?_, fun h => ⟨(hv h).1, (hv h).2.1⟩, ?_, ihr h2⟩
    · split at h1
      · split at h1
        · simp only [Bool.and_eq_true] at h1
          exact emq_sz h1.2.1
        · rw [Bool.and_eq_true] at h1
          have := (plnB_ok h1.1).2.2 rfl
          rw [this]; exact Nat.zero_le _
      · split at h1
        · have := kd_nmo (f := .cons x k .nil) (by rw [kdF_cons, h1]; rfl)
          exact this.1
        · simp only [Bool.and_eq_true] at h1
          have := h1.2.2.1
          unfold labB at this
          simp only [Bool.and_eq_true, decide_eq_true_eq] at this
          exact this.2
    · split at h1
      · split at h1
        · simp only [Bool.and_eq_true, decide_eq_true_eq, beq_iff_eq] at h1
          rw [Fr.len0 h1.2.2.2.2]; trivial
        · rw [Bool.and_eq_true] at h1
          replace h1 := h1.2
          repeat' split at h1
          · rw [Fr.len0 (beq_iff_eq.1 h1)]; trivial
          · rw [Bool.and_eq_true] at h1; exact ihk h1.2
          · rw [Bool.and_eq_true] at h1; exact ihk h1.2
          · rw [Bool.and_eq_true] at h1; exact ihk h1.2
          · simp only [Bool.and_eq_true] at h1; exact ihk h1.2.2
          · cases h1
      · split at h1
        · have := kd_nmo (f := .cons x k .nil) (by rw [kdF_cons, h1]; rfl)
          exact this.2.2.1
        · simp only [Bool.and_eq_true] at h1
          exact ihk h1.2.2.2.2
end Go.Proofs.YtmiicfdigkkbdaaDoor
namespace Go.Proofs.YtmiicfdigkkbdaaDoor
open Go.RowKit

def okX (t : Tr) : Prop := coT t = true ∨ kdT t = true
def FdR : Fr → Prop
  | .nil => True
  | .cons x k r => (∃ y l, k = .cons y l .nil ∧ okX (y, l) ∧ txT (x, k) = txT (y, l)) ∧ x.a.size ≤ 160 ∧ FdR r
theorem FdR.app {a b : Fr} (h : FdR (a.app b)) : FdR a ∧ FdR b := by
  induction a with
  | nil => exact ⟨trivial, h⟩
  | cons x k r _ ih => exact ⟨⟨h.1, h.2.1, (ih h.2.2).1⟩, (ih h.2.2).2⟩
end Go.Proofs.YtmiicfdigkkbdaaDoor
namespace Go.Proofs.YtmiicfdigkkbdaaDoor
open Go.RowKit

def swR (o : Option Tr) : ByteArray := match o with
  | none => ⟨#[]⟩
  | some t => if ckE (some t) = 0 ∨ kkE (some t) = 0 then txT t else ⟨#[]⟩
theorem kkE_ok {o : Option Tr} (h : kkE o = 0) : ∃ t, o = some t ∧ szT t ≤ 65536 ∧ kdT t = true := by
  cases o with
  | none => exact absurd h (by decide)
  | some t =>
    unfold kkE at h
    simp only at h
    split at h
    · rename_i h1
      split at h
      · rename_i h2; exact ⟨t, rfl, h1, h2⟩
      · exact absurd h (by decide)
    · exact absurd h (by decide)
end Go.Proofs.YtmiicfdigkkbdaaDoor
