/-
  Layer 6, the program's Key, Name, Long, of any tokens at any place; then Type and Cons.
-/
import Derived.Test.YthonaeigacfmbaaGreatDoorGq06
import Derived.Test.YthonaeigacfmbaaGreatDoorGq37
import Derived.Deep.Fields
import Derived.Deep.Slices
namespace Go.Proofs.YthonaeigacfmbaaGreatDoor
open Go.RowKit

def ber (k : Int) (l : List Tk) (i : Nat) : Option ByteArray := match l[i]? with
  | some t => if t.k = k then some t.s else none
  | none => none
def berZ (k : Int) (l : List Tk) (i : Int) : Option ByteArray := if 0 ≤ i then ber k l i.toNat else none
theorem ber_sz {k : Int} {l : List Tk} {i : Nat} {s : ByteArray} (hz : ∀ t ∈ l, t.s.size ≤ 1000000000) (h : ber k l i = some s) : s.size ≤ 1000000000 := by
  unfold ber at h
  split at h
  · rename_i t ht
    split at h
    · rw [← Option.some.inj h]; exact hz t (List.mem_of_getElem? ht)
    · cases h
  · cases h
theorem nam_ber (p : ByteArray → Bool) (l : List Tk) (i : Int) : namZ p l i = (match berZ 1 l i with
    | some s => if p s then some s else none
    | none => none) := by
  unfold namZ berZ ber nam
  by_cases h : 0 ≤ i
  · rw [if_pos h, if_pos h]
    cases l[i.toNat]? with
    | none => rfl
    | some t =>
      simp only
      by_cases h3 : t.k = 1
      · rw [decide_eq_true h3, if_pos h3, Bool.true_and]
      · rw [decide_eq_false h3, if_neg h3, Bool.false_and]; rfl
  · rw [if_neg h, if_neg h]
set_option maxHeartbeats 6400000 in
set_option maxRecDepth 100000 in
theorem key_any (l : List Tk) (i : Int) (x : ByteArray) (w : World) (v : Value) (hv : Tkm w v l) :
    Calls Tryz.prog 58 #[v, .int .i64 i, .string x] w (BoU (keyZ l i x) w) := by
  obtain ⟨A, c, rfl, hc⟩ := hv
  obtain ⟨n, hn⟩ : ∃ n, l.length = n := ⟨_, rfl⟩
  rw [hn]
  by_cases h0 : 0 ≤ i
  · obtain ⟨k, rfl⟩ := Int.eq_ofNat_of_zero_le h0
    by_cases hk : k < n
    · obtain ⟨t, ht⟩ : ∃ t, l[k]? = some t := ⟨_, List.getElem?_eq_getElem (by rw [hn]; exact hk)⟩
      obtain ⟨b, o, rfl, hb, c0, c1⟩ := hc k t ht
      have hki : (k : Int) < (n : Int) := by omega
      have HE : Hid (keyZ l (k : Int) x = (decide (t.k = 3) && decide (t.s = x))) := Lib.hid (by unfold keyZ; rw [decide_eq_true h0, Int.toNat_natCast]; unfold key; rw [ht]; rfl)
      rw [HE.out]
      clear hc ht hn HE
      by_cases h3 : t.k = 3
      · rw [decide_eq_true h3, Bool.true_and]
        go_enter Tryz.func58, Tryz.ntmps58
        go_wp2_with fail
        go_ret
        exact bou_ret (str_eq _ _).symm (Up.refl _)
      · rw [decide_eq_false h3, Bool.false_and]
        go_enter Tryz.func58, Tryz.ntmps58
        go_wp2_with fail
        go_ret
        exact bou_ret rfl (Up.refl _)
    · have hki : ¬ (k : Int) < (n : Int) := by omega
      have HE : Hid (keyZ l (k : Int) x = false) := Lib.hid (by unfold keyZ; rw [Int.toNat_natCast, key_end (by omega), Bool.and_false])
      rw [HE.out]
      go_enter Tryz.func58, Tryz.ntmps58
      go_wp2_with fail
      go_ret
      exact bou_ret rfl (Up.refl _)
  · have HE : Hid (keyZ l i x = false) := Lib.hid (by unfold keyZ; rw [decide_eq_false h0, Bool.false_and])
    rw [HE.out]
    go_enter Tryz.func58, Tryz.ntmps58
    go_wp2_with fail
    go_ret
    exact bou_ret rfl (Up.refl _)
set_option maxHeartbeats 6400000 in
set_option maxRecDepth 100000 in
theorem plong_any (l : List Tk) (i : Int) (w : World) (v : Value) (hv : Tkm w v l) (hz : ∀ t ∈ l, t.s.size ≤ 1000000000) (hx : B.Nx w) :
    Calls Tryz.prog 22 #[v, .int .i64 i] w (NaP (namZ B.long l i) w) := by
  obtain ⟨A, c, rfl, hc⟩ := hv
  obtain ⟨n, hn⟩ : ∃ n, l.length = n := ⟨_, rfl⟩
  rw [hn]
  by_cases h0 : 0 ≤ i
  · obtain ⟨k, rfl⟩ := Int.eq_ofNat_of_zero_le h0
    have h0' : ¬ (k : Int) < 0 := by omega
    by_cases hk : k < n
    · obtain ⟨t, ht⟩ : ∃ t, l[k]? = some t := ⟨_, List.getElem?_eq_getElem (by rw [hn]; exact hk)⟩
      obtain ⟨b, o, rfl, hb, c0, c1⟩ := hc k t ht
      have hs : t.s.size ≤ 1000000000 := hz t (List.mem_of_getElem? ht)
      have hki : ¬ (n : Int) ≤ (k : Int) := by omega
      have HE : Hid (namZ B.long l (k : Int) = if decide (t.k = 1) && B.long t.s then some t.s else none) := Lib.hid (by unfold namZ; rw [if_pos h0, Int.toNat_natCast]; unfold nam; rw [ht])
      rw [HE.out]
      have HX := Lib.hid hx
      clear hc ht hn HE hz hx
      by_cases h3 : t.k = 1
      · have cC := fun (W : World) (u : Up w W) => B.long_any t.s W hs (Nx.up HX.out u)
        have c0u : ∀ u : Upw w, u.w.cell? ⟨b, o + k * 4, none⟩ = some (.int .i64 t.k) := Upw.cell c0
        have c1u : ∀ u : Upw w, u.w.cell? ⟨b, o + k * 4 + 1, none⟩ = some (.string t.s) := Upw.cell c1
        obtain ⟨p, hp⟩ : ∃ p, B.long t.s = p := ⟨_, rfl⟩
        rw [hp] at cC
        have HE2 : Hid ((if decide (t.k = 1) && B.long t.s then some t.s else none : Option ByteArray) = if p then some t.s else none) := Lib.hid (by rw [hp, decide_eq_true h3, Bool.true_and])
        rw [HE2.out]
        clear hp HE2
        rw [h3] at c0 c0u
        cases p
        · go_enter Tryz.func22, Tryz.ntmps22
          go_wp2_with fail
          refine (cC w (Up.refl w)).mono ?_
          rintro e w2 ⟨rfl, u2⟩
          go_wp2_with fail
          go_ret2
          exact ⟨rfl, u2⟩
        · go_enter Tryz.func22, Tryz.ntmps22
          go_wp2_with fail
          refine (cC w (Up.refl w)).mono ?_
          rintro e w2 ⟨rfl, u2⟩
          have c9 := (show Up w w2 from u2).cell c1
          go_wp2_with fail
          go_ret2
          exact ⟨rfl, u2⟩
      · rw [decide_eq_false h3, Bool.false_and]
        go_enter Tryz.func22, Tryz.ntmps22
        go_wp2_with fail
        go_ret2
        exact ⟨rfl, Up.refl _⟩
    · have hki : (n : Int) ≤ (k : Int) := by omega
      have HE : Hid (namZ B.long l (k : Int) = none) := Lib.hid (by unfold namZ; rw [if_pos h0, Int.toNat_natCast]; unfold nam; rw [List.getElem?_eq_none (by omega)])
      rw [HE.out]
      go_enter Tryz.func22, Tryz.ntmps22
      go_wp2_with fail
      go_ret2
      exact ⟨rfl, Up.refl _⟩
  · have HE : Hid (namZ B.long l i = none) := Lib.hid (by unfold namZ; rw [if_neg h0])
    have h0' : i < 0 := by omega
    rw [HE.out]
    go_enter Tryz.func22, Tryz.ntmps22
    go_wp2_with fail
    go_ret2
    exact ⟨rfl, Up.refl _⟩
/-! ### a name is a long one without a dot -/
theorem index_dot (l : List UInt8) : (0 ≤ Lib.index l [46]) ↔ (46 : UInt8) ∈ l := by
  induction l with
  | nil =>
    have e : Lib.index [] [46] = -1 := rfl
    rw [e]
    constructor
    · intro h; omega
    · intro h; cases h
  | cons b r ih =>
    have hge := Lib.index_ge r [46]
    by_cases hb : (46 : UInt8) = b
    · subst hb
      have e : Lib.index (46 :: r) [46] = 0 := rfl
      rw [e]
      exact ⟨fun _ => List.mem_cons_self, fun _ => Int.le_refl 0⟩
    · have hp : ([46] : List UInt8).isPrefixOf (b :: r) = false := by
        show ((46 : UInt8) == b && ([] : List UInt8).isPrefixOf r) = false
        rw [beq_eq_false_iff_ne.2 hb, Bool.false_and]
      have e : Lib.index (b :: r) [46] = (if Lib.index r [46] == -1 then -1 else Lib.index r [46] + 1) := by
        show (if ([46] : List UInt8).isPrefixOf (b :: r) then 0 else _) = _
        rw [hp]; rfl
      rw [e]
      have hm : (46 : UInt8) ∈ b :: r ↔ (46 : UInt8) ∈ r := by
        rw [List.mem_cons]
        exact ⟨fun h => h.resolve_left hb, Or.inr⟩
      rw [hm, ← ih]
      by_cases h1 : Lib.index r [46] = -1
      · rw [h1]
        simp
      · rw [if_neg (by simpa using h1)]
        omega
theorem cont_dot (s : ByteArray) : Lib.contains s.data.toList (⟨#[46]⟩ : ByteArray).data.toList = decide ((46 : UInt8) ∈ s.data.toList) := by
  unfold Lib.contains
  exact decide_eq_decide.2 (index_dot _)
theorem nck_isLong (s : ByteArray) : B.nck s = (B.long s && !decide ((46 : UInt8) ∈ s.data.toList)) := by
  by_cases hd : (46 : UInt8) ∈ s.data.toList
  · rw [decide_eq_true hd, Bool.not_true, Bool.and_false]
    cases hn : B.nck s with
    | false => rfl
    | true => exact absurd hd (B.nck_dot hn)
  · have hp : B.pc s = [s] := by
      unfold B.pc
      rw [B.pcl_none hd]
      show [B.tx s.data.toList] = [s]
      rw [B.tx_of]
    rw [decide_eq_false hd, Bool.not_false, Bool.and_true]
    cases hn : B.nck s with
    | true =>
      refine (B.long_is.2 ⟨?_, ?_⟩).symm
      · have := (B.nck_size hn).2; omega
      · rw [hp]; simp [hn]
    | false =>
      cases hl : B.long s with
      | false => rfl
      | true =>
        have := (B.long_is.1 hl).2
        rw [hp] at this
        simp [hn] at this
theorem nam_long (l : List Tk) (i : Int) : namZ B.nck l i = (match namZ B.long l i with
    | some s => if decide ((46 : UInt8) ∈ s.data.toList) then none else some s
    | none => none) := by
  rw [nam_ber, nam_ber]
  cases berZ 1 l i with
  | none => rfl
  | some s =>
    simp only
    rw [nck_isLong]
    cases B.long s with
    | false => rfl
    | true =>
      rw [Bool.true_and]
      show (if (!decide ((46 : UInt8) ∈ s.data.toList)) = true then some s else none) = (if decide ((46 : UInt8) ∈ s.data.toList) = true then none else some s)
      cases decide ((46 : UInt8) ∈ s.data.toList) <;> rfl
set_option maxHeartbeats 3200000 in
set_option maxRecDepth 100000 in
theorem pname_any (l : List Tk) (i : Int) (w : World) (v : Value) (hv : Tkm w v l) (hz : ∀ t ∈ l, t.s.size ≤ 1000000000) (hx : B.Nx w) :
    Calls Tryz.prog 20 #[v, .int .i64 i] w (NaP (namZ B.nck l i) w) := by
  have cL := plong_any l i w v hv hz hx
  have HE := Lib.hid (nam_long l i)
  have hsz : ∀ s, namZ B.long l i = some s → s.size ≤ 1000000000 := fun s h => by
    rw [nam_ber] at h
    unfold berZ at h
    split at h
    · rename_i t ht
      split at ht
      · split at h
        · rw [← Option.some.inj h]; exact ber_sz hz ht
        · cases h
      · cases ht
    · cases h
  rw [HE.out]
  have HX := Lib.hid hx
  have cC := fun (s : ByteArray) (hs : s.size ≤ 1000000000) (W : World) (u : Up w W) => (show Calls Tryz.prog 54 #[.string s, .string ⟨#[46]⟩] W (fun e w' => e = .returned (.bool (decide ((46 : UInt8) ∈ s.data.toList))) ∧ w' = W) from by
    obtain ⟨m, hm⟩ := (Nx.up HX.out u).2
    rw [← cont_dot]
    exact Tryz.strings_Contains s ⟨#[46]⟩ m W (by omega) hm)
  clear hv HE hz hx HX
  cases hb : namZ B.long l i with
  | none =>
    rw [hb] at cL
    have cN := cC ⟨#[]⟩ (by decide)
    clear hb hsz cC
    go_enter Tryz.func20, Tryz.ntmps20
    go_wp2_with fail
    refine cL.mono ?_
    rintro e w1 ⟨rfl, u1⟩
    go_wp2_with fail
    refine (cN w1 u1).mono ?_
    rintro e w2 ⟨rfl, rfl⟩
    go_wp2_with fail
    go_ret2
    exact ⟨rfl, u1⟩
  | some s =>
    have cN := cC s (hsz s hb)
    rw [hb] at cL
    obtain ⟨p, hp⟩ : ∃ p, decide ((46 : UInt8) ∈ s.data.toList) = p := ⟨_, rfl⟩
    rw [hp] at cN
    simp only [hp]
    clear hb hsz hp cC
    cases p
    · go_enter Tryz.func20, Tryz.ntmps20
      go_wp2_with fail
      refine cL.mono ?_
      rintro e w1 ⟨rfl, u1⟩
      go_wp2_with fail
      refine (cN w1 u1).mono ?_
      rintro e w2 ⟨rfl, rfl⟩
      go_wp2_with fail
      go_ret2
      exact ⟨rfl, u1⟩
    · go_enter Tryz.func20, Tryz.ntmps20
      go_wp2_with fail
      refine cL.mono ?_
      rintro e w1 ⟨rfl, u1⟩
      go_wp2_with fail
      refine (cN w1 u1).mono ?_
      rintro e w2 ⟨rfl, rfl⟩
      go_wp2_with fail
      go_ret2
      exact ⟨rfl, u1⟩
theorem toks_of {W0 : World} {v : Value} {l : List Tk} (hv : Tkm W0 v l) (hz : ∀ t ∈ l, t.s.size ≤ 1000000000) (hx : B.Nx W0) : Toks B.nck B.long W0 v l := ⟨fun i x w u => by
    have h := key_any l (i : Int) x w v (hv.up u)
    have e : keyZ l (i : Int) x = key l i x := by unfold keyZ; rw [decide_eq_true (by omega), Int.toNat_natCast, Bool.true_and]
    rw [e] at h
    exact h, fun i w u => by
    have h := pname_any l (i : Int) w v (hv.up u) hz (Nx.up hx u)
    have e : namZ B.nck l (i : Int) = nam B.nck l i := by unfold namZ; rw [if_pos (by omega), Int.toNat_natCast]
    rw [e] at h
    exact h, fun i w u => by
    have h := plong_any l (i : Int) w v (hv.up u) hz (Nx.up hx u)
    have e : namZ B.long l (i : Int) = nam B.long l i := by unfold namZ; rw [if_pos (by omega), Int.toNat_natCast]
    rw [e] at h
    exact h⟩
end Go.Proofs.YthonaeigacfmbaaGreatDoor
namespace Go.Proofs.YthonaeigacfmbaaGreatDoor
open Go.RowKit

set_option maxHeartbeats 1600000 in
set_option maxRecDepth 100000 in
theorem tyLit (b : Nat) (P : Option Addr → World → Prop) (w : World) (cA : Calls Tryz.prog 48 #[.agg #[.pointer (some ⟨b, 0, none⟩)]] w fun e w' => ∃ A, e = .returned (.pointer A) ∧ P A w') :
    Calls Tryz.prog 47 #[.pointer (some ⟨b, 0, none⟩)] w fun e w' => ∃ A, e = .returned (.pointer A) ∧ P A w' := by
  go_enter Tryz.func47, Tryz.ntmps47
  go_wp2_with fail
  refine cA.mono ?_
  rintro en w1 ⟨A, rfl, h⟩
  have H := Lib.hid h
  clear h
  go_wp2_with fail
  go_ret
  exact ⟨A, rfl, H.out⟩
def parW (w : World) (v : Value) (i : Nat) : World := w.alloc (.cells #[v, .int .i64 (i : Int), .int .i64 0] 114)
theorem parW_up (w : World) (v : Value) (i : Nat) : Up w (parW w v i) := (Up.refl w).alloc _
theorem parW_psr (w : World) (v : Value) (i : Nat) : Psr (parW w v i) w.heap.size v i 0 := heap_alloc_new w _
set_option maxHeartbeats 6400000 in
set_option maxRecDepth 100000 in
theorem parsed_argT (A : Option Addr) (n c : Nat) (i : Int) (F : Value) (w : World) (h : i < 0 ∨ (n : Int) < i) :
    Calls Tryz.prog 46 #[.slice A n c, .int .i64 i, F] w fun e w' => e = .returned (.tuple #[.pointer none, .int .i64 0, .int .i64 2]) ∧ Up w w' := by
  by_cases h0 : i < 0
  · go_enter Tryz.func46, Tryz.ntmps46
    go_wp2_with fail
    go_ret3
    exact ⟨rfl, Up.refl _⟩
  · have h1 : (n : Int) < i := by omega
    clear h
    go_enter Tryz.func46, Tryz.ntmps46
    go_wp2_with fail
    go_ret3
    exact ⟨rfl, Up.refl _⟩
set_option maxHeartbeats 6400000 in
set_option maxRecDepth 100000 in
theorem parsed_badT (A : Option Addr) (n c : Nat) (i p : Nat) (r : Int) (k : FuncId) (hE : EntF k) (w : World) (hi : i ≤ n) (hr : ¬ r = 0)
    (cR : Calls Tryz.prog k #[.pointer (some ⟨w.heap.size, 0, none⟩)] (parW w (.slice A n c) i) fun e w' => (∃ u, e = .returned u) ∧ Up w w' ∧ Psr w' w.heap.size (.slice A n c) p r) :
    Calls Tryz.prog 46 #[.slice A n c, .int .i64 (i : Int), .func (.func k) #[] #[]] w fun e w' => e = .returned (.tuple #[.pointer none, .int .i64 (p : Int), .int .i64 r]) ∧ Up w w' := by
  have h0 : ¬ (i : Int) < 0 := by omega
  have h1 : ¬ (n : Int) < (i : Int) := by omega
  have HE := Lib.hid hE
  have HW : Hid (parW w (.slice A n c) i = w.alloc (.cells #[.slice A n c, .int .i64 (i : Int), .int .i64 0] 114)) := Lib.hid rfl
  have HC := Lib.hid cR
  clear cR hE
  go_enter Tryz.func46, Tryz.ntmps46
  go_wp2_with fail
  rw [HE.out, Oper.upon_enter]
  refine Calls.mono HC.out ?_
  rintro en w1 ⟨⟨u, rfl⟩, u1, h⟩
  obtain ⟨c0, c1, c2, f1, f2⟩ := h.cells
  have U1 := Lib.hid u1
  clear u1 h HC
  go_wp2_with fail
  go_quiet (fail)
  go_wp2_with fail
  go_ret3
  exact ⟨rfl, U1.out.drewN _⟩
set_option maxHeartbeats 6400000 in
set_option maxRecDepth 100000 in
theorem parsed_okT (A : Option Addr) (n c : Nat) (i j : Nat) (k : FuncId) (hE : EntF k) (P : Value → World → Prop) (w : World) (hi : i ≤ n)
    (cR : Calls Tryz.prog k #[.pointer (some ⟨w.heap.size, 0, none⟩)] (parW w (.slice A n c) i) fun e w' => (∃ u, e = .returned u ∧ P u w') ∧ Up w w' ∧ Psr w' w.heap.size (.slice A n c) j 0)
    (hP : ∀ u w' q, P u w' → P u (w'.drewN q)) :
    Calls Tryz.prog 46 #[.slice A n c, .int .i64 (i : Int), .func (.func k) #[] #[]] w fun e w' => ∃ u, e = .returned (.tuple #[u, .int .i64 (j : Int), .int .i64 0]) ∧ P u w' ∧ Up w w' := by
  have h0 : ¬ (i : Int) < 0 := by omega
  have h1 : ¬ (n : Int) < (i : Int) := by omega
  have HE := Lib.hid hE
  have HPD := Lib.hid hP
  have HC := Lib.hid cR
  clear cR hE hP
  go_enter Tryz.func46, Tryz.ntmps46
  go_wp2_with fail
  rw [HE.out, Oper.upon_enter]
  refine Calls.mono HC.out ?_
  rintro en w1 ⟨⟨u, rfl, hu⟩, u1, h⟩
  obtain ⟨c0, c1, c2, f1, f2⟩ := h.cells
  have U1 := Lib.hid u1
  have HU := Lib.hid hu
  clear u1 h HC hu
  go_wp2_with fail
  go_quiet (fail)
  go_wp2_with fail
  go_ret3
  exact ⟨_, rfl, HPD.out _ _ _ HU.out, U1.out.drewN _⟩
end Go.Proofs.YthonaeigacfmbaaGreatDoor
namespace Go.Proofs.YthonaeigacfmbaaGreatDoor
open Go.RowKit

theorem NewT.drewN {W w : World} {v : Value} {t : Tr} (h : NewT W w v t) (q : Nat) : NewT W (w.drewN q) v t := InT.keep h (fun _ h => h) fun _ _ => rfl
set_option maxHeartbeats 1600000 in
set_option maxRecDepth 100000 in
theorem type_walk (v : Value) (i : Int) (P : Value → Int → Int → World → Prop) (w : World) (cP : Calls Tryz.prog 46 #[v, .int .i64 i, .func (.func 47) #[] #[]] w fun e w' => ∃ u j r, e = .returned (.tuple #[u, .int .i64 j, .int .i64 r]) ∧ P u j r w') :
    Calls Tryz.prog 16 #[v, .int .i64 i] w fun e w' => ∃ u j r, e = .returned (.tuple #[u, .int .i64 j, .int .i64 r]) ∧ P u j r w' := by
  go_enter Tryz.func16, Tryz.ntmps16
  go_wp2_with fail
  refine cP.mono ?_
  rintro en w1 ⟨u, j, r, rfl, h⟩
  have H := Lib.hid h
  clear h
  go_wp2_with fail
  go_ret3
  exact ⟨u, j, r, rfl, H.out⟩
theorem pType (l : List Tk) (i : Int) (hl : l.length ≤ 100000) (hz : ∀ t ∈ l, t.s.size ≤ 1000000000) (w : World) (v : Value) (hv : Tkm w v l) (hx : B.Nx w) (hp : Pl w) :
    Calls Tryz.prog 16 #[v, .int .i64 i] w (RtPost (typZ B.nck B.long l i) w) := by
  have hv0 := hv
  obtain ⟨A, c, rfl, -⟩ := hv
  have key : Calls Tryz.prog 16 #[.slice A l.length c, .int .i64 i] w fun e w' => ∃ u j r, e = .returned (.tuple #[u, .int .i64 j, .int .i64 r]) ∧ RtV (typZ B.nck B.long l i) w w' u j r ∧ Up w w' := by
    refine type_walk _ i (fun u j r w' => RtV (typZ B.nck B.long l i) w w' u j r ∧ Up w w') w ?_
    by_cases h : i < 0 ∨ (l.length : Int) < i
    · unfold typZ
      rw [if_pos h]
      exact (parsed_argT A l.length c i _ w h).mono fun e w' ⟨h1, h2⟩ => ⟨_, _, _, h1, ⟨rfl, rfl, rfl⟩, h2⟩
    · have he : typZ B.nck B.long l i = typL B.nck B.long l i.toNat := if_neg h
      rw [he]
      obtain ⟨k, rfl⟩ := Int.eq_ofNat_of_zero_le (by omega : 0 ≤ i)
      have hk : k ≤ l.length := by omega
      rw [Int.toNat_natCast]
      have Q : Prs B.nck B.long w (.slice A l.length c) l w.heap.size := ⟨toks_of hv0 hz hx, hp, Nat.le_refl _, hl, hz⟩
      have up := parW_up w (.slice A l.length c) k
      have cA := (all_good Q _ k (Nat.le_refl _) hk).1 _ up (parW_psr w _ k)
      have hle := typL_le (nk := B.nck) (lg := B.long) l k hk
      have gu : ∀ w', Gs (On w.heap.size) (parW w (.slice A l.length c) k) w' → Up w w' := fun w' g => g.up up fun q hq => by rw [hq]; exact Nat.le_refl _
      cases hT : typL B.nck B.long l k with
      | inr e =>
        obtain ⟨p, r⟩ := e
        rw [hT] at cA hle
        have hr : ¬ r = 0 := hle.2 p r rfl
        refine (parsed_badT A l.length c k p r 47 (fun _ _ => by kernel_rfl) w hk hr ?_).mono fun e w' ⟨h1, h2⟩ => ⟨_, _, _, h1, ⟨rfl, rfl, rfl⟩, h2⟩
        refine (tyLit w.heap.size (fun _ w' => Up w w' ∧ Psr w' w.heap.size (.slice A l.length c) p r) _ (cA.mono fun e w' ⟨B, h1, g, h2⟩ => ⟨B, h1, gu w' g, h2⟩)).mono fun e w' ⟨B, h1, h2, h3⟩ => ⟨⟨_, h1⟩, h2, h3⟩
      | inl e =>
        obtain ⟨t, j⟩ := e
        rw [hT] at cA
        refine (parsed_okT A l.length c k j 47 (fun _ _ => by kernel_rfl) (fun u w' => NewT w w' u t) w hk ?_ (fun u w' q h => h.drewN q)).mono fun e w' ⟨u, h1, h2, h3⟩ => ⟨_, _, _, h1, ⟨h2, rfl, rfl⟩, h3⟩
        refine (tyLit w.heap.size (fun B w' => NewT w w' (.pointer B) t ∧ Up w w' ∧ Psr w' w.heap.size (.slice A l.length c) j 0) _ (cA.mono fun e w' ⟨B, h1, g, h2, h3, _⟩ => ⟨B, h1, h2.base up.size, gu w' g, h3⟩)).mono fun e w' ⟨B, h1, h2, h3, h4⟩ => ⟨⟨_, h1, h2⟩, h3, h4⟩
  exact key.mono fun e w' ⟨u, j, r, h1, h2, h3⟩ => ⟨u, j, r, h1, h2, h3⟩
end Go.Proofs.YthonaeigacfmbaaGreatDoor
namespace Go.Proofs.YthonaeigacfmbaaGreatDoor
open Go.ChangeShapes Go.WideShapes Go.Deep Go.RowKit

theorem plain_of {w : World} {a : Addr} {v : Value} (h : w.cell? (a.add 0) = some v) : ∃ b o, a = ⟨b, o, none⟩ ∧ b < w.heap.size := by
  have hb := cell_lt h
  rw [addBlock] at hb
  obtain ⟨b, o, s⟩ := a
  cases s with
  | none => exact ⟨b, o, rfl, hb⟩
  | some s =>
    exfalso
    unfold Addr.add World.cell? at h
    split at h
    · simp at h
    · cases h
theorem open_nums {H : Type} {enc : TypeId × Value → H} {w : World} {base fuel : Nat} {spare : Nat → Bool} {held : Bool} {v : Value} {x : DataW H × List MemPlace}
    (h : DataW.trod enc Tryz.prog w base spare held fuel 87 [v] = some x) : ∃ l : List Int, Sp w w.heap.size v l ∧ l.length ≤ maxLen := by
  rcases open_slice1 Tryz.underlying87 (by kernel_rfl) h with ⟨h1, _⟩ | ⟨a, len, cap, m, n, V, D, Pl, h1, _, hl, hcm, hmm, _, hi⟩
  · injection h1 with h1
    rw [h1]
    exact ⟨[], ⟨none, 0, rfl, Nat.le_refl _, fun j u hu => by simp at hu⟩, Nat.zero_le _⟩
  · injection h1 with h1
    rw [h1]
    have hlm : len ≤ m := by rw [hmm]; split <;> omega
    have key : ∀ i, i < len → ∃ k : Int, w.cell? (a.add i) = some (.int .i64 k) := by
      intro i h
      obtain ⟨h2, h3⟩ := hi i (by omega)
      obtain ⟨k, e, _⟩ := DataW.trod_int Tryz.underlying3 h3
      injection e with e
      exact ⟨k, by rw [h2, e]⟩
    let f : Nat → Int := fun i => if h : i < len then Classical.choose (key i h) else 0
    have hf : ∀ i, i < len → w.cell? (a.add i) = some (.int .i64 (f i)) := by
      intro i h
      have := Classical.choose_spec (key i h)
      show w.cell? _ = some (.int .i64 (dite _ _ _))
      rw [dif_pos h]
      exact this
    refine ⟨(List.range len).map f, ⟨some a, cap, by rw [List.length_map, List.length_range], by rw [List.length_map, List.length_range]; exact hl, fun j u hu => ?_⟩, by rw [List.length_map, List.length_range]; omega⟩
    rw [List.getElem?_map] at hu
    obtain ⟨i, hi1, rfl⟩ := Option.map_eq_some_iff.1 hu
    obtain ⟨h2, h3⟩ := List.getElem?_eq_some_iff.1 hi1
    rw [List.length_range] at h2
    rw [List.getElem_range] at h3
    subst h3
    obtain ⟨b, o, rfl, e2⟩ := plain_of (hf 0 (by omega))
    have e3 := hf j h2
    rw [addAt] at e3
    exact ⟨b, o, rfl, e2, e3⟩
theorem add_zero' (a : Addr) : (a.add 0).add 0 = a.add 0 := by simp [Addr.add]
def w5 (w : World) (a : Addr) (c : Cel) (kv : Value) : Prop := w.cell? (a.add 0) = some (.int .i64 c.x.k) ∧ w.cell? (a.add 1) = some (.int .i64 c.x.n) ∧ w.cell? (a.add 2) = some (.string c.x.a) ∧ w.cell? (a.add 3) = some (.string c.x.m) ∧ w.cell? (a.add 4) = some kv
def fitC (c : Cel) : Prop := c.x.a.size ≤ maxLen ∧ c.x.m.size ≤ maxLen ∧ c.ks.length ≤ maxLen
set_option maxRecDepth 100000 in
theorem one_cel {H : Type} {enc : TypeId × Value → H} {w : World} {base fuel : Nat} {spare : Nat → Bool} {held : Bool} {cs : List Value} {x : DataW H × List MemPlace}
    (h : DataW.trod enc Tryz.prog w base spare held fuel 89 cs = some x) : ∃ (c : Cel) (kv : Value), cs = [.int .i64 c.x.k, .int .i64 c.x.n, .string c.x.a, .string c.x.m, kv] ∧ Sp w w.heap.size kv c.ks ∧ fitC c := by
  obtain ⟨ys, n, _, _, hlen, hyl, hf⟩ := DataW.trod_struct Tryz.underlying89 h
  have hC : Tryz.prog.cellsOf 89 = 5 := by kernel_rfl
  rw [hC] at hlen
  have hl5 : cs.length = 5 := hlen
  have hy5 : ys.length = 5 := hyl
  match cs, hl5 with
  | [c0, c1, c2, c3, c4], _ =>
    match ys, hy5 with
    | [y0, y1, y2, y3, y4], _ =>
      have g0 : DataW.trod enc Tryz.prog w base spare held n 3 [c0] = some y0 := hf 0 _ rfl
      have g1 : DataW.trod enc Tryz.prog w base spare held n 3 [c1] = some y1 := hf 1 _ rfl
      have g2 : DataW.trod enc Tryz.prog w base spare held n 9 [c2] = some y2 := hf 2 _ rfl
      have g3 : DataW.trod enc Tryz.prog w base spare held n 9 [c3] = some y3 := hf 3 _ rfl
      have g4 : DataW.trod enc Tryz.prog w base spare held n 87 [c4] = some y4 := hf 4 _ rfl
      obtain ⟨k, e0, _⟩ := DataW.trod_int Tryz.underlying3 g0
      obtain ⟨m, e1, _⟩ := DataW.trod_int Tryz.underlying3 g1
      obtain ⟨s, e2, _, hs⟩ := DataW.trod_string Tryz.underlying9 g2
      obtain ⟨t, e3, _, ht⟩ := DataW.trod_string Tryz.underlying9 g3
      obtain ⟨l, hsp, hl⟩ := open_nums g4
      injection e0 with e0
      injection e1 with e1
      injection e2 with e2
      injection e3 with e3
      exact ⟨⟨⟨k, m, s, t⟩, l⟩, c4, by rw [e0, e1, e2, e3], hsp, hs, ht, hl⟩
set_option maxRecDepth 100000 in
theorem open_tree {H : Type} {enc : TypeId × Value → H} {W : World} {base : Nat} {v : Value} {d : DataW H} {p : List MemPlace}
    (hv : Value.okWide Tryz.prog W .any base 46 v) (h : DataW.Trod enc Tryz.prog W 0 (fun _ => true) true 46 v d p) :
    ∃ (cv : Value) (cs : List Cel), v = .agg #[cv] ∧ Cls W W.heap.size cv cs ∧ cs.length ≤ maxLen ∧ ∀ c ∈ cs, fitC c := by
  obtain ⟨cv0, rfl, hsz⟩ := okWide_struct Tryz.underlying46 hv
  have hC1 : Tryz.prog.cellsOf 46 = 1 := by kernel_rfl
  rw [hC1] at hsz
  obtain ⟨l0⟩ := cv0
  have hl1 : l0.length = 1 := hsz
  match l0, hl1 with
  | [cv], _ =>
  obtain ⟨fuel, hf⟩ := h
  obtain ⟨ys, n, _, _, hlen, hyl, hff⟩ := DataW.trod_struct Tryz.underlying46 hf
  have hy1 : ys.length = 1 := hyl
  match ys, hy1 with
  | [y0], _ =>
  have g0 : DataW.trod enc Tryz.prog W 0 (fun _ => true) true n 44 [cv] = some y0 := hff 0 _ rfl
  refine ⟨cv, ?_⟩
  rcases open_slice Tryz.underlying44 g0 with ⟨h0, _⟩ | ⟨a, len, cap, m, n, D, Pl, hc, _, hlc, hcm, hm, _, hi⟩
  · injection h0 with h0
    rw [h0]
    exact ⟨[], rfl, ⟨none, 0, rfl, Nat.le_refl _, fun j t ht => by simp at ht⟩, Nat.zero_le _, fun t ht => by cases ht⟩
  · injection hc with hc
    rw [hc]
    have hm2 : m = cap := by simpa using hm
    have hC : Tryz.prog.cellsOf 89 = 5 := by kernel_rfl
    have key : ∀ i, i < len → ∃ (c : Cel) (kv : Value), w5 W (a.add (i * 5)) c kv ∧ Sp W W.heap.size kv c.ks ∧ fitC c := by
      intro i hil
      obtain ⟨cs', hce, htr⟩ := hi i (by omega)
      obtain ⟨c, kv, rfl, hsp, hfit⟩ := one_cel htr
      rw [hC] at hce
      obtain ⟨_, _, hat⟩ := World.cells?_some hce
      exact ⟨c, kv, ⟨hat 0 (by omega), hat 1 (by omega), hat 2 (by omega), hat 3 (by omega), hat 4 (by omega)⟩, hsp, hfit⟩
    have key2 : ∀ i, i < len → ∃ c : Cel, (∃ b o, a = ⟨b, o, none⟩ ∧ b < W.heap.size ∧ CelAt W W.heap.size b (o + i * 5) c) ∧ fitC c := by
      intro i hil
      obtain ⟨_, _, hw0, _, _⟩ := key 0 (by omega)
      have h00 := hw0.1
      rw [Nat.zero_mul] at h00
      obtain ⟨b, o, rfl, hb⟩ := plain_of (a := a) (by rw [add_zero'] at h00; exact h00)
      obtain ⟨c, kv, ⟨q0, q1, q2, q3, q4⟩, hsp, hfit⟩ := key i hil
      simp only [addAt] at q0 q1 q2 q3 q4
      exact ⟨c, ⟨b, o, rfl, hb, q0, q1, q2, q3, kv, q4, hsp⟩, hfit⟩
    let f : Nat → Cel := fun i => if h : i < len then Classical.choose (key2 i h) else ⟨⟨0, 0, ⟨#[]⟩, ⟨#[]⟩⟩, []⟩
    have hfx : ∀ i, i < len → (∃ b o, a = ⟨b, o, none⟩ ∧ b < W.heap.size ∧ CelAt W W.heap.size b (o + i * 5) (f i)) ∧ fitC (f i) := by
      intro i h
      have := Classical.choose_spec (key2 i h)
      show (∃ b o, _ ∧ _ ∧ CelAt W _ _ _ (dite _ _ _)) ∧ fitC (dite _ _ _)
      rw [dif_pos h]
      exact this
    refine ⟨(List.range len).map f, rfl, ⟨some a, cap, by rw [List.length_map, List.length_range], by rw [List.length_map, List.length_range]; exact hlc, fun j t ht => ?_⟩, by rw [List.length_map, List.length_range]; omega, fun t ht => ?_⟩
    · rw [List.getElem?_map] at ht
      obtain ⟨i, hi', rfl⟩ := Option.map_eq_some_iff.1 ht
      obtain ⟨h1, h2⟩ := List.getElem?_eq_some_iff.1 hi'
      rw [List.length_range] at h1
      rw [List.getElem_range] at h2
      subst h2
      obtain ⟨⟨b, o, rfl, e2, e3⟩, _⟩ := hfx j h1
      exact ⟨b, o, rfl, e2, e3⟩
    · obtain ⟨i, hi', rfl⟩ := List.mem_map.1 ht
      exact (hfx i (List.mem_range.1 hi')).2
end Go.Proofs.YthonaeigacfmbaaGreatDoor
namespace Go.Proofs.YthonaeigacfmbaaGreatDoor
open Go.RowKit

theorem fewL_sz (cs : List Cel) : ∀ c ∈ fewL cs, c.x.a.size ≤ 130 ∧ c.x.m.size ≤ 130 := by
  intro c hc
  obtain ⟨d, _, rfl⟩ := List.mem_map.1 hc
  exact ⟨trT_le _, trT_le _⟩
theorem okS_row : ∀ {l : List Tr}, (∀ t ∈ l, okST t) → okS (rowOf l)
  | [], _ => trivial
  | t :: _, h => ⟨(h t (List.mem_cons_self ..)).1, (h t (List.mem_cons_self ..)).2.1, (h t (List.mem_cons_self ..)).2.2, okS_row fun u hu => h u (List.mem_cons_of_mem _ hu)⟩
theorem cel_sz {L : List Cel} (h : ∀ c ∈ L, c.x.a.size ≤ 130 ∧ c.x.m.size ≤ 130) (i : Nat) : (cel L i).x.a.size ≤ 1000000000 ∧ (cel L i).x.m.size ≤ 1000000000 := by
  by_cases hi : i < L.length
  · have := h _ (List.mem_of_getElem? (cel_lt hi))
    omega
  · have : cel L i = ⟨nod0, []⟩ := by unfold cel; rw [List.getD_eq_getElem?_getD, List.getElem?_eq_none (by omega)]; rfl
    rw [this]
    exact ⟨by decide, by decide⟩
theorem gr_okS {L : List Cel} (h : ∀ c ∈ L, c.x.a.size ≤ 130 ∧ c.x.m.size ≤ 130) : ∀ f i, okST (gr L f i)
  | 0, i => ⟨(cel_sz h i).1, (cel_sz h i).2, trivial⟩
  | f + 1, i => ⟨(cel_sz h i).1, (cel_sz h i).2, okS_row fun t ht => by
    obtain ⟨x, _, rfl⟩ := List.mem_map.1 ht
    exact gr_okS h f x.toNat⟩
theorem op_few (cs : List Cel) : ∃ (o : Option Tr) (z : Int), opR (fewL cs) = (o, z) ∧ szO o ≤ 80 ∧ okSO o ∧ ((∃ t, o = some t ∧ z = 0) ∨ (o = none ∧ z ≠ 0)) := by
  have hl := fewL_len cs
  by_cases h0 : (fewL cs).length = 0
  · exact ⟨none, 1, op_nil h0, Nat.zero_le _, fun t h => (by cases h), .inr ⟨rfl, by decide⟩⟩
  · by_cases h : okK (fewL cs) ∧ okC (fewL cs)
    · have hs := open_size h.1 h.2 (by omega)
      refine ⟨_, _, op_good h0 (by omega) h, ?_, fun t ht => ?_, .inl ⟨_, rfl, rfl⟩⟩
      · show szT _ ≤ 80
        omega
      · injection ht with ht
        subst ht
        exact gr_okS (fewL_sz cs) _ _
    · exact ⟨none, 16, op_bad h0 (by omega) h, Nat.zero_le _, fun t h => (by cases h), .inr ⟨rfl, by decide⟩⟩
theorem few_kids (cs : List Cel) : ∀ (j : Nat) (c : Cel), (fewL cs)[j]? = some c → c.ks.length ≤ 1000000 := fun j c h => by have := fewL_ks cs c (List.mem_of_getElem? h); omega
theorem few_le (cs : List Cel) : (fewL cs).length ≤ 1000000 := by have := fewL_len cs; omega
theorem fit_few {cs : List Cel} (h : ∀ c ∈ cs, fitC c) : ∀ c ∈ cs, c.x.a.size ≤ 9223372036854775807 ∧ c.x.m.size ≤ 9223372036854775807 ∧ c.ks.length ≤ 9223372036854775807 := by
  intro c hc
  obtain ⟨h1, h2, h3⟩ := h c hc
  unfold maxLen at h1 h2 h3
  exact ⟨by omega, by omega, by omega⟩
end Go.Proofs.YthonaeigacfmbaaGreatDoor
namespace Go.Proofs.YthonaeigacfmbaaGreatDoor
open Go.RowKit

structure Vx (w : World) : Prop where
  lx : B.Lx w
  pl : Pl w
theorem Vx.up {W w : World} (h : Vx W) (u : Up W w) : Vx w := ⟨B.Lx.below h.lx u, h.pl.up u⟩
theorem Vx.nx {w : World} (h : Vx w) : B.Nx w := ⟨h.lx.2.1, h.lx.2.2.1⟩
def tkq (t : B.Tok × Nat) : Tk := ⟨t.1.k, B.T t.1.x⟩
theorem tkm_of {w : World} {v : Value} {l : List (B.Tok × Nat)} (h : B.Tks w w.heap.size v l) : Tkm w v (l.map tkq) := by
  obtain ⟨A, c, hv, hc⟩ := h
  refine ⟨A, c, by rw [hv, List.length_map], fun j t ht => ?_⟩
  rw [List.getElem?_map] at ht
  obtain ⟨x, hx, rfl⟩ := Option.map_eq_some_iff.1 ht
  obtain ⟨ad, hA, hlt, hcell⟩ := hc j x hx
  have hj : j < l.length := (List.getElem?_eq_some_iff.1 hx).1
  obtain ⟨x0, hx0⟩ : ∃ x0, l[0]? = some x0 := ⟨_, List.getElem?_eq_getElem (by omega)⟩
  obtain ⟨ad0, hA0, _, hcell0⟩ := hc 0 x0 hx0
  have e0 : ad0 = ad := by rw [hA] at hA0; exact (Option.some.inj hA0).symm
  subst e0
  have h0 := hcell0 0 _ rfl
  have hsp : ad0.spot = none := by
    have e : ad0.add (0 * 4 + 0) = ad0 := by simp [Addr.add]
    rw [e] at h0
    unfold World.cell? at h0
    cases hs : ad0.spot with
    | none => rfl
    | some z =>
      rw [hs] at h0
      cases hh : w.heap[ad0.block]? with
      | none => rw [hh] at h0; cases h0
      | some ob => rw [hh] at h0; cases ob <;> simp at h0
  have ha : ∀ i, ad0.add i = ⟨ad0.block, ad0.off + i, none⟩ := fun i => by
    unfold Addr.add
    split
    · rename_i hi
      subst hi
      rw [← hsp]
      rfl
    · rfl
  have c0 := hcell 0 _ rfl
  have c1 := hcell 1 _ rfl
  rw [ha] at c0 c1
  refine ⟨ad0.block, ad0.off, ?_, hlt, ?_, ?_⟩
  · rw [hA, ← hsp]
  · rw [Nat.add_zero] at c0; exact c0
  · rw [← Nat.add_assoc] at c1; exact c1
theorem uCells (cs : List Cel) {W w : World} {v : Value} (h : Cls W W.heap.size v cs) (hf : ∀ c ∈ cs, fitC c) (u : Up W w) :
    Calls Tryz.prog 31 #[.agg #[v]] w fun e w' => ∃ v, e = .returned (.agg #[v]) ∧ Cls w' w'.heap.size v (fewL cs) ∧ Up W w' :=
  (few_any cs w v (h.upp u) (fit_few hf)).mono fun _ _ k => by
    obtain ⟨v, he, hc, hb⟩ := k
    exact ⟨v, he, hc, u.of hb⟩
def exS : ByteArray := ⟨#[105, 110, 116, 32, 42, 32, 98, 111, 111, 108, 32, 45, 62, 32, 116, 46, 117]⟩
def exL6 : List (B.Tok × Nat) := [(⟨3, [105, 110, 116], 0⟩, 0), (⟨3, [42], 0⟩, 4), (⟨3, [98, 111, 111, 108], 0⟩, 6), (⟨3, [45, 62], 0⟩, 11), (⟨1, [116, 46, 117], 0⟩, 14)]
def tU : ByteArray := ⟨#[116, 46, 117]⟩
def exT6 : Tr := nd 5 nob (fr2 (nd 6 nob (fr2 (nd 1 nob .nil) (nd 2 nob .nil))) (nd 4 tU .nil))
theorem ex6_lex : B.lexR exS = (exL6, 0, 0) := by kernel_rfl
theorem ex6_typ : typZ B.nck B.long (exL6.map tkq) 0 = .inl (exT6, 5) := by kernel_rfl
theorem ex6_chk : chk B.nck B.long (some exT6) 1 = 0 := by kernel_rfl
theorem ex6_txt : wrT (some exT6) = exS := by kernel_rfl
theorem ex6_sz : ∀ t ∈ exL6.map tkq, t.s.size ≤ 1000000000 := by decide
theorem ex6_ok : okSO (some exT6) := fun t h => by
  have h := Option.some.inj h
  subst h
  unfold okST
  simp only [exT6, nd, fr2, fr1, okS]
  decide
theorem ex6_in {W w : World} {v : Value} (h : InT w (fun q => W.heap.size ≤ q ∧ q < w.heap.size) v exT6) : ∃ q p kb ko c q6 p6 q4 p4, v = .pointer (some ⟨q, p, none⟩) ∧ w.cell? ⟨q, p, none⟩ = some (.int .i64 5) ∧ w.cell? ⟨q, p + 4, none⟩ = some (.slice (some ⟨kb, ko, none⟩) 2 c) ∧
    w.cell? ⟨kb, ko, none⟩ = some (.pointer (some ⟨q6, p6, none⟩)) ∧ w.cell? ⟨kb, ko + 1, none⟩ = some (.pointer (some ⟨q4, p4, none⟩)) ∧ w.cell? ⟨q6, p6, none⟩ = some (.int .i64 6) ∧ w.cell? ⟨q4, p4 + 2, none⟩ = some (.string tU) := by
  obtain ⟨q, p, A, c, rfl, hq, c0, c1, c2, c3, c4, hc, hkid⟩ := InT.open h
  obtain ⟨kb, ko, rfl, hkb, ⟨va, ca, ia⟩, ⟨vb, cb, ib⟩, -⟩ := hkid (by show 0 < 2; omega)
  obtain ⟨q6, p6, A6, c6, rfl, hq6, d0, -⟩ := InT.open (x := ⟨6, 0, nob, nob⟩) (ks := fr2 (nd 1 nob .nil) (nd 2 nob .nil)) ia
  obtain ⟨q4, p4, A4, c4', rfl, hq4, f0, f1, f2, -⟩ := InT.open (x := ⟨4, 0, tU, nob⟩) (ks := .nil) ib
  exact ⟨q, p, kb, ko, c, q6, p6, q4, p4, rfl, c0, c4, ca, cb, d0, f2⟩
set_option maxHeartbeats 12800000 in
set_option maxRecDepth 100000 in
theorem works6 {W w : World} (hx : Vx W) (hu : Up W w) : Calls Tryz.prog 28 #[] w (BoP true W) := by
  have cL := B.lex_any exS (by decide) w (B.Lx.below hx.lx hu)
  rw [ex6_lex] at cL
  have HX := Lib.hid hx
  have HU := Lib.hid hu
  clear hx hu
  go_enter Tryz.func28, Tryz.ntmps28
  go_wp2_with fail
  refine Calls.mono cL ?_
  rintro e w1 ⟨v, rfl, ht, hb1⟩
  have u1 : Up W w1 := HU.out.trans hb1
  have cT := pType (exL6.map tkq) 0 (by decide) ex6_sz w1 v (tkm_of ht) (HX.out.up u1).nx (HX.out.up u1).pl
  rw [ex6_typ] at cT
  have U1 := Lib.hid u1
  clear ht hb1 u1 cL
  go_wp2_with fail
  refine cT.mono ?_
  rintro e w2 ⟨v2, j2, e2, rfl, ⟨hn, rfl, rfl⟩, u2⟩
  have u02 : Up W w2 := U1.out.trans u2
  obtain ⟨q, p, kb, ko, c, q6, p6, q4, p4, rfl, c0, c4, ca, cb, d0, f2⟩ := ex6_in hn
  have cW := pWrite (some exT6) (by decide) ex6_ok w2 w2 (.pointer (some ⟨q, p, none⟩)) (HX.out.up u02).nx (HX.out.up u02).pl hn.has (Up.refl _)
  unfold WtP at cW
  rw [ex6_chk, if_pos rfl, ex6_txt] at cW
  have hnil : ∀ W, (binOp .eql 24 (.pointer (some ⟨q, p, none⟩)) (.pointer none)).run Tryz.prog W = .ok (.bool false) W := fun W => ptr_nil2 W _
  have U2 := Lib.hid u02
  have CA := Lib.hid ca
  have CB := Lib.hid cb
  have C4 := Lib.hid c4
  have D0 := Lib.hid d0
  have F2 := Lib.hid f2
  clear hn u2 u02 cT ca cb d0 f2
  go_wp2_with fail
  refine cW.mono ?_
  rintro e w3 ⟨rfl, u3⟩
  have k4 := u3.cell C4.out
  have ka := u3.cell CA.out
  have kb' := u3.cell CB.out
  have k6 := u3.cell D0.out
  have kf := u3.cell F2.out
  have U3 := Lib.hid (Up.trans U2.out u3)
  have hU1 : tU.toList = [116, 46, 117] := by rw [Lib.toList_data]; rfl
  have hE1 : exS.toList = [105, 110, 116, 32, 42, 32, 98, 111, 111, 108, 32, 45, 62, 32, 116, 46, 117] := by rw [Lib.toList_data]; rfl
  clear u3 c0 c4 cW
  go_wp2_with fail
  go_ret
  exact bop_ret rfl U3.out
end Go.Proofs.YthonaeigacfmbaaGreatDoor
namespace Go.Proofs.YthonaeigacfmbaaGreatDoor
open Go.RowKit

set_option maxHeartbeats 6400000 in
set_option maxRecDepth 100000 in
theorem lawWrites (cs : List Cel) (w : World) (cv : Value) (hx : Vx w) (hcl : Cls w w.heap.size cv cs) (hfit : ∀ c ∈ cs, fitC c) :
    Calls Tryz.prog 5 #[.agg #[cv]] w (BoP true w) := by
  obtain ⟨H, hH⟩ : ∃ H, w.heap.size = H := ⟨_, rfl⟩
  obtain ⟨CA, cc, hcv, -, -⟩ := id hcl
  have u0 : Up w (w.alloc (.cells #[cv] 46)) := (Up.refl w).alloc _
  obtain ⟨W0, hW0⟩ : ∃ W0, w.alloc (.cells #[cv] 46) = W0 := ⟨_, rfl⟩
  have hx0 : W0.heap[H]? = some (.cells #[cv] 46 (0, 0)) := by rw [← hW0, ← hH]; exact heap_alloc_new w _
  rw [hW0] at u0
  have hcl0 := hcl.upp u0
  have kc : W0.cell? ⟨H, 0, none⟩ = some cv := cell_of_row _ H 0 _ _ _ hx0
  obtain ⟨o, z, ho, hs, hk, -⟩ := op_few cs
  have HW0 := Lib.hid hW0
  have U0 := Lib.hid u0
  have HCL := Lib.hid hcl0
  have HF := Lib.hid hfit
  have HO := Lib.hid ho
  have HS := Lib.hid hs
  have HK := Lib.hid hk
  have HX := Lib.hid hx
  clear hcl u0 hW0 hcl0 hfit ho hs hk hx0 hx
  subst hcv
  go_enter Tryz.func5, Tryz.ntmps5
  go_wp2_with fail
  rw [HW0.out]
  refine (uCells cs HCL.out HF.out (Up.refl _)).mono ?_
  rintro e w1 ⟨v1, rfl, h1, u1⟩
  have H1 := Lib.hid h1
  have U1 := Lib.hid (U0.out.trans u1)
  clear h1 u1 kc
  go_wp2_with fail
  refine (rOpen (fewL cs) H1.out (few_kids cs) (few_le cs) (Up.refl _)).mono ?_
  rw [HO.out]
  rintro e w2 ⟨n, rfl, h2, u2⟩
  have HN := Lib.hid h2
  have U2 := Lib.hid (U1.out.trans u2)
  clear h2 u2
  go_wp2_with fail
  refine (pWrite o (by have := HS.out; omega) HK.out w2 w2 n (HX.out.up U2.out).nx (HX.out.up U2.out).pl HN.out (Up.refl _)).mono ?_
  unfold WtP
  obtain ⟨S, hS⟩ : ∃ S, (if chk B.nck B.long o 1 = 0 then wrT o else nob) = S := ⟨_, rfl⟩
  obtain ⟨Z, hZ⟩ : ∃ Z, chk B.nck B.long o 1 = Z := ⟨_, rfl⟩
  have HSS := Lib.hid hS
  have HZZ := Lib.hid hZ
  rw [hS, hZ]
  clear hS hZ
  rintro e w3 ⟨rfl, u3⟩
  have U3 := Lib.hid (U2.out.trans u3)
  have HN3 := Lib.hid (HN.out.up u3)
  clear u3
  go_wp2_with fail
  refine (refWrite o (by have := HS.out; omega) HK.out w3 w3 n HN3.out (Up.refl _)).mono ?_
  unfold WtP
  rw [HSS.out, HZZ.out]
  rintro e w4 ⟨rfl, u4⟩
  have U4 := Lib.hid (U3.out.trans u4)
  clear u4
  go_wp2_with fail
  refine (works6 HX.out U4.out).mono ?_
  rintro e w5 ⟨rfl, u5⟩
  go_wp2_with fail
  go_ret
  exact bop_ret rfl u5
end Go.Proofs.YthonaeigacfmbaaGreatDoor
