/-
  The document's Key, Name, Long, Node: what they tell of tokens in memory.
-/
import Derived.Test.YthonaeigacfmbaaGreatDoorGp10
import Derived.Test.YthonaeigacfmbaaGreatDoorGp19
namespace Go.Proofs.YthonaeigacfmbaaGreatDoor
open Go.RowKit

def Tkm (w : World) (v : Value) (l : List Tk) : Prop := ∃ A c, v = .slice A l.length c ∧ ∀ (j : Nat) (t : Tk), l[j]? = some t → ∃ b o, A = some ⟨b, o, none⟩ ∧ b < w.heap.size ∧ w.cell? ⟨b, o + j * 4, none⟩ = some (.int .i64 t.k) ∧ w.cell? ⟨b, o + j * 4 + 1, none⟩ = some (.string t.s)
theorem Tkm.up {W w : World} {v : Value} {l : List Tk} (h : Tkm W v l) (u : Up W w) : Tkm w v l := by
  obtain ⟨A, c, rfl, h⟩ := h
  refine ⟨A, c, rfl, fun j t ht => ?_⟩
  obtain ⟨b, o, h1, h2, h3, h4⟩ := h j t ht
  exact ⟨b, o, h1, Nat.lt_of_lt_of_le h2 u.size, u.cell h3, u.cell h4⟩
theorem str_eq (a b : ByteArray) : (a.toList == b.toList) = decide (a = b) := by
  by_cases h : a = b
  · rw [h, decide_eq_true rfl]
    simp
  · rw [decide_eq_false h, beq_eq_false_iff_ne]
    intro e
    rw [Lib.toList_data, Lib.toList_data] at e
    exact h (B.ba_ext e)
def keyZ (l : List Tk) (i : Int) (x : ByteArray) : Bool := decide (0 ≤ i) && key l i.toNat x
def BoU (b : Bool) (w : World) (e : Ending) (w' : World) : Prop := e = .returned (.bool b) ∧ Up w w'
theorem bou_ret {a b : Bool} {w w' : World} (h : a = b) (u : Up w w') : BoU a w (.returned (.bool b)) w' := ⟨by rw [h], u⟩
set_option maxHeartbeats 3200000 in
set_option maxRecDepth 100000 in
theorem refKey (l : List Tk) (i : Int) (x : ByteArray) (w : World) (v : Value) (hv : Tkm w v l) :
    Calls Tryz.prog 27 #[v, .int .i64 i, .string x] w (BoU (keyZ l i x) w) := by
  obtain ⟨A, c, rfl, hc⟩ := hv
  obtain ⟨n, hn⟩ : ∃ n, l.length = n := ⟨_, rfl⟩
  rw [hn]
  by_cases h0 : 0 ≤ i
  · obtain ⟨k, rfl⟩ := Int.eq_ofNat_of_zero_le h0
    by_cases hk : k < n
    · obtain ⟨t, ht⟩ : ∃ t, l[k]? = some t := ⟨_, List.getElem?_eq_getElem (by rw [hn]; exact hk)⟩
      obtain ⟨b, o, rfl, hb, c0, c1⟩ := hc k t ht
      have hki : (k : Int) < (n : Int) := by omega
      have HE : Hid (keyZ l (k : Int) x = (decide (t.k = 3) && decide (t.s = x))) := Lib.hid (by unfold keyZ; rw [decide_eq_true h0, Int.toNat_natCast]; unfold key; rw [ht]; rfl)
      rw [HE.out]
      clear hc ht hn HE
      by_cases h3 : t.k = 3
      · rw [decide_eq_true h3, Bool.true_and]
        go_enter Tryz.func27, Tryz.ntmps27
        go_wp2_with fail
        go_ret
        exact bou_ret (str_eq _ _).symm (Up.refl _)
      · rw [decide_eq_false h3, Bool.false_and]
        go_enter Tryz.func27, Tryz.ntmps27
        go_wp2_with fail
        go_ret
        exact bou_ret rfl (Up.refl _)
    · have hki : ¬ (k : Int) < (n : Int) := by omega
      have HE : Hid (keyZ l (k : Int) x = false) := Lib.hid (by unfold keyZ; rw [Int.toNat_natCast, key_end (by omega), Bool.and_false])
      rw [HE.out]
      go_enter Tryz.func27, Tryz.ntmps27
      go_wp2_with fail
      go_ret
      exact bou_ret rfl (Up.refl _)
  · have HE : Hid (keyZ l i x = false) := Lib.hid (by unfold keyZ; rw [decide_eq_false h0, Bool.false_and])
    rw [HE.out]
    go_enter Tryz.func27, Tryz.ntmps27
    go_wp2_with fail
    go_ret
    exact bou_ret rfl (Up.refl _)
def namZ (p : ByteArray → Bool) (l : List Tk) (i : Int) : Option ByteArray := if 0 ≤ i then nam p l i.toNat else none
def NaP (o : Option ByteArray) (w : World) (e : Ending) (w' : World) : Prop := e = .returned (.tuple #[.string (o.getD nob), .bool o.isSome]) ∧ Up w w'
set_option maxHeartbeats 3200000 in
set_option maxRecDepth 100000 in
theorem refName (l : List Tk) (i : Int) (w : World) (v : Value) (hv : Tkm w v l) (hz : ∀ t ∈ l, t.s.size ≤ 1000000000) :
    Calls Tryz.prog 21 #[v, .int .i64 i] w (NaP (namZ B.nck l i) w) := by
  obtain ⟨A, c, rfl, hc⟩ := hv
  obtain ⟨n, hn⟩ : ∃ n, l.length = n := ⟨_, rfl⟩
  rw [hn]
  by_cases h0 : 0 ≤ i
  · obtain ⟨k, rfl⟩ := Int.eq_ofNat_of_zero_le h0
    by_cases hk : k < n
    · obtain ⟨t, ht⟩ : ∃ t, l[k]? = some t := ⟨_, List.getElem?_eq_getElem (by rw [hn]; exact hk)⟩
      obtain ⟨b, o, rfl, hb, c0, c1⟩ := hc k t ht
      have hki : (k : Int) < (n : Int) := by omega
      have cC := B.refCk t.s w (hz t (List.mem_of_getElem? ht))
      obtain ⟨p, hp⟩ : ∃ p, B.nck t.s = p := ⟨_, rfl⟩
      rw [hp] at cC
      have HE : Hid (namZ B.nck l (k : Int) = if decide (t.k = 1) && p then some t.s else none) := Lib.hid (by unfold namZ; rw [if_pos h0, Int.toNat_natCast]; unfold nam; rw [ht, ← hp])
      rw [HE.out]
      clear hc ht hn HE hp hz
      by_cases h3 : t.k = 1
      · rw [decide_eq_true h3, Bool.true_and]
        cases p
        · go_enter Tryz.func21, Tryz.ntmps21
          go_wp2_with fail
          refine cC.mono ?_
          rintro e w1 ⟨rfl, u1⟩
          go_wp2_with fail
          go_ret2
          exact ⟨rfl, u1⟩
        · go_enter Tryz.func21, Tryz.ntmps21
          go_wp2_with fail
          refine cC.mono ?_
          rintro e w1 ⟨rfl, u1⟩
          have c1' := (show Up w w1 from u1).cell c1
          go_wp2_with fail
          go_ret2
          exact ⟨rfl, u1⟩
      · rw [decide_eq_false h3, Bool.false_and]
        go_enter Tryz.func21, Tryz.ntmps21
        go_wp2_with fail
        go_ret2
        exact ⟨rfl, Up.refl _⟩
    · have hki : ¬ (k : Int) < (n : Int) := by omega
      have HE : Hid (namZ B.nck l (k : Int) = none) := Lib.hid (by unfold namZ; rw [if_pos h0, Int.toNat_natCast, nam_end (by omega)])
      rw [HE.out]
      go_enter Tryz.func21, Tryz.ntmps21
      go_wp2_with fail
      go_ret2
      exact ⟨rfl, Up.refl _⟩
  · have HE : Hid (namZ B.nck l i = none) := Lib.hid (by unfold namZ; rw [if_neg h0])
    rw [HE.out]
    go_enter Tryz.func21, Tryz.ntmps21
    go_wp2_with fail
    go_ret2
    exact ⟨rfl, Up.refl _⟩
set_option maxHeartbeats 3200000 in
set_option maxRecDepth 100000 in
theorem refLongT (l : List Tk) (i : Int) (w : World) (v : Value) (hv : Tkm w v l) (hz : ∀ t ∈ l, t.s.size ≤ 1000000000) :
    Calls Tryz.prog 23 #[v, .int .i64 i] w (NaP (namZ B.long l i) w) := by
  obtain ⟨A, c, rfl, hc⟩ := hv
  obtain ⟨n, hn⟩ : ∃ n, l.length = n := ⟨_, rfl⟩
  rw [hn]
  by_cases h0 : 0 ≤ i
  · obtain ⟨k, rfl⟩ := Int.eq_ofNat_of_zero_le h0
    by_cases hk : k < n
    · obtain ⟨t, ht⟩ : ∃ t, l[k]? = some t := ⟨_, List.getElem?_eq_getElem (by rw [hn]; exact hk)⟩
      obtain ⟨b, o, rfl, hb, c0, c1⟩ := hc k t ht
      have hki : (k : Int) < (n : Int) := by omega
      have cC := B.refLong t.s w (hz t (List.mem_of_getElem? ht))
      obtain ⟨p, hp⟩ : ∃ p, B.long t.s = p := ⟨_, rfl⟩
      rw [hp] at cC
      have HE : Hid (namZ B.long l (k : Int) = if decide (t.k = 1) && p then some t.s else none) := Lib.hid (by unfold namZ; rw [if_pos h0, Int.toNat_natCast]; unfold nam; rw [ht, ← hp])
      rw [HE.out]
      clear hc ht hn HE hp hz
      by_cases h3 : t.k = 1
      · rw [decide_eq_true h3, Bool.true_and]
        cases p
        · go_enter Tryz.func23, Tryz.ntmps23
          go_wp2_with fail
          refine cC.mono ?_
          rintro e w1 ⟨rfl, u1⟩
          go_wp2_with fail
          go_ret2
          exact ⟨rfl, u1⟩
        · go_enter Tryz.func23, Tryz.ntmps23
          go_wp2_with fail
          refine cC.mono ?_
          rintro e w1 ⟨rfl, u1⟩
          have c1' := (show Up w w1 from u1).cell c1
          go_wp2_with fail
          go_ret2
          exact ⟨rfl, u1⟩
      · rw [decide_eq_false h3, Bool.false_and]
        go_enter Tryz.func23, Tryz.ntmps23
        go_wp2_with fail
        go_ret2
        exact ⟨rfl, Up.refl _⟩
    · have hki : ¬ (k : Int) < (n : Int) := by omega
      have HE : Hid (namZ B.long l (k : Int) = none) := Lib.hid (by unfold namZ; rw [if_pos h0, Int.toNat_natCast, nam_end (by omega)])
      rw [HE.out]
      go_enter Tryz.func23, Tryz.ntmps23
      go_wp2_with fail
      go_ret2
      exact ⟨rfl, Up.refl _⟩
  · have HE : Hid (namZ B.long l i = none) := Lib.hid (by unfold namZ; rw [if_neg h0])
    rw [HE.out]
    go_enter Tryz.func23, Tryz.ntmps23
    go_wp2_with fail
    go_ret2
    exact ⟨rfl, Up.refl _⟩
theorem refNode (k : Int) (a : ByteArray) (A : Option Addr) (n c : Nat) (w : World) :
    Calls Tryz.prog 88 #[.int .i64 k, .string a, .slice A n c] w fun e w' => e = .returned (.pointer (some ⟨w.heap.size, 0, none⟩)) ∧ w' = w.alloc (.cells #[.int .i64 k, .int .i64 0, .string a, .string ⟨#[]⟩, .slice A n c] 66) := by
  go_enter Tryz.func88, Tryz.ntmps88
  go_wp2_with fail
  go_ret
  exact ⟨rfl, rfl⟩
end Go.Proofs.YthonaeigacfmbaaGreatDoor
namespace Go.Proofs.YthonaeigacfmbaaGreatDoor
open Go.RowKit

section
variable {nk lg : ByteArray → Bool}
def LeOk {α : Type} (N : Nat) (R : Rs α) : Prop := pl R ≤ N ∧ ∀ p e, R = .inr (p, e) → ¬ e = 0
theorem St.leok {α : Type} {N : Nat} {R R' : Rs α} (h : St N R R') : LeOk N R := ⟨h.le, fun p e he => by rcases h.bad p e he with h | ⟨h, _⟩ <;> omega⟩
theorem typL_le (l : List Tk) (i : Nat) (hi : i ≤ l.length) : LeOk l.length (typL nk lg l i) := ((st_all l [] _).1 i hi).leok
theorem prodL_le (l : List Tk) (i : Nat) (hi : i ≤ l.length) : LeOk l.length (prodL nk lg l i) := ((st_all l [] _).2.1 i hi).leok
theorem atomL_le (l : List Tk) (i : Nat) (hi : i ≤ l.length) : LeOk l.length (atomL nk lg l i) := ((st_all l [] _).2.2.1 i hi).leok
theorem consL_le (l : List Tk) (i : Nat) (acc : Fr) (hi : i ≤ l.length) : LeOk l.length (consL nk lg l i acc) := ((st_all l [] _).2.2.2 i acc hi).leok
end
def NewS (W w : World) (q : Nat) : Prop := W.heap.size ≤ q ∧ q < w.heap.size
def NewT (W w : World) (v : Value) (t : Tr) : Prop := InT w (NewS W w) v t
theorem NewT.up {W a w : World} {v : Value} {t : Tr} (h : NewT W a v t) (u : Up a w) : NewT W w v t := InT.keep h (fun _ hq => ⟨hq.1, Nat.lt_of_lt_of_le hq.2 u.size⟩) fun b hb => Below.block u b hb.2
theorem NewT.base {W a w : World} {v : Value} {t : Tr} (h : NewT a w v t) (u : W.heap.size ≤ a.heap.size) : NewT W w v t := InT.keep h (fun _ hq => ⟨Nat.le_trans u hq.1, hq.2⟩) fun _ _ => rfl
theorem NewT.has {W w : World} {v : Value} {t : Tr} (h : NewT W w v t) : HasT w v (some t) := InT.keep h (fun _ hq => hq.2) fun _ _ => rfl
def RsV (R : Rs Tr) (w w' : World) (v : Value) (j e : Int) : Prop := match R with
  | .inl (t, q) => NewT w w' v t ∧ j = (q : Int) ∧ e = 0
  | .inr (p, r) => j = (p : Int) ∧ e = r ∧ ∃ A, v = .pointer A
def RsPost (R : Rs Tr) (w : World) (e : Ending) (w' : World) : Prop := ∃ v j er, e = .returned (.tuple #[v, .int .i64 j, .int .i64 er]) ∧ RsV R w w' v j er ∧ Up w w'
theorem new_at (w : World) (o : Obj) {n : Nat} (h : w.heap.size = n) : (w.alloc o).heap[n]? = some o := by rw [← h]; exact heap_alloc_new w o
theorem old_row {w : World} {b : Nat} {o : Obj} (o' : Obj) (h : w.heap[b]? = some o) : (w.alloc o').heap[b]? = some o := (Below.heap_alloc _ _ _ (heap_lt h)).trans h
theorem node_has {w : World} {S : Nat → Prop} {b g n c : Nat} {x : Nod} {f : Fr} (h : w.heap[b]? = some (.cells #[.int .i64 x.k, .int .i64 x.n, .string x.a, .string x.m, .slice (some ⟨g, 0, none⟩) n c] 66 (0, 0))) (hn : f.len = n) (hc : n ≤ c) (hS : S b) (hg : S g) (hf : InF w S f g 0) : InT w S (.pointer (some ⟨b, 0, none⟩)) (x, f) := by
  subst hn
  exact ⟨b, 0, some ⟨g, 0, none⟩, c, rfl, hS, ⟨_, _, h⟩, cell_of_row w b 0 _ _ _ h, cell_of_row w b 1 _ _ _ h, cell_of_row w b 2 _ _ _ h, cell_of_row w b 3 _ _ _ h, cell_of_row w b 4 _ _ _ h, hc, fun _ => ⟨g, 0, rfl, hg, hf⟩⟩
theorem leaf_has {w : World} {S : Nat → Prop} {b : Nat} {x : Nod} (h : w.heap[b]? = some (.cells #[.int .i64 x.k, .int .i64 x.n, .string x.a, .string x.m, .slice none 0 0] 66 (0, 0))) (hS : S b) : InT w S (.pointer (some ⟨b, 0, none⟩)) (x, .nil) :=
  ⟨b, 0, none, 0, rfl, hS, ⟨_, _, h⟩, cell_of_row w b 0 _ _ _ h, cell_of_row w b 1 _ _ _ h, cell_of_row w b 2 _ _ _ h, cell_of_row w b 3 _ _ _ h, cell_of_row w b 4 _ _ _ h, Nat.le_refl _, fun hn => absurd hn (by simp [Fr.len])⟩
theorem two_has {W w : World} {va vb : Value} {a b : Tr} {k : Int} (hW : W.heap.size ≤ w.heap.size) (ha : NewT W w va a) (hb : NewT W w vb b) :
    NewT W ((w.alloc (.cells #[va, vb] 24)).alloc (.cells #[.int .i64 k, .int .i64 0, .string nob, .string ⟨#[]⟩, .slice (some ⟨w.heap.size, 0, none⟩) 2 2] 66)) (.pointer (some ⟨w.heap.size + 1, 0, none⟩)) (nd k nob (fr2 a b)) := by
  have e1 : (w.alloc (.cells #[va, vb] 24)).heap.size = w.heap.size + 1 := by simp
  rw [← e1]
  obtain ⟨W1, hW1⟩ : ∃ W1, w.alloc (.cells #[va, vb] 24) = W1 := ⟨_, rfl⟩
  have s1 : W1.heap[w.heap.size]? = some (.cells #[va, vb] 24 (0, 0)) := by rw [← hW1]; exact heap_alloc_new w _
  have u1 : Up w W1 := by rw [← hW1]; exact (Up.refl w).alloc _
  have z1 := u1.size
  rw [hW1]
  obtain ⟨W2, hW2⟩ : ∃ W2, W1.alloc (.cells #[.int .i64 k, .int .i64 0, .string nob, .string ⟨#[]⟩, .slice (some ⟨w.heap.size, 0, none⟩) 2 2] 66) = W2 := ⟨_, rfl⟩
  have s2 : W2.heap[W1.heap.size]? = some (.cells #[.int .i64 k, .int .i64 0, .string nob, .string ⟨#[]⟩, .slice (some ⟨w.heap.size, 0, none⟩) 2 2] 66 (0, 0)) := by rw [← hW2]; exact heap_alloc_new W1 _
  have u2 : Up W1 W2 := by rw [← hW2]; exact (Up.refl W1).alloc _
  have s3 : W2.heap[w.heap.size]? = some (.cells #[va, vb] 24 (0, 0)) := u2.row s1
  rw [hW2]
  exact node_has (x := ⟨k, 0, nob, nob⟩) (f := fr2 a b) s2 rfl (Nat.le_refl _) ⟨by omega, heap_lt s2⟩ ⟨hW, heap_lt s3⟩ ⟨⟨_, cell_of_row W2 w.heap.size 0 _ _ _ s3, ha.up (u1.trans u2)⟩, ⟨_, cell_of_row W2 w.heap.size 1 _ _ _ s3, hb.up (u1.trans u2)⟩, trivial⟩
set_option maxHeartbeats 3200000 in
set_option maxRecDepth 100000 in
theorem ref_typ (l : List Tk) (i : Nat) (hi : i ≤ l.length) (hl : l.length ≤ 1000000) (w : World) (v : Value) (hv : Tkm w v l)
    (cP : ∀ w', Up w w' → Calls Tryz.prog 87 #[v, .int .i64 (i : Int)] w' (RsPost (prodL B.nck B.long l i) w'))
    (cT : ∀ j, i < j → j ≤ l.length → ∀ w', Up w w' → Calls Tryz.prog 49 #[v, .int .i64 (j : Int)] w' (RsPost (typL B.nck B.long l j) w')) :
    Calls Tryz.prog 49 #[v, .int .i64 (i : Int)] w (RsPost (typL B.nck B.long l i) w) := by
  have HV := Lib.hid hv
  have HT := Lib.hid cT
  have hp := cP w (Up.refl w)
  have hst := prodL_le (nk := B.nck) (lg := B.long) l i hi
  have hah := prodL_ahead (nk := B.nck) (lg := B.long) l i
  have HE := Lib.hid (typL_eq (nk := B.nck) (lg := B.long) l i)
  rw [HE.out]
  cases hP : prodL B.nck B.long l i with
  | inr e =>
    obtain ⟨p, er⟩ := e
    rw [hP] at hp hst
    obtain ⟨hpl, her⟩ := hst
    have hne : ¬ er = 0 := her p er rfl
    have hpl : p ≤ l.length := hpl
    clear hah hP cP cT hv HE
    go_enter Tryz.func49, Tryz.ntmps49
    go_wp2_with fail
    refine hp.mono ?_
    rintro e w1 ⟨va, ja, ea, rfl, ⟨rfl, rfl, A1, rfl⟩, u1⟩
    go_wp2_with fail
    go_ret3
    exact ⟨_, _, _, rfl, ⟨rfl, rfl, A1, rfl⟩, u1⟩
  | inl r =>
    obtain ⟨a, j⟩ := r
    rw [hP] at hp hst hah
    have hjl : j ≤ l.length := hst.1
    have hij : i < j := hah
    have cK := fun (W : World) (u : Up w W) => refKey l (j : Int) kArrow W v (HV.out.up u)
    have hkz : keyZ l (j : Int) kArrow = key l j kArrow := by unfold keyZ; rw [decide_eq_true (by omega), Int.toNat_natCast, Bool.true_and]
    rw [hkz] at cK
    have HS : Hid (typS kArrow 5 l (.inl (a, j)) (typL B.nck B.long l) = if key l j kArrow then (match typL B.nck B.long l (j + 1) with
      | .inr e => .inr e
      | .inl (b, q) => .inl (nd 5 nob (fr2 a b), q)) else .inl (a, j)) := Lib.hid rfl
    rw [HS.out]
    cases hk : key l j kArrow with
    | false =>
      rw [hk] at cK
      rw [if_neg (by decide)]
      clear hah hP hst cP cT hv HE HS hkz
      go_enter Tryz.func49, Tryz.ntmps49
      go_wp2_with fail
      refine hp.mono ?_
      rintro e w1 ⟨va, ja, ea, rfl, ⟨h1, rfl, rfl⟩, u1⟩
      go_wp2_with fail
      refine (cK w1 u1).mono ?_
      rintro e w2 ⟨rfl, u2⟩
      go_wp2_with fail
      go_ret3
      exact ⟨_, _, _, rfl, ⟨h1.up u2, rfl, rfl⟩, u1.trans u2⟩
    | true =>
      rw [hk] at cK
      rw [if_pos rfl]
      have hlt := key_lt hk
      have cB := HT.out (j + 1) (by omega) (by omega)
      clear hah hP hst cP cT hv HE HS hkz
      cases hB : typL B.nck B.long l (j + 1) with
      | inr e =>
        obtain ⟨p, er⟩ := e
        rw [hB] at cB
        clear hB
        go_enter Tryz.func49, Tryz.ntmps49
        go_wp2_with fail
        refine hp.mono ?_
        rintro e w1 ⟨va, ja, ea, rfl, ⟨h1, rfl, rfl⟩, u1⟩
        obtain ⟨q1, o1, rfl⟩ := InT.ptr h1
        go_wp2_with fail
        refine (cK w1 u1).mono ?_
        rintro e w2 ⟨rfl, u2⟩
        go_wp2_with fail
        refine (cB w2 (u1.trans u2)).mono ?_
        rintro e w3 ⟨vb, jb, eb, rfl, ⟨rfl, rfl, A2, rfl⟩, u3⟩
        go_wp2_with fail
        refine (refNode 5 nob _ _ _ _).mono ?_
        rintro e w4 ⟨rfl, rfl⟩
        go_wp2_with fail
        go_ret3
        exact ⟨_, _, _, rfl, ⟨rfl, rfl, _, rfl⟩, ((((u1.trans u2).trans u3).alloc _).alloc _)⟩
      | inl r =>
        obtain ⟨b, q⟩ := r
        rw [hB] at cB
        clear hB
        go_enter Tryz.func49, Tryz.ntmps49
        go_wp2_with fail
        refine hp.mono ?_
        rintro e w1 ⟨va, ja, ea, rfl, ⟨h1, rfl, rfl⟩, u1⟩
        obtain ⟨q1, o1, rfl⟩ := InT.ptr h1
        go_wp2_with fail
        refine (cK w1 u1).mono ?_
        rintro e w2 ⟨rfl, u2⟩
        go_wp2_with fail
        refine (cB w2 (u1.trans u2)).mono ?_
        rintro e w3 ⟨vb, jb, eb, rfl, ⟨h3, rfl, rfl⟩, u3⟩
        obtain ⟨q2, o2, rfl⟩ := InT.ptr h3
        have hn2 := two_has (k := 5) (((u1.trans u2).trans u3).size) (h1.up (u2.trans u3)) (h3.base (u1.trans u2).size)
        go_wp2_with fail
        refine (refNode 5 nob _ _ _ _).mono ?_
        rintro e w4 ⟨rfl, rfl⟩
        go_wp2_with fail
        go_ret3
        exact ⟨_, _, _, rfl, ⟨hn2, rfl, rfl⟩, ((((u1.trans u2).trans u3).alloc _).alloc _)⟩
set_option maxHeartbeats 3200000 in
set_option maxRecDepth 100000 in
theorem ref_product (l : List Tk) (i : Nat) (hi : i ≤ l.length) (hl : l.length ≤ 1000000) (w : World) (v : Value) (hv : Tkm w v l)
    (cP : ∀ w', Up w w' → Calls Tryz.prog 165 #[v, .int .i64 (i : Int)] w' (RsPost (atomL B.nck B.long l i) w'))
    (cT : ∀ j, i < j → j ≤ l.length → ∀ w', Up w w' → Calls Tryz.prog 87 #[v, .int .i64 (j : Int)] w' (RsPost (prodL B.nck B.long l j) w')) :
    Calls Tryz.prog 87 #[v, .int .i64 (i : Int)] w (RsPost (prodL B.nck B.long l i) w) := by
  have HV := Lib.hid hv
  have HT := Lib.hid cT
  have hp := cP w (Up.refl w)
  have hst := atomL_le (nk := B.nck) (lg := B.long) l i hi
  have hah := atomL_ahead (nk := B.nck) (lg := B.long) l i
  have HE := Lib.hid (prodL_eq (nk := B.nck) (lg := B.long) l i)
  rw [HE.out]
  cases hP : atomL B.nck B.long l i with
  | inr e =>
    obtain ⟨p, er⟩ := e
    rw [hP] at hp hst
    obtain ⟨hpl, her⟩ := hst
    have hne : ¬ er = 0 := her p er rfl
    have hpl : p ≤ l.length := hpl
    clear hah hP cP cT hv HE
    go_enter Tryz.func87, Tryz.ntmps87
    go_wp2_with fail
    refine hp.mono ?_
    rintro e w1 ⟨va, ja, ea, rfl, ⟨rfl, rfl, A1, rfl⟩, u1⟩
    go_wp2_with fail
    go_ret3
    exact ⟨_, _, _, rfl, ⟨rfl, rfl, A1, rfl⟩, u1⟩
  | inl r =>
    obtain ⟨a, j⟩ := r
    rw [hP] at hp hst hah
    have hjl : j ≤ l.length := hst.1
    have hij : i < j := hah
    have cK := fun (W : World) (u : Up w W) => refKey l (j : Int) kStar W v (HV.out.up u)
    have hkz : keyZ l (j : Int) kStar = key l j kStar := by unfold keyZ; rw [decide_eq_true (by omega), Int.toNat_natCast, Bool.true_and]
    rw [hkz] at cK
    have HS : Hid (typS kStar 6 l (.inl (a, j)) (prodL B.nck B.long l) = if key l j kStar then (match prodL B.nck B.long l (j + 1) with
      | .inr e => .inr e
      | .inl (b, q) => .inl (nd 6 nob (fr2 a b), q)) else .inl (a, j)) := Lib.hid rfl
    rw [HS.out]
    cases hk : key l j kStar with
    | false =>
      rw [hk] at cK
      rw [if_neg (by decide)]
      clear hah hP hst cP cT hv HE HS hkz
      go_enter Tryz.func87, Tryz.ntmps87
      go_wp2_with fail
      refine hp.mono ?_
      rintro e w1 ⟨va, ja, ea, rfl, ⟨h1, rfl, rfl⟩, u1⟩
      go_wp2_with fail
      refine (cK w1 u1).mono ?_
      rintro e w2 ⟨rfl, u2⟩
      go_wp2_with fail
      go_ret3
      exact ⟨_, _, _, rfl, ⟨h1.up u2, rfl, rfl⟩, u1.trans u2⟩
    | true =>
      rw [hk] at cK
      rw [if_pos rfl]
      have hlt := key_lt hk
      have cB := HT.out (j + 1) (by omega) (by omega)
      clear hah hP hst cP cT hv HE HS hkz
      cases hB : prodL B.nck B.long l (j + 1) with
      | inr e =>
        obtain ⟨p, er⟩ := e
        rw [hB] at cB
        clear hB
        go_enter Tryz.func87, Tryz.ntmps87
        go_wp2_with fail
        refine hp.mono ?_
        rintro e w1 ⟨va, ja, ea, rfl, ⟨h1, rfl, rfl⟩, u1⟩
        obtain ⟨q1, o1, rfl⟩ := InT.ptr h1
        go_wp2_with fail
        refine (cK w1 u1).mono ?_
        rintro e w2 ⟨rfl, u2⟩
        go_wp2_with fail
        refine (cB w2 (u1.trans u2)).mono ?_
        rintro e w3 ⟨vb, jb, eb, rfl, ⟨rfl, rfl, A2, rfl⟩, u3⟩
        go_wp2_with fail
        refine (refNode 6 nob _ _ _ _).mono ?_
        rintro e w4 ⟨rfl, rfl⟩
        go_wp2_with fail
        go_ret3
        exact ⟨_, _, _, rfl, ⟨rfl, rfl, _, rfl⟩, ((((u1.trans u2).trans u3).alloc _).alloc _)⟩
      | inl r =>
        obtain ⟨b, q⟩ := r
        rw [hB] at cB
        clear hB
        go_enter Tryz.func87, Tryz.ntmps87
        go_wp2_with fail
        refine hp.mono ?_
        rintro e w1 ⟨va, ja, ea, rfl, ⟨h1, rfl, rfl⟩, u1⟩
        obtain ⟨q1, o1, rfl⟩ := InT.ptr h1
        go_wp2_with fail
        refine (cK w1 u1).mono ?_
        rintro e w2 ⟨rfl, u2⟩
        go_wp2_with fail
        refine (cB w2 (u1.trans u2)).mono ?_
        rintro e w3 ⟨vb, jb, eb, rfl, ⟨h3, rfl, rfl⟩, u3⟩
        obtain ⟨q2, o2, rfl⟩ := InT.ptr h3
        have hn2 := two_has (k := 6) (((u1.trans u2).trans u3).size) (h1.up (u2.trans u3)) (h3.base (u1.trans u2).size)
        go_wp2_with fail
        refine (refNode 6 nob _ _ _ _).mono ?_
        rintro e w4 ⟨rfl, rfl⟩
        go_wp2_with fail
        go_ret3
        exact ⟨_, _, _, rfl, ⟨hn2, rfl, rfl⟩, ((((u1.trans u2).trans u3).alloc _).alloc _)⟩
end Go.Proofs.YthonaeigacfmbaaGreatDoor
namespace Go.Proofs.YthonaeigacfmbaaGreatDoor

def rowF (l : List Tk) (m : ByteArray) (part : Fr → Nat → Rs Tr) : Nat → Fr → Nat → Rs Fr
  | 0, _, i => .inr (i, 6)
  | n + 1, acc, i => match part acc i with
    | .inr e => .inr e
    | .inl (t, j) => if key l j m then rowF l m part n (acc.app (fr1 t)) (j + 1) else .inl (acc.app (fr1 t), j)
def rowS (l : List Tk) (m : ByteArray) (r : Rs Tr) (acc : Fr) (R : Fr → Nat → Rs Fr) : Rs Fr := match r with
  | .inr e => .inr e
  | .inl (t, j) => if key l j m then R (acc.app (fr1 t)) (j + 1) else .inl (acc.app (fr1 t), j)
theorem rowF_s (l : List Tk) (m : ByteArray) (part : Fr → Nat → Rs Tr) (n : Nat) (acc : Fr) (i : Nat) : rowF l m part (n + 1) acc i = rowS l m (part acc i) acc (rowF l m part n) := by rw [rowF]; rfl
theorem rowF_more {l : List Tk} {m : ByteArray} {part : Fr → Nat → Rs Tr} (ha : ∀ acc i, Ahead i (part acc i)) : ∀ (n : Nat) (acc : Fr) (i : Nat), i ≤ l.length → l.length + 1 - i ≤ n → rowF l m part (n + 1) acc i = rowF l m part n acc i
  | 0, acc, i, hi, hn => by omega
  | n + 1, acc, i, hi, hn => by
    rw [rowF_s, rowF_s]
    unfold rowS
    have h1 := ha acc i
    cases h : part acc i with
    | inr e => rfl
    | inl r =>
      obtain ⟨t, j⟩ := r
      rw [h] at h1
      have h1 : i < j := h1
      simp only
      split
      · rename_i hk
        have := key_lt hk
        exact rowF_more ha n _ _ (by omega) (by omega)
      · rfl
theorem rowF_le {l : List Tk} {m : ByteArray} {part : Fr → Nat → Rs Tr} (ha : ∀ acc i, Ahead i (part acc i)) {n : Nat} {acc : Fr} {i : Nat} (hi : i ≤ l.length) (hn : l.length + 1 - i ≤ n) : ∀ d, rowF l m part (n + d) acc i = rowF l m part n acc i
  | 0 => rfl
  | d + 1 => by rw [← Nat.add_assoc, rowF_more ha _ _ _ hi (by omega), rowF_le ha hi hn d]
def rowL (l : List Tk) (m : ByteArray) (part : Fr → Nat → Rs Tr) (acc : Fr) (i : Nat) : Rs Fr := rowF l m part (l.length + 1) acc i
theorem rowL_eq {l : List Tk} {m : ByteArray} {part : Fr → Nat → Rs Tr} (ha : ∀ acc i, Ahead i (part acc i)) (acc : Fr) (i : Nat) (hi : i ≤ l.length) : rowL l m part acc i = rowS l m (part acc i) acc (rowL l m part) := by
  have h : rowL l m part acc i = rowF l m part (l.length + 1 + 1) acc i := (rowF_le ha hi (by omega) 1).symm
  rw [h, rowF_s]
  rfl
def foldK (k : Int) : Fr → Tr
  | .nil => nd k nob .nil
  | .cons x f r => if r.len = 0 then (x, f) else nd k nob (fr2 (x, f) (foldK k r))
theorem foldK_two (k : Int) (t : Tr) {r : Fr} (h : 0 < r.len) : foldK k ((fr1 t).app r) = nd k nob (fr2 t (foldK k r)) := by
  show (if (Fr.app .nil r).len = 0 then _ else _) = _
  rw [if_neg (by show ¬ r.len = 0; omega)]
  rfl
def toT (k : Int) : Rs Fr → Rs Tr
  | .inr e => .inr e
  | .inl (f, j) => .inl (foldK k f, j)
def mapF (a : Fr) : Rs Fr → Rs Fr
  | .inr e => .inr e
  | .inl (f, j) => .inl (a.app f, j)
section
variable {l : List Tk} {m : ByteArray} {P : Nat → Rs Tr}
theorem rowL_acc (ha : ∀ i, Ahead i (P i)) : ∀ (d : Nat) (acc : Fr) (i : Nat), l.length - i ≤ d → i ≤ l.length → rowL l m (fun _ => P) acc i = mapF acc (rowL l m (fun _ => P) .nil i)
  | d, acc, i, hd, hi => by
    have h1 := ha i
    rw [rowL_eq (fun _ => ha) acc i hi, rowL_eq (fun _ => ha) .nil i hi]
    unfold rowS
    cases h : P i with
    | inr e => rfl
    | inl r =>
      obtain ⟨t, j⟩ := r
      rw [h] at h1
      have h1 : i < j := h1
      simp only
      split
      · rename_i hk
        have := key_lt hk
        cases d with
        | zero => omega
        | succ d =>
          rw [rowL_acc ha d _ (j + 1) (by omega) (by omega), rowL_acc ha d (Fr.app .nil (fr1 t)) (j + 1) (by omega) (by omega)]
          cases rowL l m (fun _ => P) .nil (j + 1) with
          | inr e => rfl
          | inl q => show Sum.inl (_, _) = Sum.inl (_, _); rw [Fr.app_assoc]; rfl
      · rfl
theorem rowL_ne (ha : ∀ i, Ahead i (P i)) : ∀ (d : Nat) (i : Nat), l.length - i ≤ d → i ≤ l.length → ∀ f j, rowL l m (fun _ => P) .nil i = .inl (f, j) → 0 < f.len
  | d, i, hd, hi, f, j, h => by
    have h1 := ha i
    rw [rowL_eq (fun _ => ha) .nil i hi] at h
    unfold rowS at h
    cases hp : P i with
    | inr e => rw [hp] at h; cases h
    | inl r =>
      obtain ⟨t, q⟩ := r
      rw [hp] at h h1
      have h1 : i < q := h1
      simp only at h
      split at h
      · rename_i hk
        have := key_lt hk
        rw [rowL_acc ha (l.length - (q + 1)) _ (q + 1) (Nat.le_refl _) (by omega)] at h
        cases hr : rowL l m (fun _ => P) .nil (q + 1) with
        | inr e => rw [hr] at h; cases h
        | inl s =>
          rw [hr] at h
          have h := Sum.inl.inj h
          have h := congrArg Prod.fst h
          have h : (Fr.app .nil (fr1 t)).app s.1 = f := h
          rw [← h, Fr.len_app]
          show 0 < 1 + _
          omega
      · have h := congrArg Prod.fst (Sum.inl.inj h)
        have h : Fr.app .nil (fr1 t) = f := h
        rw [← h]
        exact Nat.succ_pos _
theorem toT_row {k : Int} {T : Nat → Rs Tr} (ha : ∀ i, Ahead i (P i)) (hT : ∀ i, T i = typS m k l (P i) T) : ∀ (d : Nat) (i : Nat), l.length - i ≤ d → i ≤ l.length → toT k (rowL l m (fun _ => P) .nil i) = T i
  | d, i, hd, hi => by
    have h1 := ha i
    rw [rowL_eq (fun _ => ha) .nil i hi, hT i]
    unfold rowS typS
    cases h : P i with
    | inr e => rfl
    | inl r =>
      obtain ⟨t, j⟩ := r
      rw [h] at h1
      have h1 : i < j := h1
      simp only
      split
      · rename_i hk
        have := key_lt hk
        cases d with
        | zero => omega
        | succ d =>
          have ih := toT_row (k := k) ha hT d (j + 1) (by omega) (by omega)
          rw [rowL_acc ha d _ (j + 1) (by omega) (by omega), ← ih]
          cases hr : rowL l m (fun _ => P) .nil (j + 1) with
          | inr e => rfl
          | inl q =>
            obtain ⟨f, q⟩ := q
            have hne := rowL_ne ha d (j + 1) (by omega) (by omega) f q hr
            show Sum.inl (foldK k ((fr1 t).app f), q) = Sum.inl (nd k nob (fr2 t (foldK k f)), q)
            rw [foldK_two k t hne]
      · rfl
end
section
variable {nk lg : ByteArray → Bool}
theorem typL_row (l : List Tk) (i : Nat) (hi : i ≤ l.length) : toT 5 (rowL l kArrow (fun _ => prodL nk lg l) .nil i) = typL nk lg l i := toT_row (prodL_ahead l) (typL_eq l) _ i (Nat.le_refl _) hi
theorem prodL_row (l : List Tk) (i : Nat) (hi : i ≤ l.length) : toT 6 (rowL l kStar (fun _ => atomL nk lg l) .nil i) = prodL nk lg l i := toT_row (atomL_ahead l) (prodL_eq l) _ i (Nat.le_refl _) hi
def conS (nk lg : ByteArray → Bool) (l : List Tk) (acc : Fr) (i : Nat) : Rs Tr := match nam nk l i with
  | none => .inr (i, 6)
  | some s => if hasN acc s then .inr (i, 9) else if key l (i + 1) kOf then (match typL nk lg l (i + 2) with
    | .inr e => .inr e
    | .inl (t, j) => .inl (nd 8 s (fr1 t), j)) else .inr (i + 1, 6)
theorem conS_ahead (l : List Tk) (acc : Fr) (i : Nat) : Ahead i (conS nk lg l acc i) := by
  have h1 := typL_ahead (nk := nk) (lg := lg) l (i + 2)
  unfold conS
  split
  · exact Nat.le_refl _
  · split
    · exact Nat.le_refl _
    · split
      · cases h : typL nk lg l (i + 2) with
        | inr e => rw [h] at h1; have h1 : i + 2 ≤ e.1 := h1; show i ≤ e.1; omega
        | inl r => rw [h] at h1; have h1 : i + 2 < r.2 := h1; show i < r.2; omega
      · show i ≤ i + 1; omega
theorem consL_step (l : List Tk) (acc : Fr) (i : Nat) : consL nk lg l i acc = rowS l kBar (conS nk lg l acc i) acc fun a j => consL nk lg l j a := by
  rw [consL_eq]
  unfold consS conS rowS
  cases nam nk l i with
  | none => rfl
  | some s =>
    simp only
    split
    · rfl
    · split
      · cases typL nk lg l (i + 2) with
        | inr e => rfl
        | inl r => rfl
      · rfl
end
end Go.Proofs.YthonaeigacfmbaaGreatDoor
