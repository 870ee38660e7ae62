/-
  Layer 10, the program's side: the parts of records and sums.
-/
import Derived.Test.YtmiicfdigkkbdaaDoorGt08
import Derived.Test.YtmiicfdigkkbdaaDoorGt25
import Derived.Maps.OwnSet
namespace Go.Proofs.YtmiicfdigkkbdaaDoor
open Go.RowKit

def IxP (b : Bool) (W : World) (e : Ending) (w' : World) : Prop := ∃ z : Int, e = .returned (.int .i64 z) ∧ -1 ≤ z ∧ z ≤ 1000000000 ∧ decide (0 ≤ z) = b ∧ Up W w'
theorem ixp {z : Int} {b : Bool} {W w' : World} (h0 : -1 ≤ z) (h1 : z ≤ 1000000000) (h : decide (0 ≤ z) = b) (u : Up W w') : IxP b W (.returned (.int .i64 z)) w' := ⟨z, rfl, h0, h1, h, u⟩
def Fr.sma (f : Fr) : Prop := ∀ (j : Nat) (t : Tr), f.get j = some t → t.1.a.size ≤ 1000000000
set_option maxHeartbeats 6400000 in
set_option maxRecDepth 100000 in
theorem pIndex {n : Nat} (hco : CnAt n) (hbig : n ≤ 1000000000) (m : Nat) (h0 : m ≠ 0) (h1 : m ≠ 1) {w : World} {Sq : Nat → Prop} {A : Option Addr} {c : Nat} {ks : Fr} (hS : Bel Sq w.heap.size) (hkid : Kid w Sq A ks 0) (hz : ks.sz ≤ n) (Bk : Nat) (hB : w.cell? ⟨Bk, 0, none⟩ = some (.int .i64 (fdK m))) :
    Calls Tryd.prog 95 #[.slice A ks.len c, .func (.func 87) #[] #[.pointer (some ⟨Bk, 0, none⟩)]] w (IxP (!coF m ks) w) := by
  have hll := Fr.len_le ks
  obtain ⟨N, hN⟩ : ∃ N, ks.len = N := ⟨_, rfl⟩
  rw [hN] at hll ⊢
  have hN1 : N ≤ 1000000000 := by omega
  have HK := Lib.hid hkid
  have HNN := Lib.hid hN
  have HSZ := Lib.hid hz
  have HCO := Lib.hid hco
  have HBEL := Lib.hid hS
  have HAPP := Lib.hid (fun a b => coF_app (m := m) h1 a b)
  have HF := Lib.hid (fun x k r => coF_f (m := m) h0 h1 x k r)
  obtain ⟨R, hR⟩ : ∃ R, (!coF m ks) = R := ⟨_, rfl⟩
  have HR := Lib.hid hR
  have HNIL : Hid (coF m .nil = true) := Lib.hid rfl
  obtain ⟨kd, hkd⟩ : ∃ R, fdK m = R := ⟨_, rfl⟩
  have HKD := Lib.hid hkd
  rw [hR]
  clear hkid hN hz hco hR hll hS  h0 h1 hkd
  go_enter Tryd.func95, Tryd.ntmps95
  go_wp2_with fail
  go_loopw [5, 8] (fun _ i wr => Up w wr ∧ ∃ (k : Nat) (done rest : Fr), i = .int .i64 k ∧ k = done.len ∧ ks = done.app rest ∧ coF m done = true ∧ Kid wr Sq A rest k) (fun _ i _ => N - (intOf i).toNat)
  case atStart => exact ⟨Up.refl _, 0, .nil, ks, rfl, rfl, rfl, HNIL.out, HK.out⟩
  case round =>
    obtain ⟨hu, k, done, rest, rfl, hk, hks, hok, hkid⟩ := hrel
    have hl : N = done.len + rest.len := by rw [← HNN.out, hks, Fr.len_app]
    have hs : ks.sz = done.sz + rest.sz := by rw [hks, Fr.sz_app]
    have hsz := HSZ.out
    have HKS := Lib.hid hks
    have HOK := Lib.hid hok
    have HU := Lib.hid hu
    by_cases hlt : 0 < rest.len
    · obtain ⟨y, l, r, rfl⟩ := Fr.cut hlt
      obtain ⟨kb, ko, u, rfl, hkb, hcell, hut, hnext⟩ := hkid.next
      have hsr : (Fr.cons y l r).sz = 1 + l.sz + r.sz := rfl
      have hlr : (Fr.cons y l r).len = r.len + 1 := rfl
      have hkN : k < N := by omega
      have hkz : (k : Int) < (N : Int) := by omega
      have hget : ks.get k = some (y, l) := by rw [hks, hk, Fr.get_app]; rfl
      have cI := pParts1 HCO.out hbig m (w := wr) (fun q h => Nat.lt_of_lt_of_le (HBEL.out q h) hu.size) hut (by omega) Bk (hu.cell hB)
      have HN1 := Lib.hid hnext
      have HK1 := Lib.hid hk
      obtain ⟨b, hb⟩ : ∃ b, fdT m (y, l) = b := ⟨_, rfl⟩
      rw [hb] at cI
      have HB := Lib.hid hb
      clear hkid hnext hut hks hk hl hlr hok hu hget hb hs hsr hsz
      cases b with
      | false =>
        have HX : Hid (R = true) := Lib.hid (by rw [← HR.out, HKS.out, HAPP.out, HOK.out, HF.out, HB.out]; rfl)
        go_wp2_with (go_at_call 87; refine cI.mono ?_; rintro e w2 ⟨rfl, u2⟩)
        go_ret
        exact ixp (by omega) (by omega) (by rw [HX.out, decide_eq_true (by omega)]) (HU.out.trans u2)
      | true =>
        have HX : Hid (coF m (done.app (.cons y l .nil)) = true) := Lib.hid (by rw [HAPP.out, HOK.out, HF.out, HB.out, HNIL.out]; rfl)
        go_wp2_with (go_at_call 87; refine cI.mono ?_; rintro e w2 ⟨rfl, u2⟩; have U2 := Lib.hid u2; clear u2 cI)
        go_roundw
        case rel => exact ⟨HU.out.trans U2.out, k + 1, done.app (.cons y l .nil), r, by go_num, by rw [Fr.len_app, HK1.out]; rfl, by rw [HKS.out, Fr.app_cons], HX.out, HN1.out.keep (fun _ h => h) fun b hb => U2.out.block b (Nat.lt_of_lt_of_le (HBEL.out b hb) HU.out.size)⟩
        case measure => simp [intOf]; omega
    · have h0 : rest = .nil := by
        cases rest with
        | nil => rfl
        | cons y l r => exact absurd (Nat.succ_pos _) hlt
      subst h0
      have hl' : N = done.len := by simpa [Fr.len] using hl
      have hkz : ¬ (k : Int) < (N : Int) := by omega
      have HX : Hid (R = false) := Lib.hid (by rw [← HR.out, HKS.out, HAPP.out, HOK.out, HNIL.out]; rfl)
      clear hkid hks hk hl hl' hok hu hs hsz
      go_wp2_with fail
      go_ret
      exact ixp (by omega) (by omega) (by rw [HX.out]; rfl) HU.out
set_option maxHeartbeats 3200000 in
set_option maxRecDepth 100000 in
theorem pContains {n : Nat} (hco : CnAt n) (hbig : n ≤ 1000000000) (m : Nat) (h0 : m ≠ 0) (h1 : m ≠ 1) {w : World} {Sq : Nat → Prop} {A : Option Addr} {c : Nat} {ks : Fr} (hS : Bel Sq w.heap.size) (hkid : Kid w Sq A ks 0) (hz : ks.sz ≤ n) (Bk : Nat) (hB : w.cell? ⟨Bk, 0, none⟩ = some (.int .i64 (fdK m))) :
    Calls Tryd.prog 86 #[.slice A ks.len c, .func (.func 87) #[] #[.pointer (some ⟨Bk, 0, none⟩)]] w (BoP (!coF m ks) w) := by
  have cI := pIndex hco hbig m h0 h1 hS hkid hz Bk hB (c := c)
  obtain ⟨b, hb⟩ : ∃ b, (!coF m ks) = b := ⟨_, rfl⟩
  obtain ⟨N, hN⟩ : ∃ b, ks.len = b := ⟨_, rfl⟩
  rw [hb, hN] at cI
  rw [hb, hN]
  clear hb hN hz hkid  hB
  go_enter Tryd.func86, Tryd.ntmps86
  go_wp2_with fail
  refine cI.mono ?_
  rintro e w1 ⟨z, rfl, h0, h1, hz, hb1⟩
  have HZ := Lib.hid hz
  clear hz
  go_wp2_with fail
  go_ret
  exact bo_r HZ.out.symm hb1
set_option maxHeartbeats 3200000 in
set_option maxRecDepth 100000 in
theorem pParts {n : Nat} (hco : CnAt n) (hbig : n ≤ 1000000000) (m : Nat) (h0 : m ≠ 0) (h1 : m ≠ 1) {w : World} {Sq : Nat → Prop} {v : Value} {x : Nod} {ks : Fr} (hS : Bel Sq w.heap.size) (hin : InT w Sq v (x, ks)) (hz : ks.sz ≤ n) :
    Calls Tryd.prog 66 #[v, .int .i64 (fdK m)] w (BoP (coF m ks) w) := by
  obtain ⟨W0, hW0⟩ : ∃ W0, w.alloc (.cells #[.int .i64 (fdK m)] 3) = W0 := ⟨_, rfl⟩
  have u0 : Up w W0 := by rw [← hW0]; exact (Up.refl w).alloc _
  have cB : W0.cell? ⟨w.heap.size, 0, none⟩ = some (.int .i64 (fdK m)) := by rw [← hW0]; exact cell_of_row _ w.heap.size 0 _ _ _ (heap_alloc_new w _)
  have hin0 : InT W0 Sq v (x, ks) := hin.keep (fun _ h => h) fun b hb => u0.block b (hS b hb)
  obtain ⟨q, p, A, c, rfl, hq1, c0, c1, c2, c3, c4, hc, hkid⟩ := hin0.open
  have cI := pContains hco hbig m h0 h1 (fun q h => Nat.lt_of_lt_of_le (hS q h) u0.size) hkid hz w.heap.size cB (c := c)
  obtain ⟨b, hb⟩ : ∃ b, coF m ks = b := ⟨_, rfl⟩
  obtain ⟨N, hN⟩ : ∃ b, ks.len = b := ⟨_, rfl⟩
  obtain ⟨kd, hkd⟩ : ∃ R, fdK m = R := ⟨_, rfl⟩
  rw [hb, hN] at cI
  rw [hN] at c4
  rw [hkd] at hW0
  rw [hb, hkd]
  have k4 : (w.alloc (.cells #[.int .i64 kd] 3)).cell? ⟨q, p + 4, none⟩ = some (.slice A N c) := by rw [hW0]; exact c4
  have HW0 := Lib.hid hW0
  have HU := Lib.hid u0
  clear hb hN hz hkid cB hin hin0 hS hW0 u0 hkd c0 c1 c2 c3 hc
  go_enter Tryd.func66, Tryd.ntmps66
  go_wp2_with fail
  rw [HW0.out]
  refine cI.mono ?_
  rintro e w1 ⟨rfl, u1⟩
  go_wp2_with fail
  go_ret
  exact bo_r (by cases b <;> rfl) (HU.out.trans u1)
end Go.Proofs.YtmiicfdigkkbdaaDoor
namespace Go.Proofs.YtmiicfdigkkbdaaDoor
open Go.RowKit Go.Maps

/-! ### plain -/
theorem bl_irr : ∀ l : List UInt8, Op.bytesLess l l = false
  | [] => rfl
  | a :: l => by
    show (decide (a < a) || (a == a && Op.bytesLess l l)) = false
    rw [bl_irr l, Bool.and_false, Bool.or_false, decide_eq_false_iff_not]
    exact UInt8.lt_irrefl a
theorem bl_tr : ∀ {a b c : List UInt8}, Op.bytesLess a b = true → Op.bytesLess b c = true → Op.bytesLess a c = true
  | _, [], _, h, _ => by unfold Op.bytesLess at h; cases h
  | _, _ :: _, [], _, h => by unfold Op.bytesLess at h; cases h
  | [], _ :: _, _ :: _, _, _ => rfl
  | x :: a, y :: b, z :: c, h1, h2 => by
    have h1 : (decide (x < y) || (x == y && Op.bytesLess a b)) = true := h1
    have h2 : (decide (y < z) || (y == z && Op.bytesLess b c)) = true := h2
    show (decide (x < z) || (x == z && Op.bytesLess a c)) = true
    simp only [Bool.or_eq_true, decide_eq_true_eq, Bool.and_eq_true, beq_iff_eq] at h1 h2 ⊢
    rcases h1 with h1 | ⟨h1, h1'⟩
    · rcases h2 with h2 | ⟨h2, _⟩
      · exact .inl (UInt8.lt_trans h1 h2)
      · exact .inl (h2 ▸ h1)
    · rcases h2 with h2 | ⟨h2, h2'⟩
      · exact .inl (h1 ▸ h2)
      · exact .inr ⟨h1.trans h2, bl_tr h1' h2'⟩
def lsR (rise : Bool) (p s : List UInt8) : Bool := if rise then Op.bytesLess p s else !(p == s)
theorem lsR_of (rise : Bool) (p s : List UInt8) : (!(p == s || (rise && !(Op.bytesLess p s || p == s)))) = lsR rise p s := by
  unfold lsR
  cases rise with
  | false => simp
  | true =>
    cases h : Op.bytesLess p s with
    | true =>
      have : (p == s) = false := by
        rw [beq_eq_false_iff_ne]
        rintro rfl
        rw [bl_irr] at h
        cases h
      rw [this]
      rfl
    | false => cases (p == s) <;> rfl
theorem lbOk_all (rise : Bool) (s : ByteArray) : ∀ pre : List ByteArray, lbOk rise pre s = pre.all fun p => lsR rise p.toList s.toList
  | [] => rfl
  | p :: q => by
    show (!(p.toList == s.toList || (rise && !(Op.bytesLess p.toList s.toList || p.toList == s.toList))) && lbOk rise q s) = _
    rw [lsR_of, lbOk_all rise s q]
    rfl
theorem lbF_pw (rise : Bool) {f : Fr} : ∀ {pre : List ByteArray}, lbF rise pre f = true ↔ (∀ p ∈ pre, ∀ s ∈ f.nms, lsR rise p.toList s.toList = true) ∧ f.nms.Pairwise fun p s => lsR rise p.toList s.toList = true := by
  induction f with
  | nil => intro pre; exact ⟨fun _ => ⟨fun _ _ s hs => (by cases hs), .nil⟩, fun _ => rfl⟩
  | cons x k r _ ih =>
    intro pre
    show (lbOk rise pre x.a && lbF rise (pre ++ [x.a]) r) = true ↔ (∀ p ∈ pre, ∀ s ∈ x.a :: r.nms, _) ∧ (x.a :: r.nms).Pairwise _
    rw [Bool.and_eq_true, ih, lbOk_all, List.all_eq_true, List.pairwise_cons]
    constructor
    · rintro ⟨h1, h2, h3⟩
      refine ⟨fun p hp s hs => ?_, fun s hs => h2 _ (by simp) s hs, h3⟩
      rcases List.mem_cons.1 hs with rfl | hs
      · exact h1 p hp
      · exact h2 p (by simp [hp]) s hs
    · rintro ⟨h1, h2, h3⟩
      refine ⟨fun p hp => h1 p hp _ (by simp), fun p hp s hs => ?_, h3⟩
      rcases List.mem_append.1 hp with hp | hp
      · exact h1 p hp s (by simp [hs])
      · rw [List.mem_singleton.1 hp]; exact h2 s hs
def riN : List ByteArray → Bool
  | a :: b :: l => Op.bytesLess a.toList b.toList && riN (b :: l)
  | _ => true
theorem riN_pw : ∀ l : List ByteArray, riN l = true ↔ l.Pairwise fun p s => lsR true p.toList s.toList = true
  | [] => ⟨fun _ => .nil, fun _ => rfl⟩
  | [a] => ⟨fun _ => List.pairwise_singleton _ _, fun _ => rfl⟩
  | a :: b :: l => by
    show (Op.bytesLess a.toList b.toList && riN (b :: l)) = true ↔ _
    rw [Bool.and_eq_true, riN_pw (b :: l)]
    constructor
    · rintro ⟨h1, h2⟩
      refine List.pairwise_cons.2 ⟨fun s hs => ?_, h2⟩
      rcases List.mem_cons.1 hs with rfl | hs
      · exact h1
      · exact bl_tr (b := b.toList) h1 ((List.pairwise_cons.1 h2).1 s hs)
    · intro h
      obtain ⟨h1, h2⟩ := List.pairwise_cons.1 h
      exact ⟨h1 b (by simp), h2⟩
theorem ri_lb (f : Fr) : riN f.nms = lbF true [] f := by
  cases h : lbF true [] f with
  | true => exact (riN_pw _).2 ((lbF_pw true).1 h).2
  | false =>
    cases h' : riN f.nms with
    | false => rfl
    | true =>
      rw [(lbF_pw true).2 ⟨fun p hp => (by cases hp), (riN_pw _).1 h'⟩] at h
      cases h
theorem riN_bad : ∀ {l : List ByteArray} {j : Nat} {a b : ByteArray}, l[j]? = some a → l[j + 1]? = some b → Op.bytesLess a.toList b.toList = false → riN l = false
  | [], _, _, _, h, _, _ => by cases h
  | [_], 0, _, _, _, h, _ => by cases h
  | [_], j + 1, _, _, h, _, _ => by simp at h
  | x :: y :: l, 0, a, b, h1, h2, h => by
    simp at h1 h2
    subst h1 h2
    show (Op.bytesLess _ _ && _) = false
    rw [h]
    rfl
  | x :: y :: l, j + 1, a, b, h1, h2, h => by
    show (_ && riN (y :: l)) = false
    rw [riN_bad (l := y :: l) (j := j) (by simpa using h1) (by simpa using h2) h, Bool.and_false]
theorem riN_take : ∀ {l : List ByteArray} {j : Nat} {a b : ByteArray}, l[j]? = some a → l[j + 1]? = some b → Op.bytesLess a.toList b.toList = true → riN (l.take (j + 1)) = true → riN (l.take (j + 2)) = true
  | [], _, _, _, h, _, _, _ => by cases h
  | [_], 0, _, _, _, h, _, _ => by cases h
  | [_], j + 1, _, _, h, _, _, _ => by simp at h
  | x :: y :: l, 0, a, b, h1, h2, h, _ => by
    simp at h1 h2
    subst h1 h2
    show (Op.bytesLess _ _ && true) = true
    rw [h]
    rfl
  | x :: y :: l, j + 1, a, b, h1, h2, h, h3 => by
    have h3 : (Op.bytesLess x.toList y.toList && riN ((y :: l).take (j + 1))) = true := h3
    rw [Bool.and_eq_true] at h3
    show (Op.bytesLess x.toList y.toList && riN ((y :: l).take (j + 2))) = true
    rw [h3.1, riN_take (l := y :: l) (j := j) (by simpa using h1) (by simpa using h2) h h3.2]
    rfl
theorem riN_one (l : List ByteArray) : riN (l.take 1) = true := by
  cases l <;> rfl
/-! ### a set of names -/
def ky (s : ByteArray) : Lit := .string s.data.toList
def Snm (l : List ByteArray) : DataW Unit := Maps.setOf (.agg []) (l.map ky)
theorem ky_key (l : List ByteArray) : ∀ x ∈ l.map ky, WideAt.IsKeyLit x := by
  intro x hx
  obtain ⟨y, _, rfl⟩ := List.mem_map.1 hx
  exact trivial
theorem Snm_next (l : List ByteArray) (k : Nat) (y : ByteArray) (h : l[k]? = some y) : Snm (l.take (k + 1)) = (Snm (l.take k)).put (ky y) (.agg []) := by
  unfold Snm
  rw [List.take_add_one, h]
  show Maps.setOf _ ((l.take k ++ [y]).map ky) = _
  rw [List.map_append, List.map_cons, List.map_nil, Maps.setOf_snoc]
theorem add_le : ∀ (xs L : List Lit), (xs.foldl Maps.addKey L).length ≤ L.length + xs.length
  | [], L => Nat.le_refl _
  | x :: r, L => by
    have := add_le r (Maps.addKey L x)
    have h1 : (Maps.addKey L x).length ≤ L.length + 1 := by
      unfold Maps.addKey
      split
      · omega
      · simp
    show (r.foldl Maps.addKey (Maps.addKey L x)).length ≤ L.length + (r.length + 1)
    omega
theorem add_eq : ∀ (xs L : List Lit), (∀ x ∈ xs, WideAt.IsKeyLit x) → ((xs.foldl Maps.addKey L).length = L.length + xs.length ↔ (∀ y ∈ L, ∀ x ∈ xs, y ≠ x) ∧ xs.Pairwise (· ≠ ·))
  | [], L, _ => ⟨fun _ => ⟨fun _ _ _ hx => (by cases hx), .nil⟩, fun _ => rfl⟩
  | x :: r, L, hk => by
    have hx : WideAt.IsKeyLit x := hk x (by simp)
    show (r.foldl Maps.addKey (Maps.addKey L x)).length = L.length + (r.length + 1) ↔ _
    rw [List.pairwise_cons]
    unfold Maps.addKey
    by_cases ha : (L.any fun y => y.sameKey x) = true
    · rw [if_pos ha]
      obtain ⟨y, hy, hs⟩ := List.any_eq_true.1 ha
      have := add_le r L
      constructor
      · intro h
        have h : (r.foldl Maps.addKey L).length = L.length + (r.length + 1) := h
        omega
      · rintro ⟨h, _⟩
        exact absurd ((WideAt.sameKey_iff hx).1 hs) (h y hy x (by simp))
    · rw [if_neg ha]
      have ih := add_eq r (L ++ [x]) (fun y hy => hk y (by simp [hy]))
      rw [List.length_append, List.length_singleton] at ih
      rw [show L.length + (r.length + 1) = L.length + 1 + r.length by omega]
      refine Iff.trans ih ?_
      constructor
      · rintro ⟨h1, h2⟩
        refine ⟨fun y hy z hz => ?_, fun z hz => h1 x (by simp) z hz, h2⟩
        rcases List.mem_cons.1 hz with rfl | hz
        · rintro rfl
          exact ha (List.any_eq_true.2 ⟨y, hy, WideAt.sameKey_self hx⟩)
        · exact h1 y (by simp [hy]) z hz
      · rintro ⟨h1, h2, h3⟩
        refine ⟨fun y hy z hz => ?_, h3⟩
        rcases List.mem_append.1 hy with hy | hy
        · exact h1 y hy z (by simp [hz])
        · rw [List.mem_singleton.1 hy]; exact h2 z hz
theorem df_lb (f : Fr) : (Maps.size (Snm f.nms) == f.len) = lbF false [] f := by
  unfold Snm
  rw [Maps.size_setOf _ _ (ky_key _)]
  have h := add_eq (f.nms.map ky) [] (ky_key _)
  have hl : (f.nms.map ky).length = f.len := by rw [List.length_map, Fr.nms_len]
  rw [hl] at h
  have hw : (f.nms.map ky).Pairwise (· ≠ ·) ↔ f.nms.Pairwise fun p s => lsR false p.toList s.toList = true := by
    rw [List.pairwise_map]
    refine ⟨fun h => h.imp ?_, fun h => h.imp ?_⟩
    · intro a b hab
      show (!(a.toList == b.toList)) = true
      rw [Bool.not_eq_true', beq_eq_false_iff_ne, Lib.toList_data, Lib.toList_data]
      intro e
      exact hab (congrArg Lit.string e)
    · intro a b hab e
      have hab : (!(a.toList == b.toList)) = true := hab
      rw [Bool.not_eq_true', beq_eq_false_iff_ne, Lib.toList_data, Lib.toList_data] at hab
      injection e with e
      exact hab e
  cases h1 : lbF false [] f with
  | true =>
    have h2 := ((lbF_pw false).1 h1).2
    have := h.2 ⟨fun y hy => (by cases hy), hw.2 h2⟩
    rw [this, beq_iff_eq]
    simp
  | false =>
    rw [beq_eq_false_iff_ne]
    intro e
    have := h.1 (by rw [e]; simp)
    rw [(lbF_pw false).2 ⟨fun p hp => (by cases hp), hw.1 this.2⟩] at h1
    cases h1
theorem lawStr : Keyed Tryd.prog 9 := string_keyed Tryd.underlying9
theorem ky_of {s : ByteArray} (h : s.size ≤ 2000000000) : keyOf Tryd.prog 9 (.string s) = some (ky s) := Go.WideMaps.keyOf_string_mk Tryd.underlying9 (by unfold maxLen; omega)
theorem run_mk (w : World) : (Instr.makeMap 135 none).run Tryd.prog w = .ok (.map (some w.heap.size)) (w.alloc (.map #[] 0)) := by kernel_rfl
/-! ### the walks -/
theorem nat_beqI (m k : Nat) : (m == k) = ((m : Int) == (k : Int)) := by
  cases h : (m == k) with
  | true => rw [beq_iff_eq.1 h]; symm; rw [beq_iff_eq]
  | false => symm; rw [beq_eq_false_iff_ne] at h ⊢; omega
theorem Fr.get_some' {f : Fr} {i : Nat} (h : i < f.len) : ∃ t, f.get i = some t := Fr.get_some h
set_option maxHeartbeats 6400000 in
set_option maxRecDepth 100000 in
theorem pRise {w : World} {Sq : Nat → Prop} {A : Option Addr} {c : Nat} {ks : Fr} (hkid : Kid w Sq A ks 0) (hz : ks.len ≤ 1000000000) :
    Calls Tryd.prog 67 #[.slice A ks.len c] w (BoP (lbF true [] ks) w) := by
  rw [← ri_lb]
  obtain ⟨N, hN⟩ : ∃ N, ks.len = N := ⟨_, rfl⟩
  obtain ⟨R, hR⟩ : ∃ R, riN ks.nms = R := ⟨_, rfl⟩
  rw [hN] at hz ⊢
  rw [hR]
  have HK := Lib.hid hkid
  have HNN := Lib.hid hN
  have HR := Lib.hid hR
  clear hkid hN hR
  go_enter Tryd.func67, Tryd.ntmps67
  go_wp2_with fail
  go_loopw [3] (fun i wr => ∃ (j : Nat), i = .int .i64 ((j + 1 : Nat) : Int) ∧ (j = 0 ∨ j + 1 ≤ N) ∧ riN (ks.nms.take (j + 1)) = true ∧ ∃ q, wr = w.drewN q) (fun i _ => N - (intOf i).toNat)
  case atStart => exact ⟨0, rfl, .inl rfl, riN_one _, 0, rfl⟩
  case round =>
    obtain ⟨j, rfl, hj, hri, qq, rfl⟩ := hrel
    have HRI := Lib.hid hri
    clear hri
    by_cases hlt : j + 1 < N
    · obtain ⟨x, hx⟩ := Fr.get_some' (f := ks) (i := j) (by rw [HNN.out]; omega)
      obtain ⟨y, hy⟩ := Fr.get_some' (f := ks) (i := j + 1) (by rw [HNN.out]; omega)
      obtain ⟨kb, ko, v1, rfl, _, hv1, hT1⟩ := HK.out.at hx
      obtain ⟨kb', ko', v2, he, _, hv2, hT2⟩ := HK.out.at hy
      injection he with he
      injection he with e1 e2
      subst e1 e2
      obtain ⟨p1, o1, A1, c1, rfl, _, d0, d1, d2, d3, d4, _, _⟩ := hT1.open
      obtain ⟨p2, o2, A2, c2, rfl, _, f0, f1, f2, f3, f4, _, _⟩ := hT2.open
      have hn1 := Fr.nms_get hx
      have hn2 := Fr.nms_get hy
      obtain ⟨X, hX⟩ : ∃ X, x.1.a = X := ⟨_, rfl⟩
      obtain ⟨Y, hY⟩ : ∃ X, y.1.a = X := ⟨_, rfl⟩
      rw [hX] at d2 hn1
      rw [hY] at f2 hn2
      have hw1 : wrap64 (((j + 1 : Nat) : Int) - 1) = (j : Int) := by unfold wrap64; omega
      have hw2 : wrap64 (((j + 1 : Nat) : Int) + 1) = ((j + 1 + 1 : Nat) : Int) := by unfold wrap64; omega
      have hjz : ((j + 1 : Nat) : Int) < (N : Int) := by omega
      have hjz' : (j : Int) < (N : Int) := by omega
      obtain ⟨b, hb⟩ : ∃ b, Op.bytesLess X.toList Y.toList = b := ⟨_, rfl⟩
      cases b with
      | false =>
        have HX : Hid (R = false) := Lib.hid (by rw [← HR.out]; exact riN_bad hn1 hn2 hb)
        clear hT1 hT2 d0 d1 d3 d4 f0 f1 f3 f4 hn1 hn2 hx hy hX hY hj
        generalize hZ : ((j + 1 : Nat) : Int) = Z at hw1 hw2 hjz ⊢
        have hZ1 : (Z.toNat) = j + 1 := by omega
        have hZ0 : (0 : Int) ≤ Z := by omega
        go_wp2_with fail
        go_big_quiet (fail)
        go_wp2_with fail
        go_ret
        exact bo_r HX.out (((Up.refl _).drewN _).drewN _)
      | true =>
        have HX : Hid (riN (ks.nms.take (j + 1 + 1)) = true) := Lib.hid (riN_take hn1 hn2 hb HRI.out)
        clear hT1 hT2 d0 d1 d3 d4 f0 f1 f3 f4 hn1 hn2 hx hy hX hY hj
        generalize hZ : ((j + 1 : Nat) : Int) = Z at hw1 hw2 hjz ⊢
        have hZ1 : (Z.toNat) = j + 1 := by omega
        have hZ0 : (0 : Int) ≤ Z := by omega
        go_wp2_with fail
        go_big_quiet (fail)
        go_wp2_with fail
        go_roundw
        case rel => exact ⟨j + 1, i64_eq (by omega), .inr (by omega), HX.out, _, rfl⟩
        case measure => simp [intOf]; omega
    · have hjz : ¬ ((j + 1 : Nat) : Int) < (N : Int) := by omega
      have HX : Hid (R = true) := Lib.hid (by
        rw [← HR.out]
        have h := HRI.out
        rw [List.take_of_length_le (by rw [Fr.nms_len, HNN.out]; omega)] at h
        exact h)
      go_wp2_with fail
      go_ret
      exact bo_r HX.out ((Up.refl _).drewN _)
set_option maxHeartbeats 6400000 in
set_option maxRecDepth 100000 in
theorem pDiffer {w : World} {Sq : Nat → Prop} {A : Option Addr} {c : Nat} {ks : Fr} (hS : Bel Sq w.heap.size) (hkid : Kid w Sq A ks 0) (hz : ks.len ≤ 1000000000) (hsa : ks.sma) :
    Calls Tryd.prog 68 #[.slice A ks.len c] w (BoP (lbF false [] ks) w) := by
  rw [← df_lb]
  obtain ⟨N, hN⟩ : ∃ N, ks.len = N := ⟨_, rfl⟩
  rw [hN] at hz ⊢
  obtain ⟨R, hR⟩ : ∃ R, (Maps.size (Snm ks.nms) == N) = R := ⟨_, rfl⟩
  have HR := Lib.hid hR
  rw [hR]
  clear hR
  have hmk := fun W => run_mk W
  have HK := Lib.hid hkid
  have HNN := Lib.hid hN
  have HBEL := Lib.hid hS
  have HSA := Lib.hid hsa
  clear hkid hN hS hsa
  go_enter Tryd.func68, Tryd.ntmps68
  go_wp2_with fail
  have hb0 : Up w (w.alloc (.map #[] 0)) := (Up.refl w).alloc _
  have hm0 : (w.alloc (.map #[] 0)).ownsMap Tryd.prog 9 (unitElem (H := Unit)) w.heap.size 0 (Snm (ks.nms.take 0)) := World.ownsMap_made _ _ _ _
  clear hmk
  generalize w.alloc (.map #[] 0) = W0 at hb0 hm0 ⊢
  go_loopw [5, 9] (fun _ i wr => Up w wr ∧ ∃ k : Nat, k ≤ N ∧ i = .int .i64 k ∧ wr.ownsMap Tryd.prog 9 (unitElem (H := Unit)) w.heap.size k (Snm (ks.nms.take k))) (fun _ i _ => N - (intOf i).toNat)
  case atStart => exact ⟨hb0, 0, Nat.zero_le _, rfl, hm0⟩
  case round =>
    obtain ⟨hu, k, hk, rfl, hown⟩ := hrel
    clear hb0 hm0
    by_cases hlt : k < N
    · obtain ⟨t, ht⟩ := Fr.get_some' (f := ks) (i := k) (by rw [HNN.out]; exact hlt)
      obtain ⟨kb, ko, v, rfl, hkb, hv, hT⟩ := HK.out.at ht
      obtain ⟨p, o, A1, c1, rfl, hp, d0, d1, d2, d3, d4, _, _⟩ := hT.open
      have hn := Fr.nms_get ht
      have hsz := HSA.out k t ht
      obtain ⟨Y, hY⟩ : ∃ X, t.1.a = X := ⟨_, rfl⟩
      rw [hY] at d2 hn hsz
      have hcell := hu.cell hv
      have e2 := hu.cell d2
      have hkey : keyOf Tryd.prog 9 (.string Y) = some (ky Y) := ky_of (by omega)
      have HS := Lib.hid (Snm_next _ k Y hn)
      have HU := Lib.hid hu
      have HOWN := Lib.hid hown
      have hbs := hu.size
      have hkz : (k : Int) < (N : Int) := by omega
      clear hT d0 d1 d2 d3 d4 hn hv ht hY hu hown
      go_wp2_with (at_mapUpdate; refine wpList_mapUpdate_own _ rfl _ _ _ 135 rfl 9 50 lawStr Tryd.underlying135 (unitElem (H := Unit)) w.heap.size k _ rfl HOWN.out (by unfold maxLen; omega) _ _ _ rfl rfl hkey _ [] unitElem_mk ?_; intro w1 hown1 hgrow1)
      go_roundw
      case rel => exact ⟨Below.grown HU.out hgrow1 hbs (fun g hg => by cases hg; exact Nat.le_refl _), k + 1, by omega, by go_num, by rw [HS.out]; exact hown1⟩
      case measure => simp [intOf]; omega
    · have hkn : k = N := by omega
      subst hkn
      have e0 : ks.nms.take k = ks.nms := List.take_of_length_le (by rw [Fr.nms_len, HNN.out]; exact Nat.le_refl _)
      rw [e0] at hown
      have hkz : ¬ (k : Int) < (k : Int) := by omega
      have hsz := hown.size_le
      obtain ⟨m, hm⟩ : ∃ m, Maps.size (Snm ks.nms) = m := ⟨_, rfl⟩
      rw [hm] at hsz
      have HM := Lib.hid hm
      have HOWN := Lib.hid hown
      have HU := Lib.hid hu
      clear e0 hm hown hlt hk hu
      have HX : Hid (R = ((Maps.size (Snm ks.nms) : Int) == (k : Int))) := Lib.hid (by rw [← HR.out]; exact nat_beqI _ _)
      go_wp2_with (at_len; refine wpList_len_own _ rfl _ 135 rfl 9 50 Tryd.underlying135 (unitElem (H := Unit)) w.heap.size k _ rfl HOWN.out ?_)
      go_ret
      exact bo_r HX.out HU.out
end Go.Proofs.YtmiicfdigkkbdaaDoor
