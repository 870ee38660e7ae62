/-
  The program's free and Fresh: what they tell.
-/
import Derived.Test.YtagocfifagnpkaaDoorNChk
import Derived.Test.YtagocfifagnpkaaDoorNItoa
import Derived.Test.YtagocfifagnpkaaDoorNRefT
import Derived.Maps.OwnSet
import Derived.Maps.AppendAt
namespace Go.Proofs.YtagocfifagnpkaaDoor
open Go.RowKit Go.Maps

/-! ### a set of texts -/
def ky (s : ByteArray) : Lit := .string s.data.toList
def kys (l : List ByteArray) : List Lit := l.map ky
theorem kys_key (l : List ByteArray) : ∀ x ∈ kys l, WideAt.IsKeyLit x := by
  intro x hx
  obtain ⟨y, _, rfl⟩ := List.mem_map.1 hx
  exact trivial
def Sx (l : List ByteArray) : DataW Unit := Maps.setOf (.agg []) (kys l)
theorem ky_inj {a b : ByteArray} (h : ky a = ky b) : a = b := by
  unfold ky at h
  injection h with h
  exact ba_ext h
theorem has_Sx (l : List ByteArray) (y : ByteArray) : Maps.has (Sx l) (ky y) = true ↔ y ∈ l := by
  unfold Sx
  rw [Maps.has_setOf _ _ _ (kys_key l), List.any_eq_true]
  constructor
  · rintro ⟨x, hx, hk⟩
    obtain ⟨z, hz, rfl⟩ := List.mem_map.1 hx
    rw [← ky_inj (WideAt.sameKey_eq hk)]
    exact hz
  · intro h
    exact ⟨ky y, List.mem_map.2 ⟨y, h, rfl⟩, WideAt.sameKey_self trivial⟩
theorem Sx_nil : Sx [] = .map [] := rfl
theorem Sx_next (l : List ByteArray) (k : Nat) (y : ByteArray) (h : l[k]? = some y) : Sx (l.take (k + 1)) = (Sx (l.take k)).put (ky y) (.agg []) := by
  unfold Sx kys
  rw [take_next h, List.map_append, List.map_cons, List.map_nil, Maps.setOf_snoc]
theorem add_keeps : ∀ (xs L : List Lit) (x : Lit), x ∈ L → x ∈ xs.foldl Maps.addKey L
  | [], _, _, h => h
  | y :: r, L, x, h => add_keeps r _ x (by
    unfold Maps.addKey
    split
    · exact h
    · exact List.mem_append_left _ h)
theorem add_has : ∀ (xs L : List Lit) (x : Lit), x ∈ xs → x ∈ xs.foldl Maps.addKey L
  | y :: r, L, x, h => by
    rcases List.mem_cons.1 h with rfl | h
    · refine add_keeps r _ x ?_
      unfold Maps.addKey
      split
      · rename_i ha
        obtain ⟨z, hz, hk⟩ := List.any_eq_true.1 ha
        rw [← WideAt.sameKey_eq hk]
        exact hz
      · exact List.mem_append_right _ (by simp)
    · exact add_has r _ x h
/-- As many of a row of different texts as are on the list are not more than the set has. -/
theorem size_Sx {base : ByteArray} {l : List ByteArray} {k : Nat} (h : ∀ j, j < k → frk base j ∈ l) : k ≤ Maps.size (Sx l) := by
  unfold Sx
  rw [Maps.size_setOf _ _ (kys_key l)]
  have : DecidableEq Lit := fun a b => Classical.propDecidable _
  refine pigeon (fun j => ky (frk base j)) (fun i j e => frk_inj (ky_inj e)) k _ fun j hj => ?_
  exact add_has _ _ _ (List.mem_map.2 ⟨_, h j hj, rfl⟩)
theorem map_below {w w' : World} {P : Program} {k : TypeId} {R : Value → Option (DataW Unit × List MemPlace)} {b n : Nat} {D : DataW Unit} (h : w.ownsMap P k R b n D) (hb : Below w.heap.size w w') : w'.ownsMap P k R b n D := by
  obtain ⟨es, clock, h1, h2⟩ := h
  exact ⟨es, clock, heap_below h1 hb, h2⟩
theorem lawStr : Keyed Tryd.prog 9 := string_keyed Tryd.underlying9
theorem zeroUnit (w : World) : (zeroValue 70).run Tryd.prog w = .ok (.agg #[]) w := by kernel_rfl
theorem run_hint (n : Nat) (w : World) : (Instr.makeMap 69 (some (.int .i64 (n : Int)))).run Tryd.prog w = .ok (.map (some w.heap.size)) (w.alloc (.map #[] 0)) := by kernel_rfl
theorem ky_of {s : ByteArray} (h : s.size ≤ 2000000000) : keyOf Tryd.prog 9 (.string s) = some (ky s) := Go.WideMaps.keyOf_string_mk Tryd.underlying9 (by unfold maxLen; omega)

theorem num_tx (k : Nat) : T (numb (k : Int)) = tx (Lib.decDigits k) := by
  rw [T_tx, enc_numb, if_neg (by omega)]
  rfl
theorem frk_next (base : ByteArray) (k : Nat) : base ++ T (numb ((k : Int) + 1)) = frk base (k + 1) := by
  unfold frk
  rw [if_neg (by omega), ← num_tx]
  rfl
theorem frk_zero (base : ByteArray) : frk base 0 = base := rfl
theorem frk_size {base : ByteArray} (k : Nat) (h : k ≤ 1000000) : (frk base k).size ≤ base.size + 21 := by
  unfold frk
  split
  · omega
  · rw [app_size, ← num_tx]
    have := numb_size (k : Int) (by omega) (by omega)
    omega

set_option maxHeartbeats 3200000 in
set_option maxRecDepth 100000 in
theorem free_any (base : ByteArray) (l : List ByteArray) (v : Value) (w : World) (hv : Ss w w.heap.size v l) (hl : l.length ≤ 1000) (hz : ∀ x ∈ l, x.size ≤ 1000) (hb : base.size ≤ 1000000) (hL : Nx w) :
    Calls Tryd.prog 43 #[.string base, v] w (TxPost (frk base (fre base l)) w) := by
  obtain ⟨A, c, rfl, hlc, hcl⟩ := hv
  have HCL := Lib.hid hcl
  have HZ := Lib.hid hz
  have HNX := Lib.hid hL
  have hmm := fun W => run_hint l.length W
  clear hcl hz hL
  go_enter Tryd.func43, Tryd.ntmps43
  go_wp2
  obtain ⟨n, hn⟩ : ∃ n, l.length = n := ⟨_, rfl⟩
  rw [hn] at hl hlc ⊢
  have HN := Lib.hid hn
  clear hn hmm
  have hb0 : Below w.heap.size w (w.alloc (.map #[] 0)) := (Below.refl _ _).alloc (Nat.le_refl _) _
  have hm0 : (w.alloc (.map #[] 0)).ownsMap Tryd.prog 9 (unitElem (H := Unit)) w.heap.size 0 (Sx (l.take 0)) := World.ownsMap_made _ _ _ _
  generalize w.alloc (.map #[] 0) = W0 at hb0 hm0 ⊢
  go_loopw [7, 17] (fun _ i wr => ∃ k : Nat, k ≤ n ∧ i = .int .i64 k ∧ Below w.heap.size w wr ∧ wr.ownsMap Tryd.prog 9 (unitElem (H := Unit)) w.heap.size k (Sx (l.take k))) (fun _ i _ => n - (intOf i).toNat)
  case atStart => exact ⟨0, Nat.zero_le _, rfl, hb0, hm0⟩
  case round =>
    obtain ⟨k, hk, rfl, hbw, hown⟩ := hrel
    clear hb0 hm0
    by_cases hlt : k < n
    · obtain ⟨y, hy⟩ : ∃ y, l[k]? = some y := ⟨_, List.getElem?_eq_getElem (by rw [HN.out]; exact hlt)⟩
      obtain ⟨b, o, rfl, hblt, hcell0⟩ := HCL.out k y hy
      have hcell := (hbw.cell (p := ⟨b, o + k, none⟩) hblt).trans hcell0
      have hyz := HZ.out y (List.mem_of_getElem? hy)
      have hkey : keyOf Tryd.prog 9 (.string y) = some (ky y) := ky_of (by omega)
      have HS := Lib.hid (Sx_next l k y hy)
      have HBW := Lib.hid hbw
      have HOWN := Lib.hid hown
      have hbs := hbw.size
      clear hy hyz hcell0 hbw hown
      go_wp2_with (at_mapUpdate; refine wpList_mapUpdate_own _ rfl _ _ _ 69 rfl 9 70 lawStr Tryd.underlying69 (unitElem (H := Unit)) w.heap.size k _ rfl HOWN.out (by unfold maxLen; omega) _ _ _ rfl rfl hkey _ [] unitElem_mk ?_; intro w1 hown1 hgrow1)
      go_roundw
      case rel => exact ⟨k + 1, by omega, by go_num, HBW.out.grown hgrow1 hbs (fun g hg => by cases hg; exact Nat.le_refl _), by rw [HS.out]; exact hown1⟩
      case measure => simp [intOf]; omega
    · have hkn : k = n := by omega
      subst hkn
      have e0 : l.take k = l := List.take_of_length_le (by rw [HN.out]; exact Nat.le_refl _)
      rw [e0] at hown
      have hsz := hown.size_le
      have hfull := fun j => size_Sx (base := base) (l := l) (k := j)
      obtain ⟨m, hm⟩ : ∃ m, Maps.size (Sx l) = m := ⟨_, rfl⟩
      rw [hm] at hsz hfull
      have HM := Lib.hid hm
      have HFULL := Lib.hid hfull
      have HOWN := Lib.hid hown
      have HBW := Lib.hid hbw
      clear e0 hm hfull hown hbw hlt hk
      go_wp2_with (at_len; refine wpList_len_own _ rfl _ 69 rfl 9 70 Tryd.underlying69 (unitElem (H := Unit)) w.heap.size k _ rfl HOWN.out ?_; rw [HM.out])
      go_loopw [8, 9, 10, 11, 28] (fun nm _ _ _ i wr => ∃ j : Nat, j ≤ m ∧ i = .int .i64 j ∧ nm = .string (frk base j) ∧ Below w.heap.size w wr ∧ wr.ownsMap Tryd.prog 9 (unitElem (H := Unit)) w.heap.size k (Sx l) ∧ (∀ i, i < j → frk base i ∈ l)) (fun _ _ _ _ i _ => m - (intOf i).toNat)
      case atStart => exact ⟨0, Nat.zero_le _, rfl, rfl, HBW.out, HOWN.out, fun i hi => absurd hi (Nat.not_lt_zero _)⟩
      case round =>
        obtain ⟨j, hj, rfl, rfl, hbw, hown, hin⟩ := hrel
        have HIN := Lib.hid hin
        clear hin
        by_cases hlt : j < m
        · have hbs := hbw.size
          have hfz := frk_size (base := base) j (by omega)
          have hkey : keyOf Tryd.prog 9 (.string (frk base j)) = some (ky (frk base j)) := ky_of (by omega)
          have hnz := frk_size (base := base) (j + 1) (by omega)
          have hhas := has_Sx l (frk base j)
          have hnext := frk_next base j
          obtain ⟨X, hX⟩ : ∃ X, frk base j = X := ⟨_, rfl⟩
          rw [hX] at hkey hhas hfz ⊢
          have HX := Lib.hid hX
          have HHAS := Lib.hid hhas
          have HKEY := Lib.hid hkey
          have cN := fun W (hL : Nx W) => number_txt ((j : Int) + 1) (by omega) (by omega) W hL
          obtain ⟨Y, hY⟩ : ∃ Y, T (numb ((j : Int) + 1)) = Y := ⟨_, rfl⟩
          rw [hY] at cN hnext
          have hyz : base.size + Y.size ≤ 1000100 := by rw [← app_size, hnext]; omega
          have HNEXT := Lib.hid hnext
          have HY := Lib.hid hY
          have CN := Lib.hid cN
          have HOWN2 := Lib.hid hown
          have HBW2 := Lib.hid hbw
          clear hX hhas hY hnext cN hown hbw hkey hnz
          obtain ⟨b, hb⟩ : ∃ b, Maps.has (Sx l) (ky X) = b := ⟨_, rfl⟩
          have HB := Lib.hid hb
          clear hb
          cases b
          · go_wp2_with (at_lookup; refine wpList_lookup_own_unit _ rfl _ _ 69 rfl 9 70 lawStr Tryd.underlying69 (zeroUnit _) w.heap.size k _ rfl HOWN2.out _ _ rfl HKEY.out ?_; rw [HB.out])
            go_ret
            exact tx_ret (by
              rw [fre_eq (k := j) ⟨HIN.out, fun hm => by
                rw [HX.out] at hm
                have := HHAS.out.2 hm
                rw [HB.out] at this
                cases this⟩, HX.out]) (HBW2.out.alloc hbs _)
          · go_wp2_with (at_lookup; refine wpList_lookup_own_unit _ rfl _ _ 69 rfl 9 70 lawStr Tryd.underlying69 (zeroUnit _) w.heap.size k _ rfl HOWN2.out _ _ rfl HKEY.out ?_; rw [HB.out])
            have hba := HBW2.out.alloc hbs (.cells #[] 70)
            have HBA := Lib.hid hba
            have hba1 := hba.size
            have HMA := Lib.hid (HOWN2.out.alloc (.cells #[] 70))
            clear hba
            refine (CN.out _ (HNX.out.below HBA.out)).mono ?_
            rintro e w2 ⟨rfl, hb2⟩
            have HB2 := Lib.hid hb2
            clear hb2
            go_wp2
            go_roundw
            case rel => exact ⟨j + 1, by omega, by go_num, by rw [HNEXT.out], HBA.out.trans (HB2.out.mono hba1), map_below HMA.out HB2.out, fun i hi => by
              rcases Nat.lt_or_ge i j with h | h
              · exact HIN.out i h
              · rw [show i = j by omega, HX.out]; exact HHAS.out.1 HB.out⟩
            case measure => simp [intOf]; omega
        · have hjm : j = m := by omega
          subst hjm
          have HF := Lib.hid (fre_eq (base := base) (taken := l) (k := j) ⟨HIN.out, fun hm => by
            have := HFULL.out (j + 1) fun i hi => by
              rcases Nat.lt_or_ge i j with h | h
              · exact HIN.out i h
              · rw [show i = j by omega]; exact hm
            omega⟩)
          have HBW2 := Lib.hid hbw
          clear hbw hown
          go_wp2
          go_ret
          exact tx_ret (by rw [HF.out]) HBW2.out
end Go.Proofs.YtagocfifagnpkaaDoor
