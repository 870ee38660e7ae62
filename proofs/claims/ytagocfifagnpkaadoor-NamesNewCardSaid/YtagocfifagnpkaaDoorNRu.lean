/-
  The document's Under, SameTexts, Has and Join: what they tell.
-/
import Derived.Test.YtagocfifagnpkaaDoorNRl
import Derived.Test.YtagocfifagnpkaaDoorNJoi
namespace Go.Proofs.YtagocfifagnpkaaDoor
open Go.RowKit

theorem txt_eq {x y : ByteArray} (h : x = y) : (x.toList == y.toList) = true ∧ (x.toList != y.toList) = false := by subst h; simp
theorem txt_ne {x y : ByteArray} (h : x ≠ y) : (x.toList == y.toList) = false ∧ (x.toList != y.toList) = true := by
  have : (x.toList == y.toList) = false := by
    rw [beq_eq_false_iff_ne]
    intro e
    rw [Lib.toList_data, Lib.toList_data] at e
    exact h (ba_ext e)
  exact ⟨this, by unfold bne; rw [this]; rfl⟩

/-! ### Under -/
theorem pre_iff {a b : List ByteArray} : b <+: a ↔ b.length ≤ a.length ∧ ∀ j, j < b.length → b[j]? = a[j]? := by
  constructor
  · rintro ⟨t, rfl⟩
    exact ⟨by simp, fun j hj => by rw [List.getElem?_append_left hj]⟩
  · rintro ⟨h1, h2⟩
    refine ⟨a.drop b.length, ?_⟩
    conv => rhs; rw [← List.take_append_drop b.length a]
    congr 1
    apply List.ext_getElem?
    intro j
    rw [List.getElem?_take]
    split
    · rename_i h; exact h2 j h
    · rename_i h; exact List.getElem?_eq_none (by omega)
theorem und_list (s p : ByteArray) : und s p = true ↔ 0 < (splt p).length ∧ (splt p).length ≤ (splt s).length ∧ ∀ j, j < (splt p).length → (splt p)[j]? = (splt s)[j]? := by
  rw [und_is, ← pre_iff]
  constructor
  · rintro ⟨h1, h2, h3⟩
    rw [splt_long h1, splt_long h2]
    exact ⟨(pc_len p).1, h3⟩
  · rintro ⟨h1, h2⟩
    have hp : long p = true := by rw [splt_len, decide_eq_true h1]
    have h4 : (splt p).length ≤ (splt s).length := h2.length_le
    have hs : long s = true := by rw [splt_len, decide_eq_true (by omega)]
    rw [splt_long hp, splt_long hs] at h2
    exact ⟨hs, hp, h2⟩
theorem und_false {s p : ByteArray} (h : ¬ (0 < (splt p).length ∧ (splt p).length ≤ (splt s).length ∧ ∀ j, j < (splt p).length → (splt p)[j]? = (splt s)[j]?)) : und s p = false := by
  cases hu : und s p
  · rfl
  · exact absurd ((und_list s p).1 hu) h
theorem same_next {l m : List ByteArray} {k : Nat} {x : ByteArray} (h : ∀ j, j < k → l[j]? = m[j]?) (hx : l[k]? = some x) (hy : m[k]? = some x) : ∀ j, j < k + 1 → l[j]? = m[j]? := by
  intro j hj
  by_cases e' : j = k
  · subst e'; rw [hx, hy]
  · exact h j (by omega)
set_option maxHeartbeats 3200000 in
set_option maxRecDepth 100000 in
theorem refUnder (s p : ByteArray) (w : World) (hs : s.size ≤ 1000000000) (hp : p.size ≤ 1000000000) : Calls Tryd.prog 28 #[.string s, .string p] w (NmPost (und s p) w) := by
  have c1 := refSplit s w hs
  have c2 := fun W => refSplit p W hp
  have hyes := (und_list s p).2
  have hno := und_false (s := s) (p := p)
  have hca := splt_count s
  have hcb := splt_count p
  obtain ⟨l, hl⟩ : ∃ l, splt s = l := ⟨_, rfl⟩
  obtain ⟨m, hm⟩ : ∃ m, splt p = m := ⟨_, rfl⟩
  rw [hl] at c1 hyes hno hca
  rw [hm] at c2 hyes hno hcb
  have HY := Lib.hid hyes
  have HN := Lib.hid hno
  clear hl hm hyes hno
  by_cases h0 : 0 < m.length
  · by_cases h1 : m.length ≤ l.length
    · have hz0 : ((m.length : Int) == 0) = false := by rw [beq_eq_false_iff_ne]; omega
      have hz1 : ¬ (l.length : Int) < (m.length : Int) := by omega
      go_enter Tryd.func28, Tryd.ntmps28
      go_wp2_with fail
      refine c1.mono ?_
      rintro e w1 ⟨v1, rfl, hv1, hb1⟩
      have HV1 := Lib.hid hv1
      have HB1 := Lib.hid hb1
      clear hv1 hb1
      go_wp2_with fail
      refine (c2 _).mono ?_
      rintro e w2 ⟨v2, rfl, hv2, hb2⟩
      have hv1' := HV1.out.on hb2
      have HB2 := Lib.hid (chn HB1.out hb2)
      obtain ⟨b2, o2, d2, rfl, hd2, hbl2, hcl2⟩ := hv2.form h0
      obtain ⟨b1, o1, d1, rfl, hd1, hbl1, hcl1⟩ := hv1'.form (by omega)
      have HC1 := Lib.hid hcl1
      have HC2 := Lib.hid hcl2
      clear hv2 hb2 hv1' hcl1 hcl2 HV1 HB1
      go_wp2
      go_loopw [7] (fun i wr => ∃ k : Nat, i = .int .i64 k ∧ k ≤ m.length ∧ (∀ j, j < k → m[j]? = l[j]?) ∧ ∃ q, wr = w2.drewN q) (fun i _ => m.length - (intOf i).toNat)
      case atStart => exact ⟨0, rfl, Nat.zero_le _, fun j h => by omega, 0, rfl⟩
      case round =>
        obtain ⟨k, rfl, hk, hall, q, rfl⟩ := hrel
        have HA := Lib.hid hall
        clear hall
        by_cases hlt : k < m.length
        · obtain ⟨x, hx⟩ : ∃ x, l[k]? = some x := ⟨_, List.getElem?_eq_getElem (by omega)⟩
          obtain ⟨y, hy⟩ : ∃ y, m[k]? = some y := ⟨_, List.getElem?_eq_getElem hlt⟩
          have hcell1 := HC1.out k x hx
          have hcell2 := HC2.out k y hy
          have HX := Lib.hid hx
          have HYY := Lib.hid hy
          clear hx hy
          have hlz : (k : Int) < (m.length : Int) := by omega
          have hmz : (k : Int) < (l.length : Int) := by omega
          by_cases e : x = y
          · obtain ⟨e1, e2⟩ := txt_eq e
            have HEQ := Lib.hid e
            clear e
            go_wp2
            go_quiet (fail)
            go_wp2
            go_roundw
            case rel => exact ⟨k + 1, by go_num, hlt, same_next HA.out HYY.out (by rw [← HEQ.out]; exact HX.out), _, rfl⟩
            case measure => simp [intOf]; omega
          · obtain ⟨e1, e2⟩ := txt_ne e
            have HEQ := Lib.hid e
            clear e
            go_wp2
            go_quiet (fail)
            go_wp2
            go_ret
            exact nm_ret (HN.out (by
              rintro ⟨_, _, h⟩
              have := h k hlt
              rw [HYY.out, HX.out] at this
              exact HEQ.out (Option.some.inj this).symm)) (below_drewN' (below_drewN' HB2.out _) _)
        · have hlz : ¬ (k : Int) < (m.length : Int) := by omega
          have hkm : k = m.length := by omega
          subst hkm
          go_wp2
          go_ret
          exact nm_ret (HY.out ⟨h0, h1, HA.out⟩) (below_drewN' HB2.out _)
    · have hz0 : ((m.length : Int) == 0) = false := by rw [beq_eq_false_iff_ne]; omega
      have hz1 : (l.length : Int) < (m.length : Int) := by omega
      go_enter Tryd.func28, Tryd.ntmps28
      go_wp2_with fail
      refine c1.mono ?_
      rintro e w1 ⟨v1, rfl, ⟨A1, d1, rfl, hd1, hcl1⟩, hb1⟩
      have HB1 := Lib.hid hb1
      clear hcl1 hb1
      go_wp2_with fail
      refine (c2 _).mono ?_
      rintro e w2 ⟨v2, rfl, ⟨A2, d2, rfl, hd2, hcl2⟩, hb2⟩
      have hb3 := chn HB1.out hb2
      clear hcl2 hb2
      go_wp2
      go_ret
      exact nm_ret (HN.out fun h => h1 h.2.1) hb3
  · have hz0 : ((m.length : Int) == 0) = true := by rw [beq_iff_eq]; omega
    go_enter Tryd.func28, Tryd.ntmps28
    go_wp2_with fail
    refine c1.mono ?_
    rintro e w1 ⟨v1, rfl, ⟨A1, d1, rfl, hd1, hcl1⟩, hb1⟩
    have HB1 := Lib.hid hb1
    clear hcl1 hb1
    go_wp2_with fail
    refine (c2 _).mono ?_
    rintro e w2 ⟨v2, rfl, ⟨A2, d2, rfl, hd2, hcl2⟩, hb2⟩
    have hb3 := chn HB1.out hb2
    clear hcl2 hb2
    go_wp2
    go_ret
    exact nm_ret (HN.out fun h => h0 h.1) hb3

/-! ### the same texts -/
set_option maxHeartbeats 3200000 in
set_option maxRecDepth 100000 in
theorem sameTexts_self (l : List ByteArray) (v v' : Value) (w : World) (h : Ss w w.heap.size v l) (h' : Ss w w.heap.size v' l) (hl : l.length ≤ 1000000) :
    Calls Tryd.prog 17 #[v, v'] w (NmPost true w) := by
  obtain ⟨A, c, rfl, hlc, hA⟩ := h
  obtain ⟨A', c', rfl, hlc', hA'⟩ := h'
  have H1 := Lib.hid hA
  have H2 := Lib.hid hA'
  clear hA hA'
  go_enter Tryd.func17, Tryd.ntmps17
  go_wp2
  go_loopw [5] (fun i wr => ∃ k : Nat, i = .int .i64 k ∧ k ≤ l.length ∧ ∃ q, wr = w.drewN q) (fun i _ => l.length - (intOf i).toNat)
  case atStart => exact ⟨0, rfl, Nat.zero_le _, 0, rfl⟩
  case round =>
    obtain ⟨k, rfl, hk, q, rfl⟩ := hrel
    by_cases hlt : k < l.length
    · obtain ⟨x, hx⟩ : ∃ x, l[k]? = some x := ⟨_, List.getElem?_eq_getElem hlt⟩
      obtain ⟨b1, o1, rfl, _, hcell1⟩ := H1.out k x hx
      obtain ⟨b2, o2, rfl, _, hcell2⟩ := H2.out k x hx
      clear hx
      have hlz : (k : Int) < (l.length : Int) := by omega
      go_wp2
      go_quiet (fail)
      go_wp2
      go_roundw
      case rel => exact ⟨k + 1, by go_num, hlt, _, rfl⟩
      case measure => simp [intOf]; omega
    · have hlz : ¬ (k : Int) < (l.length : Int) := by omega
      go_wp2
      go_ret
      exact nm_ret rfl (below_drewN' (Below.refl _ _) _)

/-! ### Has -/
def HsPost (l : List ByteArray) (s : ByteArray) (w : World) (e : Ending) (w' : World) : Prop := ∃ b : Bool, (b = true ↔ s ∈ l) ∧ e = .returned (.bool b) ∧ w = w'
theorem hs_yes {l : List ByteArray} {s : ByteArray} {w : World} (h : s ∈ l) : HsPost l s w (.returned (.bool true)) w := ⟨true, ⟨fun _ => h, fun _ => rfl⟩, rfl, rfl⟩
theorem hs_no {l : List ByteArray} {s : ByteArray} {w : World} (h : s ∉ l) : HsPost l s w (.returned (.bool false)) w := ⟨false, ⟨fun h => (by cases h), fun hm => absurd hm h⟩, rfl, rfl⟩
set_option maxHeartbeats 3200000 in
set_option maxRecDepth 100000 in
theorem has_any (l : List ByteArray) (v : Value) (s : ByteArray) (w : World) (h : Ss w w.heap.size v l) (hl : l.length ≤ 1000000) :
    Calls Tryd.prog 31 #[v, .string s] w (HsPost l s w) := by
  obtain ⟨A, c, rfl, hlc, hA⟩ := h
  have H1 := Lib.hid hA
  clear hA
  go_enter Tryd.func31, Tryd.ntmps31
  go_wp2
  go_loop [5] (fun i => ∃ k : Nat, i = .int .i64 k ∧ k ≤ l.length ∧ (∀ (j : Nat) y, j < k → l[j]? = some y → y ≠ s)) (fun i => l.length - (intOf i).toNat)
  case atStart => exact ⟨0, rfl, Nat.zero_le _, fun j y h => by omega⟩
  case round =>
    obtain ⟨k, rfl, hk, hno⟩ := hrel
    have HNO := Lib.hid hno
    clear hno
    by_cases hlt : k < l.length
    · obtain ⟨x, hx⟩ : ∃ x, l[k]? = some x := ⟨_, List.getElem?_eq_getElem hlt⟩
      obtain ⟨b1, o1, rfl, _, hcell1⟩ := H1.out k x hx
      have HX := Lib.hid hx
      clear hx
      have hlz : (k : Int) < (l.length : Int) := by omega
      by_cases e : x = s
      · obtain ⟨e1, e2⟩ := txt_eq e
        have HEQ := Lib.hid e
        clear e
        go_wp2
        go_ret
        exact hs_yes (by rw [← HEQ.out]; exact List.mem_of_getElem? HX.out)
      · obtain ⟨e1, e2⟩ := txt_ne e
        have HEQ := Lib.hid e
        clear e
        go_wp2
        go_round
        case rel => exact ⟨k + 1, by go_num, hlt, upto_next HNO.out HX.out HEQ.out⟩
        case measure => simp [intOf]; omega
    · have hlz : ¬ (k : Int) < (l.length : Int) := by omega
      go_wp2
      go_ret
      exact hs_no fun hm => by
        obtain ⟨j, hj, rfl⟩ := List.getElem_of_mem hm
        exact absurd rfl (HNO.out j _ (by omega) (List.getElem?_eq_getElem hj))
end Go.Proofs.YtagocfifagnpkaaDoor
