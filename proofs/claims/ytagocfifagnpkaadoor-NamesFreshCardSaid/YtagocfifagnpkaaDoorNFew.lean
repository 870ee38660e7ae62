/-
  The law's helpers few, fews and works: what they tell.
-/
import Derived.Test.YtagocfifagnpkaaDoorNMov
import Derived.Test.YtagocfifagnpkaaDoorNFrs
namespace Go.Proofs.YtagocfifagnpkaaDoor
open Go.RowKit

def fw (s : ByteArray) : ByteArray := s.extract 0 (min s.size 140)
theorem fw_le (s : ByteArray) : (fw s).size ≤ 140 := by
  unfold fw
  rw [Lib.size_eq, Lib.extract_data, List.length_take]
  omega
set_option maxHeartbeats 1600000 in
set_option maxRecDepth 100000 in
theorem few_any (s : ByteArray) (w : World) (hs : s.size ≤ 9223372036854775807) :
    Calls Tryd.prog 9 #[.string s] w fun e w' => e = .returned (.string (fw s)) ∧ w = w' := by
  by_cases h : s.size ≤ 140
  · have HF : Hid (fw s = s) := Lib.hid (by unfold fw; rw [Nat.min_eq_left h, extract_all])
    have hz : (s.size : Int) ≤ 140 := by omega
    have hm : min (s.size : Int) 140 = (s.size : Int) := by omega
    have hm2 : min s.size 140 = s.size := by omega
    go_enter Tryd.func9, Tryd.ntmps9
    go_wp2
    all_goals go_ret
    all_goals exact ⟨ret_s HF.out, rfl⟩
  · have HF : Hid (fw s = s.extract 0 140) := Lib.hid (by unfold fw; rw [Nat.min_eq_right (by omega)])
    have hz : ¬ (s.size : Int) ≤ 140 := by omega
    have hz2 : (140 : Int) ≤ (s.size : Int) := by omega
    have hm : min (s.size : Int) 140 = 140 := by omega
    go_enter Tryd.func9, Tryd.ntmps9
    go_wp2
    all_goals go_ret
    all_goals exact ⟨ret_s HF.out, rfl⟩

/-- An argument that reads as these texts. -/
def Sg (w : World) (v : Value) (l : List ByteArray) : Prop :=
  ∃ A c, v = .slice A l.length c ∧ ∀ (j : Nat) (u : ByteArray), l[j]? = some u → ∃ ad, A = some ad ∧ ad.block < w.heap.size ∧ w.cell? (ad.add j) = some (.string u)
def fws (l : List ByteArray) : List ByteArray := (l.take 30).map fw
theorem fws_len (l : List ByteArray) : (fws l).length ≤ 30 := by unfold fws; rw [List.length_map, List.length_take]; omega
theorem fws_sz (l : List ByteArray) : ∀ x ∈ fws l, x.size ≤ 140 := by
  intro x hx
  obtain ⟨y, _, rfl⟩ := List.mem_map.1 hx
  exact fw_le y
theorem fws_end {l : List ByteArray} {k : Nat} (h : k ≤ 30) (hk : k = l.length ∨ k = 30) : fws l = (l.take k).map fw := by
  unfold fws
  rcases hk with rfl | rfl
  · rw [List.take_of_length_le h, List.take_of_length_le (Nat.le_refl _)]
  · rfl
theorem fws_next {l : List ByteArray} {k : Nat} {y : ByteArray} (h : l[k]? = some y) : (l.take (k + 1)).map fw = (l.take k).map fw ++ [fw y] := by
  rw [take_next h, List.map_append]
  rfl
set_option maxHeartbeats 3200000 in
set_option maxRecDepth 100000 in
theorem fews_any (l : List ByteArray) (v : Value) (w : World) (hv : Sg w v l) (hz : ∀ x ∈ l, x.size ≤ 9223372036854775807) :
    Calls Tryd.prog 10 #[v] w (SsPost (fws l) w) := by
  obtain ⟨A, c, rfl, hcl⟩ := hv
  have HCL := Lib.hid hcl
  have HZ := Lib.hid hz
  clear hcl hz
  obtain ⟨n, hn⟩ : ∃ n, l.length = n := ⟨_, rfl⟩
  rw [hn]
  have HN := Lib.hid hn
  clear hn
  obtain ⟨i0, hi, hz0, hz1, hz2⟩ := info_parts infoStr
  go_enter Tryd.func10, Tryd.ntmps10
  go_wp2
  go_loopw [3, 4] (fun v i wr => ∃ (k : Nat) (out : List ByteArray), k ≤ n ∧ k ≤ 30 ∧ i = .int .i64 k ∧ out.length = k ∧ out = (l.take k).map fw ∧ wr.ownsRow w.heap.size 9 1 v out.length (sv out) ∧ Below w.heap.size w wr) (fun _ i _ => 31 - (intOf i).toNat)
  case atStart => exact ⟨0, [], Nat.zero_le _, Nat.zero_le _, rfl, rfl, rfl, World.ownsRow_nil _ _ _ _, Below.refl _ _⟩
  case round =>
    obtain ⟨k, out, hk, hk30, rfl, hol, hout, hown, hbw⟩ := hrel
    have hbs := hbw.size
    have HOUT := Lib.hid hout
    have HOWN := Lib.hid hown
    have HBW := Lib.hid hbw
    clear hout hown
    by_cases hlt : k < n
    · by_cases h30 : k < 30
      · obtain ⟨y, hy⟩ : ∃ y, l[k]? = some y := ⟨_, List.getElem?_eq_getElem (by rw [HN.out]; exact hlt)⟩
        obtain ⟨ad, rfl, hblt, hcell0⟩ := HCL.out k y hy
        have hcell := (hbw.cell (p := ad.add k) (by rw [addBlock]; exact hblt)).trans hcell0
        have cF := fun W => few_any y W (HZ.out y (List.mem_of_getElem? hy))
        have HNEXT := Lib.hid (fws_next hy)
        have hyz := fw_le y
        obtain ⟨Y, hY⟩ : ∃ Y, fw y = Y := ⟨_, rfl⟩
        rw [hY] at cF HNEXT hyz
        clear hy hcell0 hbw hY
        go_wp2_with fail
        refine (cF _).mono ?_
        rintro e w2 ⟨rfl, rfl⟩
        go_wp2_with (at_builtin; (refine wpList_append_own _ rfl _ _ 22 rfl w.heap.size 9 i0 (.string ⟨#[]⟩) 1 16 Tryd.underlying22 hi hz0 hz1 hz2 rfl (by decide) _ _ _ rfl (HOWN.out.alloc _) ⟨wr.heap.size, 0, none⟩ 1 1 [.string Y] rfl rfl (cell_one_new _ _ _) (fun x hx => by simp at hx; subst hx; rfl) (by unfold maxLen; omega) (by omega) (by simp; omega) ?_); intro v' w4 hown4 hgrow4 _)
        have hbel := (HBW.out.alloc hbs _).grown hgrow4 (by simp; omega) (fun g hg => (HOWN.out.lt g hg).1)
        have HBEL4 := Lib.hid hbel
        have HOWN4 := Lib.hid hown4
        clear hown4 hgrow4 hbel
        go_roundw
        case rel => exact ⟨k + 1, out ++ [Y], by omega, by omega, by go_num, by simp; omega, by rw [HNEXT.out, HOUT.out], by simpa [sv] using HOWN4.out, HBEL4.out⟩
        case measure => simp [intOf]; omega
      · have HE := Lib.hid (fws_end (l := l) (k := k) hk30 (.inr (by omega)))
        have hz3 : ¬ (k : Int) < 30 := by omega
        clear hbw
        go_wp2
        go_ret
        exact ss_own (by rw [HE.out, HOUT.out]) HOWN.out HBW.out
    · have HE := Lib.hid (fws_end (l := l) (k := k) hk30 (.inl (by rw [HN.out]; omega)))
      clear hbw
      go_wp2
      go_ret
      exact ss_own (by rw [HE.out, HOUT.out]) HOWN.out HBW.out

/-! ### works -/
theorem works_mv : mvR ⟨#[97, 46, 98, 46, 99]⟩ ⟨#[97, 46, 98]⟩ ⟨#[120]⟩ = (⟨#[120, 46, 99]⟩, 0) := by kernel_rfl
def Atk : List ByteArray := [⟨#[97]⟩, ⟨#[97, 49]⟩]
theorem works_fr : frR ⟨#[97]⟩ Atk = (⟨#[97, 50]⟩, 0) := by
  have e1 : frk ⟨#[97]⟩ 1 = ⟨#[97, 49]⟩ := by
    unfold frk
    rw [if_neg (by omega), Lib.decDigits_one (by omega)]
    rfl
  have e2 : frk ⟨#[97]⟩ 2 = ⟨#[97, 50]⟩ := by
    unfold frk
    rw [if_neg (by omega), Lib.decDigits_one (by omega)]
    rfl
  have hf : IsFree ⟨#[97]⟩ Atk 2 := by
    refine ⟨fun j hj => ?_, ?_⟩
    · have h' : j = 0 ∨ j = 1 := by omega
      rcases h' with rfl | rfl
      · exact List.mem_cons_self
      · rw [e1]; exact List.mem_cons_of_mem _ List.mem_cons_self
    · rw [e2]
      intro hm
      rcases List.mem_cons.1 hm with h | hm
      · exact absurd (congrArg ByteArray.size h) (by decide)
      · rcases List.mem_cons.1 hm with h | hm
        · exact absurd (congrArg (fun x => x.data.toList) h) (by decide)
        · cases hm
  rw [fr_yes (by kernel_rfl) hf, e2]
  have : nck ⟨#[97, 50]⟩ = true := by kernel_rfl
  rw [this]
  rfl
set_option maxHeartbeats 3200000 in
set_option maxRecDepth 100000 in
theorem works_any (w : World) (hL : Nx w) : Calls Tryd.prog 24 #[] w (NmPost true w) := by
  have c1 := move_any ⟨#[97, 46, 98, 46, 99]⟩ ⟨#[97, 46, 98]⟩ ⟨#[120]⟩ w (by decide) (by decide) (by decide) hL
  rw [works_mv] at c1
  have HNX := Lib.hid hL
  clear hL
  go_enter Tryd.func24, Tryd.ntmps24
  go_wp2_with fail
  refine c1.mono ?_
  rintro e w1 ⟨rfl, hb1⟩
  have HB1 := Lib.hid hb1
  clear hb1
  go_wp2_with fail
  have hs1 := HB1.out.size
  have hba := HB1.out.alloc hs1 (.cells #[.string ⟨#[97]⟩, .string ⟨#[97, 49]⟩] 9)
  have HBA := Lib.hid hba
  have hss : Ss (w1.alloc (.cells #[.string ⟨#[97]⟩, .string ⟨#[97, 49]⟩] 9)) (w1.alloc (.cells #[.string ⟨#[97]⟩, .string ⟨#[97, 49]⟩] 9)).heap.size (.slice (some ⟨w1.heap.size, 0, none⟩) 2 2) Atk := by
    refine ⟨_, _, rfl, Nat.le_refl _, fun j u hu => ⟨w1.heap.size, 0, rfl, heap_lt (heap_alloc_new w1 _), ?_⟩⟩
    rw [cell_of_row _ _ _ _ _ _ (heap_alloc_new w1 _)]
    have h' : j = 0 ∨ j = 1 := by
      have := (List.getElem?_eq_some_iff.1 hu).1
      simp [Atk] at this
      omega
    rcases h' with rfl | rfl
    · simp [Atk] at hu; subst hu; rfl
    · simp [Atk] at hu; subst hu; rfl
  have c2 := fresh_any ⟨#[97]⟩ Atk _ _ hss (by decide) (by intro x hx; rcases List.mem_cons.1 hx with rfl | hx; decide; rcases List.mem_cons.1 hx with rfl | hx; decide; cases hx) (by decide) (HNX.out.below HBA.out)
  rw [works_fr] at c2
  clear hba hss
  refine c2.mono ?_
  rintro e w2 ⟨rfl, hb2⟩
  have hfin := HBA.out.trans (hb2.mono HBA.out.size)
  clear hb2
  go_wp2
  go_ret
  exact nm_ret rfl hfin
end Go.Proofs.YtagocfifagnpkaaDoor
