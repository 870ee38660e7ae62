/-
  The library's Cut at a dot; the program's Split: what they tell.
-/
import Derived.Test.YtagocfifagnpkaaDoorNChk
namespace Go.Proofs.YtagocfifagnpkaaDoor
open Go.RowKit

/-- A call draws, and leaves the rest. -/
theorem cut_no {s : ByteArray} (h : (46 : UInt8) ∉ s.data.toList) (hs : s.size ≤ 1000000000) (w : World) (hL : Nx w) :
    Calls Tryd.prog 40 #[.string s, .string ⟨#[46]⟩] w fun e w' => e = .returned (.tuple #[.string s, .string ⟨#[]⟩, .bool false]) ∧ Below w.heap.size w w' := by
  obtain ⟨m, hm⟩ := hL.2
  refine (Tryd.strings_Cut s ⟨#[46]⟩ m w (by omega) hm).mono fun e w' ⟨he, n, hw⟩ => ⟨?_, ?_⟩
  · rw [he]
    have e1 : Lib.cut s.data.toList (ByteArray.mk #[46]).data.toList = (s.data.toList, [], false) := cut_none h
    rw [e1]
  · rw [hw]; exact below_drewN' (Below.refl _ _) n
theorem cut_yes {s : ByteArray} {a r : List UInt8} (h : (46 : UInt8) ∉ a) (hsr : s.data.toList = a ++ 46 :: r) (hs : s.size ≤ 1000000000) (w : World) (hL : Nx w) :
    Calls Tryd.prog 40 #[.string s, .string ⟨#[46]⟩] w fun e w' => e = .returned (.tuple #[.string (tx a), .string (tx r), .bool true]) ∧ Below w.heap.size w w' := by
  obtain ⟨m, hm⟩ := hL.2
  refine (Tryd.strings_Cut s ⟨#[46]⟩ m w (by omega) hm).mono fun e w' ⟨he, n, hw⟩ => ⟨?_, ?_⟩
  · rw [he]
    have e1 : Lib.cut s.data.toList (ByteArray.mk #[46]).data.toList = (a, r, true) := by rw [hsr]; exact cut_at h
    rw [e1]
    rfl
  · rw [hw]; exact below_drewN' (Below.refl _ _) n
/-- Both at once. -/
def ctx (s : ByteArray) : ByteArray × ByteArray × Bool := (tx (Lib.cut s.data.toList [46]).1, tx (Lib.cut s.data.toList [46]).2.1, (Lib.cut s.data.toList [46]).2.2)
theorem cut_any (s : ByteArray) (hs : s.size ≤ 1000000000) (w : World) (hL : Nx w) :
    Calls Tryd.prog 40 #[.string s, .string ⟨#[46]⟩] w fun e w' => e = .returned (.tuple #[.string (ctx s).1, .string (ctx s).2.1, .bool (ctx s).2.2]) ∧ Below w.heap.size w w' := by
  obtain ⟨m, hm⟩ := hL.2
  exact (Tryd.strings_Cut s ⟨#[46]⟩ m w (by omega) hm).mono fun e w' ⟨he, n, hw⟩ => ⟨he, by rw [hw]; exact below_drewN' (Below.refl _ _) n⟩
theorem ctx_pc (s : ByteArray) : pc s = (ctx s).1 :: (if (ctx s).2.2 then pc (ctx s).2.1 else []) ∧ (ctx s).1.size ≤ s.size ∧ ((ctx s).2.2 = true → (ctx s).2.1.size < s.size) ∧ ((ctx s).2.2 = false → (ctx s).2.1 = ⟨#[]⟩) := by
  unfold ctx
  rcases dot_in s.data.toList with h | ⟨a, r, hs, h⟩
  · rw [cut_none h]
    refine ⟨?_, by rw [tx_of]; exact Nat.le_refl _, fun h => by simp at h, fun _ => rfl⟩
    unfold pc
    rw [pcl_none h]
    rfl
  · rw [hs, cut_at h]
    have hz : s.size = a.length + (r.length + 1) := by rw [Lib.size_eq, hs]; simp
    refine ⟨?_, by rw [tx_size]; dsimp only; omega, fun _ => by rw [tx_size]; dsimp only; omega, fun h => by simp at h⟩
    unfold pc
    rw [hs, pcl_at h]
    rfl

/-- What a text still has in it. -/
def more (m : Bool) (x : ByteArray) : List ByteArray := if m then pc x else []
theorem more_false (x : ByteArray) : more false x = [] := rfl
theorem more_true (x : ByteArray) : more true x = pc x := rfl
theorem more_next {s x p y : ByteArray} {m : Bool} {done : List ByteArray} (h : pc s = done ++ more true x) (hc : ctx x = (p, y, m)) : pc s = (done ++ [p]) ++ more m y := by
  rw [h, more_true, (ctx_pc x).1, hc]
  simp [more]
theorem split_bad {s x p y : ByteArray} {m : Bool} {done : List ByteArray} (h : pc s = done ++ more true x) (hc : ctx x = (p, y, m)) (hp : nck p = false) : splt s = [] := by
  apply splt_not
  unfold long
  rw [more_next h hc, List.all_append, List.all_append]
  simp [hp]
theorem split_end {s x : ByteArray} {done : List ByteArray} (h : pc s = done ++ more false x) (hn : done.all nck = true) (hs : s.size ≤ 128) : splt s = done := by
  rw [more_false, List.append_nil] at h
  rw [splt_long (long_is.2 ⟨hs, by rw [h]; exact hn⟩), h]
theorem all_snoc {l : List ByteArray} {x : ByteArray} {f : ByteArray → Bool} (h : l.all f = true) (hx : f x = true) : (l ++ [x]).all f = true := by rw [List.all_append, h]; simp [hx]
def mea (m : Bool) (x : ByteArray) : Nat := if m then x.size + 1 else 0

def SplRel (s : ByteArray) (W : World) (x v m : Value) (wr : World) : Prop :=
  ∃ (X : ByteArray) (b : Bool) (done : List ByteArray), x = .string X ∧ m = .bool b ∧ X.size ≤ 128 ∧ done.length + mea b X ≤ 130 ∧ pc s = done ++ more b X ∧ done.all nck = true ∧ wr.ownsRow W.heap.size 9 1 v done.length (sv done) ∧ Below W.heap.size W wr ∧ Nx wr
set_option maxHeartbeats 3200000 in
set_option maxRecDepth 100000 in
theorem split_any (s : ByteArray) (w : World) (hs : s.size ≤ 1000000000) (hL : Nx w) : Calls Tryd.prog 18 #[.string s] w (SsPost (splt s) w) := by
  by_cases hbig : s.size ≤ 128
  · have hz : ¬ (128 : Int) < (s.size : Int) := by omega
    obtain ⟨i0, hi, hz0, hz1, hz2⟩ := info_parts infoStr
    have HBIG := Lib.hid hbig
    have HNX := Lib.hid hL
    clear hL
    go_enter Tryd.func18, Tryd.ntmps18
    go_wp2
    go_loopw [0, 3, 4, 5] (fun x v m p wr => SplRel s w x v m wr) (fun x _ m _ _ => match x, m with | .string X, .bool b => mea b X | _, _ => 0)
    case atStart => exact ⟨s, true, [], rfl, rfl, hbig, by simp [mea]; omega, by simp [more], rfl, World.ownsRow_nil _ _ _ _, Below.refl _ _, HNX.out⟩
    case round =>
      obtain ⟨X, b, done, rfl, rfl, hx, hmz, hpc, hall, hown, hbel, hnx⟩ := hrel
      have hbs := hbel.size
      have HOWN := Lib.hid hown
      have HBEL := Lib.hid hbel
      have HALL := Lib.hid hall
      have HN := Lib.hid hnx
      cases b
      · have HEND := Lib.hid (split_end hpc hall HBIG.out)
        clear hown hbel hall hnx hpc
        go_wp2
        go_ret
        exact ss_own HEND.out HOWN.out HBEL.out
      · obtain ⟨p, y, m, hc⟩ : ∃ p y m, ctx X = (p, y, m) := ⟨_, _, _, rfl⟩
        have cC := cut_any X (by omega) wr hnx
        have hcx := ctx_pc X
        rw [hc] at cC hcx
        dsimp only at cC hcx
        obtain ⟨_, hcx1, hcx2, hcx3⟩ := hcx
        have hpz : p.size ≤ 128 := by omega
        have hyz : y.size ≤ 128 := by
          cases m
          · rw [hcx3 rfl]; exact Nat.zero_le _
          · have := hcx2 rfl; omega
        have hme : mea m y + 1 ≤ mea true X := by
          unfold mea
          cases m
          · simp
          · have := hcx2 rfl; simp; omega
        have cK := fun W => check_any p W (by omega)
        obtain ⟨b, hb⟩ : ∃ b, nck p = b := ⟨_, rfl⟩
        rw [hb] at cK
        have HB := Lib.hid hb
        have HC := Lib.hid hc
        have HPC := Lib.hid hpc
        have HME := Lib.hid hme
        have hdl : done.length ≤ 130 := by omega
        have HMZ := Lib.hid hmz
        clear hown hbel hall hnx hpc hb hc hcx1 hcx2 hcx3 hme hmz
        go_wp2_with fail
        refine cC.mono ?_
        rintro e w1 ⟨rfl, hb1⟩
        have HB1 := Lib.hid hb1
        clear hb1
        go_wp2_with fail
        refine (cK _).mono ?_
        rintro e w2 ⟨rfl, hb2⟩
        have hbw2 := HBEL.out.trans ((chn HB1.out hb2).mono hbs)
        have hown2 := own_below HOWN.out (chn HB1.out hb2)
        have HOWN2 := Lib.hid hown2
        have HBW2 := Lib.hid hbw2
        have HN2 := Lib.hid (HN.out.below (chn HB1.out hb2))
        have hs2 := hbw2.size
        clear hown2 hb2 hbw2
        cases b
        · go_wp2
          go_ret
          exact ss_nil (split_bad HPC.out HC.out HB.out) HBW2.out
        · go_wp2_with (at_builtin; (refine wpList_append_own _ rfl _ _ 22 rfl w.heap.size 9 i0 (.string ⟨#[]⟩) 1 16 Tryd.underlying22 hi hz0 hz1 hz2 rfl (by decide) _ _ _ rfl (HOWN2.out.alloc _) ⟨w2.heap.size, 0, none⟩ 1 1 [.string p] rfl rfl (cell_one_new _ _ _) (fun x hx => by simp at hx; subst hx; rfl) (by unfold maxLen; omega) (by omega) (by simp; omega) ?_); intro v' w4 hown4 hgrow4 _)
          have hbel := (HBW2.out.alloc hs2 _).grown hgrow4 (by simp; omega) (fun g hg => (HOWN2.out.lt g hg).1)
          have hlt4 := hgrow4.size
          have HBEL4 := Lib.hid hbel
          have HOWN4 := Lib.hid hown4
          clear hown4 hgrow4
          go_roundw
          case rel => exact ⟨y, m, done ++ [p], rfl, rfl, hyz, by have := HME.out; have := HMZ.out; simp; omega, more_next HPC.out HC.out, all_snoc HALL.out HB.out, by simpa [sv] using HOWN4.out, HBEL4.out, HNX.out.below HBEL4.out⟩
          case measure => exact HME.out
  · have hz : (128 : Int) < (s.size : Int) := by omega
    go_enter Tryd.func18, Tryd.ntmps18
    go_wp2
    go_ret
    exact ss_nil (splt_not (by unfold long; rw [decide_eq_false hbig]; rfl)) (Below.refl _ _)
end Go.Proofs.YtagocfifagnpkaaDoor
