/-
  Words for the walks of layer 3: a slice of texts that reads as a list; what calls leave.
-/
import Derived.Test.YthonaeigacfmbaaGreatDoorGq11
import Derived.Laws.Tables
import Derived.Lib.AppendIntMem
import Derived.Lib.AtoiAll
import Derived.Lib.AtoiErrMem
namespace Go.Proofs.YthonaeigacfmbaaGreatDoor.B
open Go.RowKit

def sv (l : List ByteArray) : List Value := l.map Value.string
theorem sv_len (l : List ByteArray) : (sv l).length = l.length := by simp [sv]
def Ss (w : World) (B : Nat) (v : Value) (l : List ByteArray) : Prop :=
  ∃ A c, v = .slice A l.length c ∧ l.length ≤ c ∧ ∀ (j : Nat) (u : ByteArray), l[j]? = some u → ∃ b o, A = some ⟨b, o, none⟩ ∧ b < B ∧ w.cell? ⟨b, o + j, none⟩ = some (.string u)
theorem Ss.below {w w' : World} {B : Nat} {v : Value} {l : List ByteArray} (h : Ss w B v l) (hb : Below B w w') : Ss w' B v l := by
  obtain ⟨A, c, hv, hlc, hc⟩ := h
  refine ⟨A, c, hv, hlc, fun j u hu => ?_⟩
  obtain ⟨b, o, hA, hlt, hcell⟩ := hc j u hu
  exact ⟨b, o, hA, hlt, (hb.cell hlt).trans hcell⟩
theorem Ss.more {w : World} {B B' : Nat} {v : Value} {l : List ByteArray} (h : Ss w B v l) (hB : B ≤ B') : Ss w B' v l := by
  obtain ⟨A, c, hv, hlc, hc⟩ := h
  refine ⟨A, c, hv, hlc, fun j u hu => ?_⟩
  obtain ⟨b, o, hA, hlt, hcell⟩ := hc j u hu
  exact ⟨b, o, hA, by omega, hcell⟩
theorem Ss.nil (w : World) (B : Nat) : Ss w B (.slice none 0 0) [] := ⟨none, 0, rfl, Nat.le_refl _, fun j u hu => by simp at hu⟩
theorem Ss.own {w : World} {base : Nat} {e : TypeId} {v : Value} {n : Nat} {l : List ByteArray} (h : w.ownsRow base e 1 v n (sv l)) : Ss w w.heap.size v l := by
  have hn : l.length = n := by have := h.1; rw [sv_len] at this; omega
  subst hn
  rcases h.2 with ⟨hv, h0⟩ | ⟨g, cap, cur, hv, _, hh, hc, _⟩
  · have hl : l = [] := List.eq_nil_of_length_eq_zero h0
    subst hl
    exact ⟨none, 0, hv, Nat.le_refl _, fun j u hu => by simp at hu⟩
  · refine ⟨some ⟨g, 0, none⟩, cap, hv, hc, fun j u hu => ⟨g, 0, rfl, heap_lt hh, ?_⟩⟩
    have := h.cells (g := g) (by rw [hv]; rfl) j (.string u) (by simp [sv, hu])
    have e : (⟨g, 0, none⟩ : Addr).add j = ⟨g, 0 + j, none⟩ := by unfold Addr.add; split <;> simp_all
    rw [← e]
    simpa using this
theorem Ss.form {w : World} {B : Nat} {v : Value} {l : List ByteArray} (h : Ss w B v l) (h0 : 0 < l.length) :
    ∃ b o c, v = .slice (some ⟨b, o, none⟩) l.length c ∧ l.length ≤ c ∧ b < B ∧ ∀ (j : Nat) (u : ByteArray), l[j]? = some u → w.cell? ⟨b, o + j, none⟩ = some (.string u) := by
  obtain ⟨A, c, hv, hlc, hc⟩ := h
  obtain ⟨b, o, hA, hlt, _⟩ := hc 0 l[0] (List.getElem?_eq_getElem h0)
  refine ⟨b, o, c, by rw [hv, hA], hlc, hlt, fun j u hu => ?_⟩
  obtain ⟨b', o', hA', _, hcell⟩ := hc j u hu
  rw [hA] at hA'
  injection hA' with hA'
  injection hA' with h1 h2
  subst h1 h2
  exact hcell
theorem own_below {w w' : World} {base : Nat} {e : TypeId} {size : Nat} {v : Value} {n : Nat} {xs : List Value} (h : w.ownsRow base e size v n xs) (hb : Below w.heap.size w w') : w'.ownsRow base e size v n xs := by
  refine ⟨h.1, ?_⟩
  rcases h.2 with h2 | ⟨g, cap, cur, hv, hbg, hh, d⟩
  · exact .inl h2
  · exact .inr ⟨g, cap, cur, hv, hbg, heap_below hh hb, d⟩
theorem infoStr : (Tryz.prog.info? 9).map (fun i => (i.zero, i.size, i.bytes)) = some (some (.string ⟨#[]⟩), 1, 16) := by kernel_rfl

def SsPost (l : List ByteArray) (W : World) (e : Ending) (w' : World) : Prop := ∃ v, e = .returned v ∧ Ss w' w'.heap.size v l ∧ Below W.heap.size W w'
theorem nm_ret {b c : Bool} {W w' : World} (h : c = b) (hb : Below W.heap.size W w') : NmPost c W (.returned (.bool b)) w' := ⟨by rw [h], hb⟩
theorem ss_nil {l : List ByteArray} {W w' : World} (h : l = []) (hb : Below W.heap.size W w') : SsPost l W (.returned (.slice none 0 0)) w' := by subst h; exact ⟨_, rfl, Ss.nil _ _, hb⟩
theorem ss_own {l l' : List ByteArray} {W w' : World} {base : Nat} {e : TypeId} {v : Value} {n : Nat} (h : l = l') (ho : w'.ownsRow base e 1 v n (sv l')) (hb : Below W.heap.size W w') : SsPost l W (.returned v) w' := by subst h; exact ⟨_, rfl, Ss.own ho, hb⟩

/-! ### lists, place by place -/
theorem all_upto {l : List ByteArray} {f : ByteArray → Bool} (h : ∀ (j : Nat) y, j < l.length → l[j]? = some y → f y = true) : (l.all f) = true := by
  rw [List.all_eq_true]
  intro y hy
  obtain ⟨j, hj, rfl⟩ := List.getElem_of_mem hy
  exact h j _ hj (List.getElem?_eq_getElem hj)
theorem all_not {l : List ByteArray} {f : ByteArray → Bool} {j : Nat} {y : ByteArray} (h : l[j]? = some y) (hp : f y = false) : (l.all f) = false := by
  rw [List.all_eq_false]
  exact ⟨y, List.mem_of_getElem? h, by rw [hp]; simp⟩
theorem upto_next {l : List ByteArray} {Q : Nat → ByteArray → Prop} {k : Nat} {y : ByteArray} (h : ∀ (j : Nat) y, j < k → l[j]? = some y → Q j y) (hy : l[k]? = some y) (hq : Q k y) : ∀ (j : Nat) y, j < k + 1 → l[j]? = some y → Q j y := by
  intro j z hj hz
  rcases Nat.lt_or_ge j k with h1 | h1
  · exact h j z h1 hz
  · obtain rfl : j = k := by omega
    rw [hy] at hz
    injection hz with hz
    rw [← hz]; exact hq
end Go.Proofs.YthonaeigacfmbaaGreatDoor.B
namespace Go.Proofs.YthonaeigacfmbaaGreatDoor.B
open Go.RowKit

theorem nck_of {s : ByteArray} {a b : Bool} (ha : nm s = a) (hb : wrd s = b) : nck s = (a && !b) := by unfold nck; rw [ha, hb]
set_option maxHeartbeats 1600000 in
set_option maxRecDepth 100000 in
theorem check_any (s : ByteArray) (w : World) (hs : s.size ≤ 1000000000) : Calls Tryz.prog 170 #[.string s] w (NmPost (nck s) w) := by
  have cN := fun W => goodName s W hs
  have cW := fun W => word_any s W
  obtain ⟨a, ha⟩ : ∃ a, nm s = a := ⟨_, rfl⟩
  obtain ⟨b, hb⟩ : ∃ b, wrd s = b := ⟨_, rfl⟩
  have HA := Lib.hid (nck_of ha hb)
  rw [ha] at cN
  rw [hb] at cW
  clear ha hb
  cases a
  · go_enter Tryz.func170, Tryz.ntmps170
    go_wp2_with fail
    refine (cN _).mono ?_
    rintro e w1 ⟨rfl, hb1⟩
    go_wp2
    go_ret
    exact nm_ret HA.out hb1
  · go_enter Tryz.func170, Tryz.ntmps170
    go_wp2_with fail
    refine (cN _).mono ?_
    rintro e w1 ⟨rfl, hb1⟩
    go_wp2_with fail
    refine (cW _).mono ?_
    rintro e w2 ⟨rfl, rfl⟩
    go_wp2
    go_ret
    exact nm_ret (by rw [HA.out]; rfl) hb1
end Go.Proofs.YthonaeigacfmbaaGreatDoor.B
namespace Go.Proofs.YthonaeigacfmbaaGreatDoor.B
open Go.RowKit

def ctx (s : ByteArray) : ByteArray × ByteArray × Bool := (tx (Lib.cut s.data.toList [46]).1, tx (Lib.cut s.data.toList [46]).2.1, (Lib.cut s.data.toList [46]).2.2)
theorem cut_any (s : ByteArray) (hs : s.size ≤ 1000000000) (w : World) (hL : Nx w) :
    Calls Tryz.prog 169 #[.string s, .string ⟨#[46]⟩] w fun e w' => e = .returned (.tuple #[.string (ctx s).1, .string (ctx s).2.1, .bool (ctx s).2.2]) ∧ Below w.heap.size w w' := by
  obtain ⟨m, hm⟩ := hL.2
  exact (Tryz.strings_Cut s ⟨#[46]⟩ m w (by omega) hm).mono fun e w' ⟨he, n, hw⟩ => ⟨he, by rw [hw]; exact below_drewN' (Below.refl _ _) n⟩
theorem ctx_pc (s : ByteArray) : pc s = (ctx s).1 :: (if (ctx s).2.2 then pc (ctx s).2.1 else []) ∧ (ctx s).1.size ≤ s.size ∧ ((ctx s).2.2 = true → (ctx s).2.1.size < s.size) ∧ ((ctx s).2.2 = false → (ctx s).2.1 = ⟨#[]⟩) := by
  unfold ctx
  rcases dot_in s.data.toList with h | ⟨a, r, hs, h⟩
  · rw [cut_none h]
    refine ⟨?_, by rw [tx_of]; exact Nat.le_refl _, fun h => by simp at h, fun _ => rfl⟩
    unfold pc
    rw [pcl_none h]
    rfl
  · rw [hs, cut_at h]
    have hz : s.size = a.length + (r.length + 1) := by rw [Lib.size_eq, hs]; simp
    refine ⟨?_, by rw [tx_size]; dsimp only; omega, fun _ => by rw [tx_size]; dsimp only; omega, fun h => by simp at h⟩
    unfold pc
    rw [hs, pcl_at h]
    rfl

def more (m : Bool) (x : ByteArray) : List ByteArray := if m then pc x else []
theorem more_false (x : ByteArray) : more false x = [] := rfl
theorem more_true (x : ByteArray) : more true x = pc x := rfl
theorem more_next {s x p y : ByteArray} {m : Bool} {done : List ByteArray} (h : pc s = done ++ more true x) (hc : ctx x = (p, y, m)) : pc s = (done ++ [p]) ++ more m y := by
  rw [h, more_true, (ctx_pc x).1, hc]
  simp [more]
theorem split_bad {s x p y : ByteArray} {m : Bool} {done : List ByteArray} (h : pc s = done ++ more true x) (hc : ctx x = (p, y, m)) (hp : nck p = false) : splt s = [] := by
  apply splt_not
  unfold long
  rw [more_next h hc, List.all_append, List.all_append]
  simp [hp]
theorem split_end {s x : ByteArray} {done : List ByteArray} (h : pc s = done ++ more false x) (hn : done.all nck = true) (hs : s.size ≤ 128) : splt s = done := by
  rw [more_false, List.append_nil] at h
  rw [splt_long (long_is.2 ⟨hs, by rw [h]; exact hn⟩), h]
theorem all_snoc {l : List ByteArray} {x : ByteArray} {f : ByteArray → Bool} (h : l.all f = true) (hx : f x = true) : (l ++ [x]).all f = true := by rw [List.all_append, h]; simp [hx]
def mea (m : Bool) (x : ByteArray) : Nat := if m then x.size + 1 else 0

def SplRel (s : ByteArray) (W : World) (x v m : Value) (wr : World) : Prop :=
  ∃ (X : ByteArray) (b : Bool) (done : List ByteArray), x = .string X ∧ m = .bool b ∧ X.size ≤ 128 ∧ done.length + mea b X ≤ 130 ∧ pc s = done ++ more b X ∧ done.all nck = true ∧ wr.ownsRow W.heap.size 9 1 v done.length (sv done) ∧ Below W.heap.size W wr ∧ Nx wr
set_option maxHeartbeats 3200000 in
set_option maxRecDepth 100000 in
theorem split_any (s : ByteArray) (w : World) (hs : s.size ≤ 1000000000) (hL : Nx w) : Calls Tryz.prog 98 #[.string s] w (SsPost (splt s) w) := by
  by_cases hbig : s.size ≤ 128
  · have hz : ¬ (128 : Int) < (s.size : Int) := by omega
    obtain ⟨i0, hi, hz0, hz1, hz2⟩ := info_parts infoStr
    have HBIG := Lib.hid hbig
    have HNX := Lib.hid hL
    clear hL
    go_enter Tryz.func98, Tryz.ntmps98
    go_wp2
    go_loopw [0, 3, 4, 5] (fun x v m p wr => SplRel s w x v m wr) (fun x _ m _ _ => match x, m with | .string X, .bool b => mea b X | _, _ => 0)
    case atStart => exact ⟨s, true, [], rfl, rfl, hbig, by simp [mea]; omega, by simp [more], rfl, World.ownsRow_nil _ _ _ _, Below.refl _ _, HNX.out⟩
    case round =>
      obtain ⟨X, b, done, rfl, rfl, hx, hmz, hpc, hall, hown, hbel, hnx⟩ := hrel
      have hbs := hbel.size
      have HOWN := Lib.hid hown
      have HBEL := Lib.hid hbel
      have HALL := Lib.hid hall
      have HN := Lib.hid hnx
      cases b
      · have HEND := Lib.hid (split_end hpc hall HBIG.out)
        clear hown hbel hall hnx hpc
        go_wp2
        go_ret
        exact ss_own HEND.out HOWN.out HBEL.out
      · obtain ⟨p, y, m, hc⟩ : ∃ p y m, ctx X = (p, y, m) := ⟨_, _, _, rfl⟩
        have cC := cut_any X (by omega) wr hnx
        have hcx := ctx_pc X
        rw [hc] at cC hcx
        dsimp only at cC hcx
        obtain ⟨_, hcx1, hcx2, hcx3⟩ := hcx
        have hpz : p.size ≤ 128 := by omega
        have hyz : y.size ≤ 128 := by
          cases m
          · rw [hcx3 rfl]; exact Nat.zero_le _
          · have := hcx2 rfl; omega
        have hme : mea m y + 1 ≤ mea true X := by
          unfold mea
          cases m
          · simp
          · have := hcx2 rfl; simp; omega
        have cK := fun W => check_any p W (by omega)
        obtain ⟨b, hb⟩ : ∃ b, nck p = b := ⟨_, rfl⟩
        rw [hb] at cK
        have HB := Lib.hid hb
        have HC := Lib.hid hc
        have HPC := Lib.hid hpc
        have HME := Lib.hid hme
        have hdl : done.length ≤ 130 := by omega
        have HMZ := Lib.hid hmz
        clear hown hbel hall hnx hpc hb hc hcx1 hcx2 hcx3 hme hmz
        go_wp2_with fail
        refine cC.mono ?_
        rintro e w1 ⟨rfl, hb1⟩
        have HB1 := Lib.hid hb1
        clear hb1
        go_wp2_with fail
        refine (cK _).mono ?_
        rintro e w2 ⟨rfl, hb2⟩
        have hbw2 := HBEL.out.trans ((chn HB1.out hb2).mono hbs)
        have hown2 := own_below HOWN.out (chn HB1.out hb2)
        have HOWN2 := Lib.hid hown2
        have HBW2 := Lib.hid hbw2
        have HN2 := Lib.hid (HN.out.below (chn HB1.out hb2))
        have hs2 := hbw2.size
        clear hown2 hb2 hbw2
        cases b
        · go_wp2
          go_ret
          exact ss_nil (split_bad HPC.out HC.out HB.out) HBW2.out
        · go_wp2_with (at_builtin; (refine wpList_append_own _ rfl _ _ 91 rfl w.heap.size 9 i0 (.string ⟨#[]⟩) 1 16 Tryz.underlying91 hi hz0 hz1 hz2 rfl (by decide) _ _ _ rfl (HOWN2.out.alloc _) ⟨w2.heap.size, 0, none⟩ 1 1 [.string p] rfl rfl (cell_one_new _ _ _) (fun x hx => by simp at hx; subst hx; rfl) (by unfold maxLen; omega) (by omega) (by simp; omega) ?_); intro v' w4 hown4 hgrow4 _)
          have hbel := (HBW2.out.alloc hs2 _).grown hgrow4 (by simp; omega) (fun g hg => (HOWN2.out.lt g hg).1)
          have hlt4 := hgrow4.size
          have HBEL4 := Lib.hid hbel
          have HOWN4 := Lib.hid hown4
          clear hown4 hgrow4
          go_roundw
          case rel => exact ⟨y, m, done ++ [p], rfl, rfl, hyz, by have := HME.out; have := HMZ.out; simp; omega, more_next HPC.out HC.out, all_snoc HALL.out HB.out, by simpa [sv] using HOWN4.out, HBEL4.out, HNX.out.below HBEL4.out⟩
          case measure => exact HME.out
  · have hz : (128 : Int) < (s.size : Int) := by omega
    go_enter Tryz.func98, Tryz.ntmps98
    go_wp2
    go_ret
    exact ss_nil (splt_not (by unfold long; rw [decide_eq_false hbig]; rfl)) (Below.refl _ _)
end Go.Proofs.YthonaeigacfmbaaGreatDoor.B
namespace Go.Proofs.YthonaeigacfmbaaGreatDoor.B
open Go.RowKit

set_option maxHeartbeats 1600000 in
set_option maxRecDepth 100000 in
theorem long_any (s : ByteArray) (w : World) (hs : s.size ≤ 1000000000) (hL : Nx w) : Calls Tryz.prog 56 #[.string s] w (NmPost (long s) w) := by
  have cS := split_any s w hs hL
  have hln := splt_len s
  obtain ⟨l, hl⟩ : ∃ l, splt s = l := ⟨_, rfl⟩
  obtain ⟨b, hb⟩ : ∃ b, long s = b := ⟨_, rfl⟩
  rw [hl] at cS hln
  rw [hb] at hln ⊢
  have HLN := Lib.hid hln
  clear hl hb hln hL
  by_cases h0 : 0 < l.length
  · have hz : (0 : Int) < (l.length : Int) := by omega
    go_enter Tryz.func56, Tryz.ntmps56
    go_wp2_with fail
    refine cS.mono ?_
    rintro e w1 ⟨v, rfl, ⟨A, c, rfl, hlc, hcl⟩, hb⟩
    have HCL := Lib.hid hcl
    clear hcl
    go_wp2
    go_ret
    exact nm_ret (by rw [HLN.out, decide_eq_true h0]) hb
  · have hz : ¬ (0 : Int) < (l.length : Int) := by omega
    go_enter Tryz.func56, Tryz.ntmps56
    go_wp2_with fail
    refine cS.mono ?_
    rintro e w1 ⟨v, rfl, ⟨A, c, rfl, hlc, hcl⟩, hb⟩
    have HCL := Lib.hid hcl
    clear hcl
    go_wp2
    go_ret
    exact nm_ret (by rw [HLN.out, decide_eq_false h0]) hb

/-! ### parts -/
/-! ### Under -/
end Go.Proofs.YthonaeigacfmbaaGreatDoor.B
namespace Go.Proofs.YthonaeigacfmbaaGreatDoor.B
open Go.Lib

/-! ### digits read -/
def digs (d : List Nat) : Prop := ∀ r ∈ d, 48 ≤ r ∧ r ≤ 57
theorem dig_is (r : Nat) : dig r = true ↔ 48 ≤ r ∧ r ≤ 57 := by
  unfold dig
  rw [decide_eq_true_iff]
  unfold cls
  repeat' split
  all_goals omega
theorem cnt_take {f : Nat → Bool} (l : List Nat) : ∀ r ∈ l.take (cnt f l), f r = true := by
  induction l with
  | nil => intro r h; simp at h
  | cons x t ih =>
    intro r h
    unfold cnt at h
    split at h
    · rename_i hx
      rw [List.take_succ_cons] at h
      rcases List.mem_cons.1 h with rfl | h
      · exact hx
      · exact ih r h
    · simp at h
theorem digs_take (l : List Nat) : digs (l.take (cnt dig l)) := fun r hr => (dig_is r).1 (cnt_take l r hr)
theorem digs_ascii {d : List Nat} (h : digs d) : ∀ r ∈ d, r < 128 := fun r hr => by have := h r hr; omega
theorem val_ge : ∀ (d : List Nat) (a : Nat), a ≤ val a d
  | [], a => Nat.le_refl _
  | r :: t, a => by
    have := val_ge t (10 * a + (r - 48))
    show a ≤ val (10 * a + (r - 48)) t
    omega
theorem parse_val : ∀ (d : List Nat) (a : Nat), digs d → a < 18446744073709551616 → parseUint10 a (u8 d) = if val a d < 18446744073709551616 then .ok (val a d) else .range
  | [], a, _, h => by
    show _ = if a < _ then NumEnd.ok a else _
    rw [if_pos h]
    rfl
  | r :: t, a, hd, h => by
    have hr := hd r (by simp)
    have ht : digs t := fun x hx => hd x (by simp [hx])
    have hge := val_ge t (10 * a + (r - 48))
    show parseUint10 a (UInt8.ofNat r :: u8 t) = if val (10 * a + (r - 48)) t < _ then _ else _
    unfold parseUint10
    rw [u8n r (by omega), if_pos ⟨hr.1, hr.2⟩]
    by_cases h1 : 1844674407370955162 ≤ a
    · rw [if_pos h1, if_neg (by omega)]
    · rw [if_neg h1]
      by_cases h2 : 18446744073709551616 ≤ a * 10 + (r - 48)
      · rw [if_pos h2, if_neg (by omega)]
      · rw [if_neg h2, Nat.mul_comm a 10]
        exact parse_val t _ ht (by omega)
theorem atoi_digs {d : List Nat} (h : digs d) (hne : d ≠ []) : atoiAll (enc d) = if val 0 d < 9223372036854775808 then .ok (val 0 d : Int) else .range := by
  rw [enc_ascii (digs_ascii h)]
  cases d with
  | nil => exact absurd rfl hne
  | cons r t =>
    have hr := h r (by simp)
    show atoiAll (UInt8.ofNat r :: u8 t) = _
    unfold atoiAll
    simp only
    rw [u8n r (by omega), if_neg (by omega)]
    have e : parseMag (UInt8.ofNat r :: u8 t) = if val 0 (r :: t) < 18446744073709551616 then .ok (val 0 (r :: t)) else .range := by
      unfold parseMag
      rw [if_neg (by simp)]
      exact parse_val (r :: t) 0 h (by omega)
    rw [e]
    by_cases h1 : val 0 (r :: t) < 18446744073709551616
    · rw [if_pos h1]
      simp only
      by_cases h2 : val 0 (r :: t) < 9223372036854775808
      · rw [if_neg (by omega), if_neg (by omega), if_neg (by omega), if_pos h2]
      · rw [if_pos ⟨by omega, by omega⟩, if_neg h2]
    · rw [if_neg h1, if_neg (by omega)]
theorem trim_T1 (d : List Nat) : trimPrefix (enc (126 :: d)) [126] = enc d := by
  unfold trimPrefix
  have e : enc (126 :: d) = 126 :: enc d := by
    show en 126 ++ enc d = _
    rw [(wd_ascii (r := 126) (by omega)).2]
    rfl
  rw [e, if_pos (by simp [hasPrefix])]
  rfl
theorem trim_T0 {l : List Nat} (ho : okl l) (h : ∀ d, l ≠ 126 :: d) : trimPrefix (enc l) [126] = enc l := by
  unfold trimPrefix
  have e : hasPrefix (enc l) [126] = List.isPrefixOf [126] l := pre_T (p := [126]) (by decide) ho
  rw [e, if_neg]
  intro hp
  obtain ⟨d, hd⟩ := List.isPrefixOf_iff_prefix.1 hp
  exact h d (by rw [← hd]; rfl)
end Go.Proofs.YthonaeigacfmbaaGreatDoor.B
namespace Go.Proofs.YthonaeigacfmbaaGreatDoor.B
open Go.RowKit

def StrPost (s : ByteArray) (W : World) (e : Ending) (w' : World) : Prop := e = .returned (.string s) ∧ Below W.heap.size W w'
theorem itoa_any (n : Int) (h0 : -9223372036854775808 ≤ n) (h1 : n ≤ 9223372036854775807) (w : World) (hL : Lx w) :
    Calls Tryz.prog 209 #[.int .i64 n] w (StrPost ⟨(Lib.itoa n).toArray⟩ w) :=
  (Tryz.strconv_Itoa n h0 h1 w hL.2.1).mono fun _ _ ⟨he, k, os, hw⟩ => ⟨he, by rw [hw]; exact Lib.below_grow _ _ (Nat.le_refl _) k os⟩
theorem T_of {l : List UInt8} {r : List Nat} (h : l = enc r) : (⟨l.toArray⟩ : ByteArray) = T r := by rw [h]; rfl
theorem replace_any (n : Int) (h0 : -9223372036854775808 ≤ n) (h1 : n ≤ 9223372036854775807) (w : World) (hL : Lx w) :
    Calls Tryz.prog 208 #[.string ⟨(Lib.itoa n).toArray⟩, .string ⟨#[45]⟩, .string ⟨#[126]⟩, .int .i64 1] w (StrPost (T (numb n)) w) := by
  obtain ⟨m, hm⟩ := hL.2.2.1
  have hl := Lib.itoa_length_le n h0 h1
  have hc := count_itoa n
  have hsz : (ByteArray.mk (Lib.itoa n).toArray).size = (Lib.itoa n).length := by rw [Lib.size_eq]
  have hc' : Lib.countB ⟨(Lib.itoa n).toArray⟩ ⟨#[45]⟩ ≤ 1 := hc
  refine (Tryz.strings_Replace ⟨(Lib.itoa n).toArray⟩ ⟨#[45]⟩ ⟨#[126]⟩ 1 m w (by rw [hsz]; omega) hm (by decide) ?_).mono fun _ _ ⟨he, hb⟩ => ⟨?_, hb⟩
  · rw [hsz, show (ByteArray.mk #[126]).size = 1 from rfl]
    omega
  · rw [he]
    exact congrArg (fun x => Ending.returned (.string x)) (T_of (rep_itoa n))

set_option maxHeartbeats 1600000 in
set_option maxRecDepth 100000 in
theorem number_txt (n : Int) (h0 : -9223372036854775808 ≤ n) (h1 : n ≤ 9223372036854775807) (w : World) (hL : Lx w) :
    Calls Tryz.prog 150 #[.int .i64 n] w (StrPost (T (numb n)) w) := by
  have c1 := itoa_any n h0 h1 w hL
  have c2 := fun W (hL : Lx W) => replace_any n h0 h1 W hL
  obtain ⟨X, hX⟩ : ∃ X, X = T (numb n) := ⟨_, rfl⟩
  obtain ⟨Y, hY⟩ : ∃ Y : ByteArray, Y = ⟨(Lib.itoa n).toArray⟩ := ⟨_, rfl⟩
  rw [← hX] at c2 ⊢
  rw [← hY] at c1 c2
  have C2 := Lib.hid c2
  clear hX hY c2
  go_enter Tryz.func150, Tryz.ntmps150
  go_wp2_with fail
  refine c1.mono ?_
  rintro e w1 ⟨rfl, hb1⟩
  go_wp2_with fail
  refine (C2.out w1 (hL.below hb1)).mono ?_
  rintro e w2 ⟨rfl, hb2⟩
  have hfin := chn hb1 hb2
  go_wp2
  go_ret
  exact ⟨rfl, hfin⟩

theorem atoi_ok {d : List Nat} (h : digs d) (hne : d ≠ []) (hv : val 0 d < 9223372036854775808) (hsz : sz d ≤ 1000000000) (w : World) :
    Calls Tryz.prog 189 #[.string (T d)] w fun e w' => e = .returned (.tuple #[.int .i64 (val 0 d : Nat), .nilIface]) ∧ Below w.heap.size w w' := by
  refine (Tryz.strconv_Atoi_ok (T d) (by rw [T_size]; omega) (val 0 d : Nat) (by rw [T_list, atoi_digs h hne, if_pos hv]) w).mono fun _ _ ⟨he, hw⟩ => ⟨he, ?_⟩
  rcases hw with hw | ⟨t, hw⟩
  · rw [hw]; exact Below.refl _ _
  · rw [hw]; exact Lib.bytesWorld_below _ _ _
def AtoiNo (W : World) (e : Ending) (w' : World) : Prop := ∃ (z : Int) (t : TypeId) (p : Value), e = .returned (.tuple #[.int .i64 z, .iface t p]) ∧ Below W.heap.size W w'
theorem atoi_no {d : List Nat} (h : digs d) (hv : d = [] ∨ ¬ val 0 d < 9223372036854775808) (hsz : sz d ≤ 1000000000) (w : World) (hL : Lx w) :
    Calls Tryz.prog 189 #[.string (T d)] w (AtoiNo w) := by
  by_cases hd : d = []
  · subst hd
    obtain ⟨ev, h1, h2⟩ := hL.2.2.2.1
    exact (Tryz.strconv_Atoi_err (T []) (by decide) rfl ev w h1 h2).mono fun _ _ ⟨N, he, _, _, hb⟩ => ⟨_, _, _, he, hb⟩
  · obtain ⟨ev, h1, h2⟩ := hL.2.2.2.2.1
    refine (Tryz.strconv_Atoi_range (T d) (by rw [T_size]; omega) (by rw [T_list, atoi_digs h hd, if_neg (hv.resolve_left hd)]) ev w h1 h2).mono fun _ _ ⟨N, he, _, _, hb⟩ => ⟨_, _, _, he, hb⟩
end Go.Proofs.YthonaeigacfmbaaGreatDoor.B
namespace Go.Proofs.YthonaeigacfmbaaGreatDoor.B
open Go.RowKit

/-! ### a result that lies in a block of the call's own -/
theorem results_cell_two {P : Program} {fn : Func} {p q : Tmp} {ty : TypeId} (h : fn.results = #[.cell p ty, .tmp q]) (tmps : Array Value) (w : World) (g : Nat) (t : TypeId) (cs : Array Value) (fr : Nat × Nat) (d : TypeDesc)
    (hp : tmps.getD p undef = .pointer (some ⟨g, 0, none⟩)) (hg : w.heap[g]? = some (.cells cs t fr))
    (hu : P.underlying ty = some d) (hd : (match d with | .struct _ | .array _ _ => true | _ => false) = true) (hi : (P.info? ty).map (·.size) = some cs.size) :
    (results fn tmps).run P w = .ok (.tuple #[.agg cs, tmps.getD q undef]) w := by
  have hp' : tmps[p]?.getD undef = .pointer (some ⟨g, 0, none⟩) := by simpa using hp
  simp [results, h, hp', asAddr, run_loadVar_row w g t ty cs fr d hg hu hd hi]
def Rc (w : World) (B : Nat) (cs : Array Value) : Prop := w.heap[B]? = some (.cells cs 63 (0, 0))
theorem Rc.below {w w' : World} {B : Nat} {cs : Array Value} (h : Rc w B cs) (hb : Below w.heap.size w w') : Rc w' B cs := heap_below h hb
theorem Rc.cells {w : World} {B : Nat} {a b c d : Value} (h : Rc w B #[a, b, c, d]) :
    (w.cell? ⟨B, 0, none⟩ = some a ∧ w.cell? ⟨B, 1, none⟩ = some b ∧ w.cell? ⟨B, 2, none⟩ = some c ∧ w.cell? ⟨B, 3, none⟩ = some d) ∧
    (w.frozen? ⟨B, 0, none⟩ = false ∧ w.frozen? ⟨B, 1, none⟩ = false ∧ w.frozen? ⟨B, 2, none⟩ = false ∧ w.frozen? ⟨B, 3, none⟩ = false) :=
  ⟨⟨cell_of_row w B 0 _ _ _ h, cell_of_row w B 1 _ _ _ h, cell_of_row w B 2 _ _ _ h, cell_of_row w B 3 _ _ _ h⟩, ⟨frozen_of_row w B 0 _ _ h, frozen_of_row w B 1 _ _ h, frozen_of_row w B 2 _ _ h, frozen_of_row w B 3 _ _ h⟩⟩
theorem Rc.st {w : World} {B : Nat} {cs : Array Value} (h : Rc w B cs) (i : Nat) (u : Value) : Rc (w.setCell ⟨B, i, none⟩ u) B (cs.setIfInBounds i u) := by
  unfold Rc at h ⊢
  simp [World.setCell, Array.getElem?_modify, h]
def four (w : World) (B : Nat) (x y z u : Value) : World := (((w.setCell ⟨B, 0, none⟩ x).setCell ⟨B, 1, none⟩ y).setCell ⟨B, 2, none⟩ z).setCell ⟨B, 3, none⟩ u
theorem Rc.four {w : World} {B : Nat} {a b c d : Value} (h : Rc w B #[a, b, c, d]) (x y z u : Value) : Rc (four w B x y z u) B #[x, y, z, u] := (((h.st 0 x).st 1 y).st 2 z).st 3 u
theorem below_four {B g : Nat} {w w' : World} (h : Below B w w') (hg : B ≤ g) (x y z u : Value) : Below B w (four w' g x y z u) := (((h.setCell hg _).setCell hg _).setCell hg _).setCell hg _
theorem Rc.new_ (w : World) : Rc (w.alloc (.cells #[.int .i64 0, .string ⟨#[]⟩, .int .i64 0, .int .i64 0] 63)) w.heap.size #[.int .i64 0, .string ⟨#[]⟩, .int .i64 0, .int .i64 0] := heap_alloc_new w _

def NmbPost (d : List Nat) (b : Nat) (W : World) (e : Ending) (w' : World) : Prop :=
  e = .returned (.tuple #[(match digT (decide (b = 1)) d with | none => tv0 | some (t, _) => tv t 0), .int .i64 ((match digT (decide (b = 1)) d with | none => 0 | some _ => b + cnt dig d) : Nat)]) ∧ Below W.heap.size W w'
theorem nmb_none {d : List Nat} {b : Nat} {W w' : World} (h : digT (decide (b = 1)) d = none) (hb : Below W.heap.size W w') : NmbPost d b W (.returned (.tuple #[.agg #[.int .i64 0, .string ⟨#[]⟩, .int .i64 0, .int .i64 0], .int .i64 0])) w' := by
  unfold NmbPost
  rw [h]
  exact ⟨rfl, hb⟩
theorem nmb_some {d : List Nat} {b : Nat} {W w' : World} {v z : Int} {s : ByteArray} {t : Tok × Nat} (h : digT (decide (b = 1)) d = some t) (h1 : t.1 = ⟨2, numb v, v⟩) (hs : s = T (numb v)) (hz : z = (b + cnt dig d : Nat)) (hb : Below W.heap.size W w') :
    NmbPost d b W (.returned (.tuple #[.agg #[.int .i64 2, .string s, .int .i64 v, .int .i64 0], .int .i64 z])) w' := by
  unfold NmbPost
  rw [h, hs, hz]
  obtain ⟨t1, t2⟩ := t
  simp only at h1
  subst h1
  exact ⟨rfl, hb⟩

theorem dig_none1 {b : Bool} {d : List Nat} (h : cnt inr (d.drop (cnt dig d)) ≠ 0) : digT b d = none := by
  unfold digT; rw [if_pos (by omega)]
theorem dig_none2 {b : Bool} {d : List Nat} (h : cnt dig d = 0) : digT b d = none := by
  unfold digT
  by_cases h1 : cnt inr (d.drop (cnt dig d)) > 0
  · rw [if_pos h1]
  · rw [if_neg h1, if_pos h]
theorem dig_none3 {b : Bool} {d : List Nat} (h : 1073741824 < val 0 (d.take (cnt dig d))) : digT b d = none := by
  unfold digT
  by_cases h1 : cnt inr (d.drop (cnt dig d)) > 0
  · rw [if_pos h1]
  · rw [if_neg h1]
    by_cases h2 : cnt dig d = 0
    · rw [if_pos h2]
    · rw [if_neg h2, if_pos h]
theorem dig_some {b : Bool} {d : List Nat} {v : Int} (h1 : cnt inr (d.drop (cnt dig d)) = 0) (h2 : cnt dig d ≠ 0) (h3 : val 0 (d.take (cnt dig d)) ≤ 1073741824) (hv : v = if b then -(val 0 (d.take (cnt dig d)) : Int) else (val 0 (d.take (cnt dig d)) : Int)) :
    ∃ n, digT b d = some (⟨2, numb v, v⟩, n) := by
  unfold digT
  rw [if_neg (by omega), if_neg h2, if_neg (by omega), hv]
  cases b
  · exact ⟨_, rfl⟩
  · exact ⟨_, rfl⟩

set_option maxHeartbeats 6400000 in
set_option maxRecDepth 100000 in
theorem number_go (S : ByteArray) (d : List Nat) (b : Nat) (hb : b ≤ 1) (ho : okl d) (hsz : sz d ≤ 100000000) (hS : S.size = b + sz d) (w : World) (hL : Lx w)
    (cT : ∀ W, Calls Tryz.prog 187 #[.string S, .string ⟨#[126]⟩] W fun e w' => e = .returned (.string (T d)) ∧ W = w') :
    Calls Tryz.prog 123 #[.string S] w (NmbPost d b w) := by
  obtain ⟨k, hk⟩ : ∃ k, cnt dig d = k := ⟨_, rfl⟩
  have hkl := cnt_le dig d
  have hdg := digs_take d
  rw [hk] at hkl hdg
  have hsk : sz (d.take k) = k := by rw [sz_ascii (digs_ascii hdg), List.length_take]; omega
  have hdk : d = d.take k ++ d.drop k := (List.take_append_drop _ _).symm
  have hszk : k ≤ sz d := by have := sz_len d; omega
  have E1 : Hid ((T d).extract k (T d).size = T (d.drop k)) := Lib.hid (by
    have := T_suf (d.take k) (d.drop k)
    rw [hsk, ← hdk] at this
    rw [T_size]; exact this)
  have E2 : Hid ((T d).extract 0 k = T (d.take k)) := Lib.hid (by
    have := T_pre (d.take k) (d.drop k)
    rw [hsk, ← hdk] at this
    exact this)
  have c1 := fun W => run_isDigit (T d) W
  rw [rn_T0 dig ho, hk, hsk] at c1
  have c2 := fun W => run_goesOn (T (d.drop k)) W
  rw [rn_T0 inr (okl_drop ho k)] at c2
  have HK := Lib.hid hk
  have hTs : (T d).size = sz d := T_size d
  obtain ⟨j, hj⟩ : ∃ j, sz ((d.drop k).take (cnt inr (d.drop k))) = j := ⟨_, rfl⟩
  have HJ : Hid (j = 0 ↔ cnt inr (d.drop k) = 0) := Lib.hid (by
    have h1 := sz_len ((d.drop k).take (cnt inr (d.drop k)))
    have h2 := cnt_le inr (d.drop k)
    rw [List.length_take] at h1
    constructor
    · intro h; omega
    · intro h; rw [← hj, h]; rfl)
  have hjl : j ≤ 100000000 := by
    have h1 : sz d = sz (d.take k) + sz (d.drop k) := by rw [← sz_app, ← hdk]
    have h2 : sz (d.drop k) = sz ((d.drop k).take (cnt inr (d.drop k))) + sz ((d.drop k).drop (cnt inr (d.drop k))) := by rw [← sz_app, List.take_append_drop]
    omega
  rw [hj] at c2
  clear hj hk hdk hsk
  obtain ⟨D, hD⟩ : ∃ D, T d = D := ⟨_, rfl⟩
  rw [hD] at cT c1 hTs E1 E2
  have HD := Lib.hid hD
  have hTs1 : D.size ≤ sz d := by omega
  have hTs2 : sz d ≤ D.size := by omega
  have hS1 : S.size ≤ b + D.size := by omega
  have hS2 : b + D.size ≤ S.size := by omega
  clear hD hTs hS
  by_cases hj0 : j = 0
  · have HJ0 := Lib.hid (HJ.out.1 hj0)
    have hj0' : ¬ (0 : Int) < (j : Int) := by omega
    clear hj0
    go_enter Tryz.func123, Tryz.ntmps123
    go_wp2_with fail
    refine (cT _).mono ?_
    rintro e w' ⟨rfl, rfl⟩
    go_wp2_with fail
    refine (c1 _).mono ?_
    rintro e w1 ⟨rfl, hb1⟩
    go_wp2_with fail
    rw [E1.out]
    refine (c2 _).mono ?_
    rintro e w2 ⟨rfl, hb2⟩
    have hr2 := ((Rc.new_ w).below hb1).below hb2
    have hb3 := ((Below.refl _ _).alloc (Nat.le_refl _) _).trans ((hb1.mono (by simp)).trans (hb2.mono (by have := hb1.size; simp at this; omega)))
    have HR2 := Lib.hid hr2
    clear hr2
    by_cases hval : k ≠ 0 ∧ val 0 (d.take k) < 9223372036854775808
    · obtain ⟨v, hv⟩ : ∃ v, val 0 (d.take k) = v := ⟨_, rfl⟩
      have hsk1 : sz (d.take k) ≤ 1000000000 := by
        have h1 : sz d = sz (d.take k) + sz (d.drop k) := by rw [← sz_app, List.take_append_drop]
        omega
      have hne : d.take k ≠ [] := fun h => hval.1 (by have := congrArg List.length h; rw [List.length_take] at this; simp only [List.length_nil] at this; omega)
      have c3 := fun W => atoi_ok (d := d.take k) hdg hne hval.2 hsk1 W
      clear hsk1 hne
      rw [hv] at c3 hval
      have HV := Lib.hid hv
      have hv63 := hval.2
      have HK0 := Lib.hid hval.1
      clear hv hval
      go_wp2_with fail
      rw [E2.out]
      refine (c3 _).mono ?_
      rintro e w3 ⟨rfl, hb3'⟩
      have hr3 := HR2.out.below hb3'
      have hb4 := hb3.trans (hb3'.mono hb3.size)
      obtain ⟨⟨q0, q1, q2, q3⟩, f0, f1, f2, f3⟩ := hr3.cells
      have HR := Lib.hid hr3
      clear hr3
      by_cases hbig : 1073741824 < v
      · have hbig' : (1073741824 : Int) < (v : Int) := by omega
        go_wp2
        refine bodyPost_ret (results_cell_two rfl _ _ w.heap.size _ _ (0, 0) _ rfl (Rc.four HR.out _ _ _ _) Tryz.underlying63 rfl (by kernel_rfl)) rfl ?_
        exact nmb_none (dig_none3 (by rw [HK.out, HV.out]; exact hbig)) (below_four hb4 (Nat.le_refl _) _ _ _ _)
      · have hbig' : ¬ (1073741824 : Int) < (v : Int) := by omega
        clear q0 q1 q2 q3 f0 f1 f2 f3
        rcases (show b = 0 ∨ b = 1 by omega) with rfl | rfl
        · have hdif : (S.size : Int) - (D.size : Int) = 0 := by omega
          have cN := fun W hL => number_txt ((v : Int)) (by omega) (by omega) W hL
          obtain ⟨X, hX⟩ : ∃ X, T (numb ((v : Int))) = X := ⟨_, rfl⟩
          rw [hX] at cN
          have HX := Lib.hid hX
          have CN := Lib.hid cN
          clear cN hX
          go_wp2_with fail
          refine (CN.out w3 (hL.below hb4)).mono ?_
          rintro e w4 ⟨rfl, hb5⟩
          have hr4 := HR.out.below hb5
          have hb6 := hb4.trans (hb5.mono hb4.size)
          obtain ⟨⟨q0, q1, q2, q3⟩, f0, f1, f2, f3⟩ := hr4.cells
          have HR4 := Lib.hid hr4
          clear hr4
          go_wp2
          refine bodyPost_ret (results_cell_two rfl _ _ w.heap.size _ _ (0, 0) _ rfl (Rc.four HR4.out _ _ _ _) Tryz.underlying63 rfl (by kernel_rfl)) rfl ?_
          obtain ⟨n, hn⟩ := dig_some (b := decide (0 = 1)) (v := (v : Int)) (by rw [HK.out]; exact HJ0.out) (by rw [HK.out]; exact HK0.out) (by rw [HK.out, HV.out]; omega) (by rw [HK.out, HV.out]; rfl)
          exact nmb_some hn rfl HX.out.symm (by rw [HK.out]; first | rfl | omega | go_num) (below_four hb6 (Nat.le_refl _) _ _ _ _)
        · have hdif : (S.size : Int) - (D.size : Int) = 1 := by omega
          have cN := fun W hL => number_txt (-(v : Int)) (by omega) (by omega) W hL
          obtain ⟨X, hX⟩ : ∃ X, T (numb (-(v : Int))) = X := ⟨_, rfl⟩
          rw [hX] at cN
          have HX := Lib.hid hX
          have CN := Lib.hid cN
          clear cN hX
          go_wp2_with fail
          refine (CN.out w3 (hL.below hb4)).mono ?_
          rintro e w4 ⟨rfl, hb5⟩
          have hr4 := HR.out.below hb5
          have hb6 := hb4.trans (hb5.mono hb4.size)
          obtain ⟨⟨q0, q1, q2, q3⟩, f0, f1, f2, f3⟩ := hr4.cells
          have HR4 := Lib.hid hr4
          clear hr4
          go_wp2
          refine bodyPost_ret (results_cell_two rfl _ _ w.heap.size _ _ (0, 0) _ rfl (Rc.four HR4.out _ _ _ _) Tryz.underlying63 rfl (by kernel_rfl)) rfl ?_
          obtain ⟨n, hn⟩ := dig_some (b := decide (1 = 1)) (v := -(v : Int)) (by rw [HK.out]; exact HJ0.out) (by rw [HK.out]; exact HK0.out) (by rw [HK.out, HV.out]; omega) (by rw [HK.out, HV.out]; rfl)
          exact nmb_some hn rfl HX.out.symm (by rw [HK.out]; first | rfl | omega | go_num) (below_four hb6 (Nat.le_refl _) _ _ _ _)
    · have hsk1 : sz (d.take k) ≤ 1000000000 := by
        have h1 : sz d = sz (d.take k) + sz (d.drop k) := by rw [← sz_app, List.take_append_drop]
        omega
      have c3 := fun W hL => atoi_no (d := d.take k) hdg (by
        by_cases h : k = 0
        · left; rw [h]; rfl
        · right; exact fun hv => hval ⟨h, hv⟩) hsk1 W hL
      have C3 := Lib.hid c3
      have HV : Hid (k = 0 ∨ 1073741824 < val 0 (d.take k)) := Lib.hid (by omega)
      clear hsk1 hval c3
      go_wp2_with fail
      rw [E2.out]
      refine (C3.out w2 (hL.below hb3)).mono ?_
      rintro e w3 ⟨z, ty, p, rfl, hb3'⟩
      have hr3 := HR2.out.below hb3'
      have hb4 := hb3.trans (hb3'.mono hb3.size)
      obtain ⟨⟨q0, q1, q2, q3⟩, f0, f1, f2, f3⟩ := hr3.cells
      have HR := Lib.hid hr3
      clear hr3
      go_wp2
      refine bodyPost_ret (results_cell_two rfl _ _ w.heap.size _ _ (0, 0) _ rfl (Rc.four HR.out _ _ _ _) Tryz.underlying63 rfl (by kernel_rfl)) rfl ?_
      refine nmb_none ?_ (below_four hb4 (Nat.le_refl _) _ _ _ _)
      rcases HV.out with h | h
      · exact dig_none2 (by rw [HK.out]; exact h)
      · exact dig_none3 (by rw [HK.out]; exact h)
  · have HJ0 := Lib.hid (fun h => hj0 (HJ.out.2 h))
    have hj0' : (0 : Int) < (j : Int) := by omega
    clear hj0
    go_enter Tryz.func123, Tryz.ntmps123
    go_wp2_with fail
    refine (cT _).mono ?_
    rintro e w' ⟨rfl, rfl⟩
    go_wp2_with fail
    refine (c1 _).mono ?_
    rintro e w1 ⟨rfl, hb1⟩
    go_wp2_with fail
    rw [E1.out]
    refine (c2 _).mono ?_
    rintro e w2 ⟨rfl, hb2⟩
    have hr2 := ((Rc.new_ w).below hb1).below hb2
    have hb3 := ((Below.refl _ _).alloc (Nat.le_refl _) _).trans ((hb1.mono (by simp)).trans (hb2.mono (by have := hb1.size; simp at this; omega)))
    obtain ⟨⟨q0, q1, q2, q3⟩, f0, f1, f2, f3⟩ := hr2.cells
    have HR := Lib.hid hr2
    clear hr2
    go_wp2
    refine bodyPost_ret (results_cell_two rfl _ _ w.heap.size _ _ (0, 0) _ rfl (Rc.four HR.out _ _ _ _) Tryz.underlying63 rfl (by kernel_rfl)) rfl ?_
    exact nmb_none (dig_none1 (by rw [HK.out]; exact HJ0.out)) (below_four hb3 (Nat.le_refl _) _ _ _ _)

theorem digT_n {b : Bool} {d : List Nat} {t : Tok} {n : Nat} (h : digT b d = some (t, n)) : n = (if b then 1 else 0) + cnt dig d := by
  unfold digT at h
  split at h
  · cases h
  split at h
  · cases h
  split at h
  · cases h
  · cases b
    · simp at h; simp; omega
    · simp at h; simp; omega
theorem sz_take_dig (d : List Nat) : sz (d.take (cnt dig d)) = cnt dig d := by
  have := cnt_le dig d
  rw [sz_ascii (digs_ascii (digs_take d)), List.length_take]
  omega
theorem numT_tilde (d : List Nat) : numT (126 :: d) = digT true d := rfl
theorem numT_other {l : List Nat} (h : ∀ d, l ≠ 126 :: d) : numT l = digT false l := by
  unfold numT
  split
  · rename_i d; exact absurd rfl (h d)
  · rfl
theorem number_any (l : List Nat) (ho : okl l) (hsz : sz l ≤ 100000000) (w : World) (hL : Lx w) :
    Calls Tryz.prog 123 #[.string (T l)] w (TkPost l (numT l) w) := by
  by_cases h : ∃ d, l = 126 :: d
  · obtain ⟨d, rfl⟩ := h
    have h1 : sz (126 :: d) = 1 + sz d := by rw [sz_cons, (wd_ascii (r := 126) (by omega)).1]
    have hd := (okl_cons.1 ho).2
    refine (number_go (T (126 :: d)) d 1 (by omega) hd (by omega) (by rw [T_size, h1]) w hL fun W => (Tryz.strings_TrimPrefix _ _ W).mono fun _ _ k => ⟨?_, k.2.symm⟩).mono fun e w' k => ?_
    · rw [k.1, T_list]
      exact congrArg (fun x => Ending.returned (.string x)) (T_of (trim_T1 d))
    · obtain ⟨k1, k2⟩ := k
      refine ⟨?_, k2⟩
      rw [k1, numT_tilde, show decide (1 = 1) = true from rfl]
      cases hr : digT true d with
      | none => rfl
      | some r =>
        obtain ⟨t, n⟩ := r
        have hn := digT_n hr
        have e1 : (126 :: d).take n = 126 :: d.take (cnt dig d) := by
          rw [hn, if_pos rfl, Nat.add_comm, List.take_succ_cons]
        simp only [e1, sz_cons, sz_take_dig, (wd_ascii (r := 126) (by omega)).1]
  · have h' : ∀ d, l ≠ 126 :: d := fun d hd => h ⟨d, hd⟩
    refine (number_go (T l) l 0 (by omega) ho hsz (by rw [T_size]; omega) w hL fun W => (Tryz.strings_TrimPrefix _ _ W).mono fun _ _ k => ⟨?_, k.2.symm⟩).mono fun e w' k => ?_
    · rw [k.1, T_list]
      exact congrArg (fun x => Ending.returned (.string x)) (T_of (trim_T0 ho h'))
    · obtain ⟨k1, k2⟩ := k
      refine ⟨?_, k2⟩
      rw [k1, numT_other h', show decide (0 = 1) = false from rfl]
      cases hr : digT false l with
      | none => rfl
      | some r =>
        obtain ⟨t, n⟩ := r
        have hn := digT_n hr
        have e1 : n = cnt dig l := by rw [hn]; simp
        simp only [e1, sz_take_dig, Nat.zero_add]
end Go.Proofs.YthonaeigacfmbaaGreatDoor.B
