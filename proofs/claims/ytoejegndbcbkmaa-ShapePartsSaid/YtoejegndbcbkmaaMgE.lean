/-
  Words for the walks of layer 3: a slice of texts that reads as a list; what calls leave.
-/
import Derived.Test.YtoejegndbcbkmaaMgD
import Derived.Test.YtoejegndbcbkmaaMgC
namespace Go.Proofs.Ytoejegndbcbkmaa.B
open Go.RowKit

def sv (l : List ByteArray) : List Value := l.map Value.string
theorem sv_one {l : List ByteArray} : ∀ u ∈ sv l, u.oneCell' = true := by
  intro u hu
  obtain ⟨r, _, rfl⟩ := List.mem_map.1 hu
  rfl
theorem sv_app (l m : List ByteArray) : sv l ++ sv m = sv (l ++ m) := by simp [sv]
theorem sv_len (l : List ByteArray) : (sv l).length = l.length := by simp [sv]
/-- The value is a slice that reads as these texts; its cells lie below block B. -/
def Ss (w : World) (B : Nat) (v : Value) (l : List ByteArray) : Prop :=
  ∃ A c, v = .slice A l.length c ∧ l.length ≤ c ∧ ∀ (j : Nat) (u : ByteArray), l[j]? = some u → ∃ b o, A = some ⟨b, o, none⟩ ∧ b < B ∧ w.cell? ⟨b, o + j, none⟩ = some (.string u)
theorem Ss.below {w w' : World} {B : Nat} {v : Value} {l : List ByteArray} (h : Ss w B v l) (hb : Below B w w') : Ss w' B v l := by
  obtain ⟨A, c, hv, hlc, hc⟩ := h
  refine ⟨A, c, hv, hlc, fun j u hu => ?_⟩
  obtain ⟨b, o, hA, hlt, hcell⟩ := hc j u hu
  exact ⟨b, o, hA, hlt, (hb.cell hlt).trans hcell⟩
theorem Ss.more {w : World} {B B' : Nat} {v : Value} {l : List ByteArray} (h : Ss w B v l) (hB : B ≤ B') : Ss w B' v l := by
  obtain ⟨A, c, hv, hlc, hc⟩ := h
  refine ⟨A, c, hv, hlc, fun j u hu => ?_⟩
  obtain ⟨b, o, hA, hlt, hcell⟩ := hc j u hu
  exact ⟨b, o, hA, by omega, hcell⟩
theorem Ss.on {w w' : World} {v : Value} {l : List ByteArray} (h : Ss w w.heap.size v l) (hb : Below w.heap.size w w') : Ss w' w'.heap.size v l := (h.below hb).more hb.size
theorem Ss.nil (w : World) (B : Nat) : Ss w B (.slice none 0 0) [] := ⟨none, 0, rfl, Nat.le_refl _, fun j u hu => by simp at hu⟩
theorem Ss.own {w : World} {base : Nat} {e : TypeId} {v : Value} {n : Nat} {l : List ByteArray} (h : w.ownsRow base e 1 v n (sv l)) : Ss w w.heap.size v l := by
  have hn : l.length = n := by have := h.1; rw [sv_len] at this; omega
  subst hn
  rcases h.2 with ⟨hv, h0⟩ | ⟨g, cap, cur, hv, _, hh, hc, _⟩
  · have hl : l = [] := List.eq_nil_of_length_eq_zero h0
    subst hl
    exact ⟨none, 0, hv, Nat.le_refl _, fun j u hu => by simp at hu⟩
  · refine ⟨some ⟨g, 0, none⟩, cap, hv, hc, fun j u hu => ⟨g, 0, rfl, heap_lt hh, ?_⟩⟩
    have := h.cells (g := g) (by rw [hv]; rfl) j (.string u) (by simp [sv, hu])
    have e : (⟨g, 0, none⟩ : Addr).add j = ⟨g, 0 + j, none⟩ := by unfold Addr.add; split <;> simp_all
    rw [← e]
    simpa using this
theorem Ss.form {w : World} {B : Nat} {v : Value} {l : List ByteArray} (h : Ss w B v l) (h0 : 0 < l.length) :
    ∃ b o c, v = .slice (some ⟨b, o, none⟩) l.length c ∧ l.length ≤ c ∧ b < B ∧ ∀ (j : Nat) (u : ByteArray), l[j]? = some u → w.cell? ⟨b, o + j, none⟩ = some (.string u) := by
  obtain ⟨A, c, hv, hlc, hc⟩ := h
  obtain ⟨b, o, hA, hlt, _⟩ := hc 0 l[0] (List.getElem?_eq_getElem h0)
  refine ⟨b, o, c, by rw [hv, hA], hlc, hlt, fun j u hu => ?_⟩
  obtain ⟨b', o', hA', _, hcell⟩ := hc j u hu
  rw [hA] at hA'
  injection hA' with hA'
  injection hA' with h1 h2
  subst h1 h2
  exact hcell
theorem own_below {w w' : World} {base : Nat} {e : TypeId} {size : Nat} {v : Value} {n : Nat} {xs : List Value} (h : w.ownsRow base e size v n xs) (hb : Below w.heap.size w w') : w'.ownsRow base e size v n xs := by
  refine ⟨h.1, ?_⟩
  rcases h.2 with h2 | ⟨g, cap, cur, hv, hbg, hh, d⟩
  · exact .inl h2
  · exact .inr ⟨g, cap, cur, hv, hbg, heap_below hh hb, d⟩
theorem infoStr : (Try.prog.info? 9).map (fun i => (i.zero, i.size, i.bytes)) = some (some (.string ⟨#[]⟩), 1, 16) := by kernel_rfl

/-- A list of texts is handed back. -/
def SsPost (l : List ByteArray) (W : World) (e : Ending) (w' : World) : Prop := ∃ v, e = .returned v ∧ Ss w' w'.heap.size v l ∧ Below W.heap.size W w'
/-- A text and a number. -/
def SePost (r : ByteArray × Int) (W : World) (e : Ending) (w' : World) : Prop := e = .returned (.tuple #[.string r.1, .int .i64 r.2]) ∧ Below W.heap.size W w'
def TxPost (s : ByteArray) (W : World) (e : Ending) (w' : World) : Prop := e = .returned (.string s) ∧ Below W.heap.size W w'
theorem nm_ret {b c : Bool} {W w' : World} (h : c = b) (hb : Below W.heap.size W w') : NmPost c W (.returned (.bool b)) w' := ⟨by rw [h], hb⟩
theorem tx_ret {s t : ByteArray} {W w' : World} (h : s = t) (hb : Below W.heap.size W w') : TxPost s W (.returned (.string t)) w' := ⟨by rw [h], hb⟩
theorem se_ret {r : ByteArray × Int} {s : ByteArray} {n : Int} {W w' : World} (h : r = (s, n)) (hb : Below W.heap.size W w') : SePost r W (.returned (.tuple #[.string s, .int .i64 n])) w' := by subst h; exact ⟨rfl, hb⟩
theorem ss_nil {l : List ByteArray} {W w' : World} (h : l = []) (hb : Below W.heap.size W w') : SsPost l W (.returned (.slice none 0 0)) w' := by subst h; exact ⟨_, rfl, Ss.nil _ _, hb⟩
theorem ss_own {l l' : List ByteArray} {W w' : World} {base : Nat} {e : TypeId} {v : Value} {n : Nat} (h : l = l') (ho : w'.ownsRow base e 1 v n (sv l')) (hb : Below W.heap.size W w') : SsPost l W (.returned v) w' := by subst h; exact ⟨_, rfl, Ss.own ho, hb⟩

/-! ### lists, place by place -/
theorem all_upto {l : List ByteArray} {f : ByteArray → Bool} (h : ∀ (j : Nat) y, j < l.length → l[j]? = some y → f y = true) : (l.all f) = true := by
  rw [List.all_eq_true]
  intro y hy
  obtain ⟨j, hj, rfl⟩ := List.getElem_of_mem hy
  exact h j _ hj (List.getElem?_eq_getElem hj)
theorem all_not {l : List ByteArray} {f : ByteArray → Bool} {j : Nat} {y : ByteArray} (h : l[j]? = some y) (hp : f y = false) : (l.all f) = false := by
  rw [List.all_eq_false]
  exact ⟨y, List.mem_of_getElem? h, by rw [hp]; simp⟩
theorem upto_next {l : List ByteArray} {Q : Nat → ByteArray → Prop} {k : Nat} {y : ByteArray} (h : ∀ (j : Nat) y, j < k → l[j]? = some y → Q j y) (hy : l[k]? = some y) (hq : Q k y) : ∀ (j : Nat) y, j < k + 1 → l[j]? = some y → Q j y := by
  intro j z hj hz
  rcases Nat.lt_or_ge j k with h1 | h1
  · exact h j z h1 hz
  · obtain rfl : j = k := by omega
    rw [hy] at hz
    injection hz with hz
    rw [← hz]; exact hq
theorem take_next {l : List ByteArray} {k : Nat} {y : ByteArray} (h : l[k]? = some y) : l.take (k + 1) = l.take k ++ [y] := by
  rw [List.take_add_one, h]; rfl
end Go.Proofs.Ytoejegndbcbkmaa.B
/-
  The program's Check: what it tells.
-/
namespace Go.Proofs.Ytoejegndbcbkmaa.B
open Go.RowKit

theorem nck_of {s : ByteArray} {a b : Bool} (ha : nm s = a) (hb : wrd s = b) : nck s = (a && !b) := by unfold nck; rw [ha, hb]
set_option maxHeartbeats 1600000 in
set_option maxRecDepth 100000 in
theorem check_any (s : ByteArray) (w : World) (hs : s.size ≤ 1000000000) : Calls Try.prog 63 #[.string s] w (NmPost (nck s) w) := by
  have cN := fun W => goodName s W hs
  have cW := fun W => word_any s W
  obtain ⟨a, ha⟩ : ∃ a, nm s = a := ⟨_, rfl⟩
  obtain ⟨b, hb⟩ : ∃ b, wrd s = b := ⟨_, rfl⟩
  have HA := Lib.hid (nck_of ha hb)
  rw [ha] at cN
  rw [hb] at cW
  clear ha hb
  cases a
  · go_enter Try.func63, Try.ntmps63
    go_wp2_with fail
    refine (cN _).mono ?_
    rintro e w1 ⟨rfl, hb1⟩
    go_wp2
    go_ret
    exact nm_ret HA.out hb1
  · go_enter Try.func63, Try.ntmps63
    go_wp2_with fail
    refine (cN _).mono ?_
    rintro e w1 ⟨rfl, hb1⟩
    go_wp2_with fail
    refine (cW _).mono ?_
    rintro e w2 ⟨rfl, rfl⟩
    go_wp2
    go_ret
    exact nm_ret (by rw [HA.out]; rfl) hb1
end Go.Proofs.Ytoejegndbcbkmaa.B
/-
  The library's Cut at a dot; the program's Split: what they tell.
-/
namespace Go.Proofs.Ytoejegndbcbkmaa.B
open Go.RowKit

/-- A call draws, and leaves the rest. -/
theorem cut_no {s : ByteArray} (h : (46 : UInt8) ∉ s.data.toList) (hs : s.size ≤ 1000000000) (w : World) (hL : Nx w) :
    Calls Try.prog 83 #[.string s, .string ⟨#[46]⟩] w fun e w' => e = .returned (.tuple #[.string s, .string ⟨#[]⟩, .bool false]) ∧ Below w.heap.size w w' := by
  obtain ⟨m, hm⟩ := hL.2
  refine (Try.strings_Cut s ⟨#[46]⟩ m w (by omega) hm).mono fun e w' ⟨he, n, hw⟩ => ⟨?_, ?_⟩
  · rw [he]
    have e1 : Lib.cut s.data.toList (ByteArray.mk #[46]).data.toList = (s.data.toList, [], false) := cut_none h
    rw [e1]
  · rw [hw]; exact below_drewN' (Below.refl _ _) n
theorem cut_yes {s : ByteArray} {a r : List UInt8} (h : (46 : UInt8) ∉ a) (hsr : s.data.toList = a ++ 46 :: r) (hs : s.size ≤ 1000000000) (w : World) (hL : Nx w) :
    Calls Try.prog 83 #[.string s, .string ⟨#[46]⟩] w fun e w' => e = .returned (.tuple #[.string (tx a), .string (tx r), .bool true]) ∧ Below w.heap.size w w' := by
  obtain ⟨m, hm⟩ := hL.2
  refine (Try.strings_Cut s ⟨#[46]⟩ m w (by omega) hm).mono fun e w' ⟨he, n, hw⟩ => ⟨?_, ?_⟩
  · rw [he]
    have e1 : Lib.cut s.data.toList (ByteArray.mk #[46]).data.toList = (a, r, true) := by rw [hsr]; exact cut_at h
    rw [e1]
    rfl
  · rw [hw]; exact below_drewN' (Below.refl _ _) n
/-- Both at once. -/
def ctx (s : ByteArray) : ByteArray × ByteArray × Bool := (tx (Lib.cut s.data.toList [46]).1, tx (Lib.cut s.data.toList [46]).2.1, (Lib.cut s.data.toList [46]).2.2)
theorem cut_any (s : ByteArray) (hs : s.size ≤ 1000000000) (w : World) (hL : Nx w) :
    Calls Try.prog 83 #[.string s, .string ⟨#[46]⟩] w fun e w' => e = .returned (.tuple #[.string (ctx s).1, .string (ctx s).2.1, .bool (ctx s).2.2]) ∧ Below w.heap.size w w' := by
  obtain ⟨m, hm⟩ := hL.2
  exact (Try.strings_Cut s ⟨#[46]⟩ m w (by omega) hm).mono fun e w' ⟨he, n, hw⟩ => ⟨he, by rw [hw]; exact below_drewN' (Below.refl _ _) n⟩
theorem ctx_pc (s : ByteArray) : pc s = (ctx s).1 :: (if (ctx s).2.2 then pc (ctx s).2.1 else []) ∧ (ctx s).1.size ≤ s.size ∧ ((ctx s).2.2 = true → (ctx s).2.1.size < s.size) ∧ ((ctx s).2.2 = false → (ctx s).2.1 = ⟨#[]⟩) := by
  unfold ctx
  rcases dot_in s.data.toList with h | ⟨a, r, hs, h⟩
  · rw [cut_none h]
    refine ⟨?_, by rw [tx_of]; exact Nat.le_refl _, fun h => by simp at h, fun _ => rfl⟩
    unfold pc
    rw [pcl_none h]
    rfl
  · rw [hs, cut_at h]
    have hz : s.size = a.length + (r.length + 1) := by rw [Lib.size_eq, hs]; simp
    refine ⟨?_, by rw [tx_size]; dsimp only; omega, fun _ => by rw [tx_size]; dsimp only; omega, fun h => by simp at h⟩
    unfold pc
    rw [hs, pcl_at h]
    rfl

/-- What a text still has in it. -/
def more (m : Bool) (x : ByteArray) : List ByteArray := if m then pc x else []
theorem more_false (x : ByteArray) : more false x = [] := rfl
theorem more_true (x : ByteArray) : more true x = pc x := rfl
theorem more_next {s x p y : ByteArray} {m : Bool} {done : List ByteArray} (h : pc s = done ++ more true x) (hc : ctx x = (p, y, m)) : pc s = (done ++ [p]) ++ more m y := by
  rw [h, more_true, (ctx_pc x).1, hc]
  simp [more]
theorem split_bad {s x p y : ByteArray} {m : Bool} {done : List ByteArray} (h : pc s = done ++ more true x) (hc : ctx x = (p, y, m)) (hp : nck p = false) : splt s = [] := by
  apply splt_not
  unfold long
  rw [more_next h hc, List.all_append, List.all_append]
  simp [hp]
theorem split_end {s x : ByteArray} {done : List ByteArray} (h : pc s = done ++ more false x) (hn : done.all nck = true) (hs : s.size ≤ 128) : splt s = done := by
  rw [more_false, List.append_nil] at h
  rw [splt_long (long_is.2 ⟨hs, by rw [h]; exact hn⟩), h]
theorem all_snoc {l : List ByteArray} {x : ByteArray} {f : ByteArray → Bool} (h : l.all f = true) (hx : f x = true) : (l ++ [x]).all f = true := by rw [List.all_append, h]; simp [hx]
def mea (m : Bool) (x : ByteArray) : Nat := if m then x.size + 1 else 0

def SplRel (s : ByteArray) (W : World) (x v m : Value) (wr : World) : Prop :=
  ∃ (X : ByteArray) (b : Bool) (done : List ByteArray), x = .string X ∧ m = .bool b ∧ X.size ≤ 128 ∧ done.length + mea b X ≤ 130 ∧ pc s = done ++ more b X ∧ done.all nck = true ∧ wr.ownsRow W.heap.size 9 1 v done.length (sv done) ∧ Below W.heap.size W wr ∧ Nx wr
set_option maxHeartbeats 3200000 in
set_option maxRecDepth 100000 in
theorem split_any (s : ByteArray) (w : World) (hs : s.size ≤ 1000000000) (hL : Nx w) : Calls Try.prog 75 #[.string s] w (SsPost (splt s) w) := by
  by_cases hbig : s.size ≤ 128
  · have hz : ¬ (128 : Int) < (s.size : Int) := by omega
    obtain ⟨i0, hi, hz0, hz1, hz2⟩ := info_parts infoStr
    have HBIG := Lib.hid hbig
    have HNX := Lib.hid hL
    clear hL
    go_enter Try.func75, Try.ntmps75
    go_wp2
    go_loopw [0, 3, 4, 5] (fun x v m p wr => SplRel s w x v m wr) (fun x _ m _ _ => match x, m with | .string X, .bool b => mea b X | _, _ => 0)
    case atStart => exact ⟨s, true, [], rfl, rfl, hbig, by simp [mea]; omega, by simp [more], rfl, World.ownsRow_nil _ _ _ _, Below.refl _ _, HNX.out⟩
    case round =>
      obtain ⟨X, b, done, rfl, rfl, hx, hmz, hpc, hall, hown, hbel, hnx⟩ := hrel
      have hbs := hbel.size
      have HOWN := Lib.hid hown
      have HBEL := Lib.hid hbel
      have HALL := Lib.hid hall
      have HN := Lib.hid hnx
      cases b
      · have HEND := Lib.hid (split_end hpc hall HBIG.out)
        clear hown hbel hall hnx hpc
        go_wp2
        go_ret
        exact ss_own HEND.out HOWN.out HBEL.out
      · obtain ⟨p, y, m, hc⟩ : ∃ p y m, ctx X = (p, y, m) := ⟨_, _, _, rfl⟩
        have cC := cut_any X (by omega) wr hnx
        have hcx := ctx_pc X
        rw [hc] at cC hcx
        dsimp only at cC hcx
        obtain ⟨_, hcx1, hcx2, hcx3⟩ := hcx
        have hpz : p.size ≤ 128 := by omega
        have hyz : y.size ≤ 128 := by
          cases m
          · rw [hcx3 rfl]; exact Nat.zero_le _
          · have := hcx2 rfl; omega
        have hme : mea m y + 1 ≤ mea true X := by
          unfold mea
          cases m
          · simp
          · have := hcx2 rfl; simp; omega
        have cK := fun W => check_any p W (by omega)
        obtain ⟨b, hb⟩ : ∃ b, nck p = b := ⟨_, rfl⟩
        rw [hb] at cK
        have HB := Lib.hid hb
        have HC := Lib.hid hc
        have HPC := Lib.hid hpc
        have HME := Lib.hid hme
        have hdl : done.length ≤ 130 := by omega
        have HMZ := Lib.hid hmz
        clear hown hbel hall hnx hpc hb hc hcx1 hcx2 hcx3 hme hmz
        go_wp2_with fail
        refine cC.mono ?_
        rintro e w1 ⟨rfl, hb1⟩
        have HB1 := Lib.hid hb1
        clear hb1
        go_wp2_with fail
        refine (cK _).mono ?_
        rintro e w2 ⟨rfl, hb2⟩
        have hbw2 := HBEL.out.trans ((chn HB1.out hb2).mono hbs)
        have hown2 := own_below HOWN.out (chn HB1.out hb2)
        have HOWN2 := Lib.hid hown2
        have HBW2 := Lib.hid hbw2
        have HN2 := Lib.hid (HN.out.below (chn HB1.out hb2))
        have hs2 := hbw2.size
        clear hown2 hb2 hbw2
        cases b
        · go_wp2
          go_ret
          exact ss_nil (split_bad HPC.out HC.out HB.out) HBW2.out
        · go_wp2_with (at_builtin; (refine wpList_append_own _ rfl _ _ 95 rfl w.heap.size 9 i0 (.string ⟨#[]⟩) 1 16 Try.underlying95 hi hz0 hz1 hz2 rfl (by decide) _ _ _ rfl (HOWN2.out.alloc _) ⟨w2.heap.size, 0, none⟩ 1 1 [.string p] rfl rfl (cell_one_new _ _ _) (fun x hx => by simp at hx; subst hx; rfl) (by unfold maxLen; omega) (by omega) (by simp; omega) ?_); intro v' w4 hown4 hgrow4 _)
          have hbel := (HBW2.out.alloc hs2 _).grown hgrow4 (by simp; omega) (fun g hg => (HOWN2.out.lt g hg).1)
          have hlt4 := hgrow4.size
          have HBEL4 := Lib.hid hbel
          have HOWN4 := Lib.hid hown4
          clear hown4 hgrow4
          go_roundw
          case rel => exact ⟨y, m, done ++ [p], rfl, rfl, hyz, by have := HME.out; have := HMZ.out; simp; omega, more_next HPC.out HC.out, all_snoc HALL.out HB.out, by simpa [sv] using HOWN4.out, HBEL4.out, HNX.out.below HBEL4.out⟩
          case measure => exact HME.out
  · have hz : (128 : Int) < (s.size : Int) := by omega
    go_enter Try.func75, Try.ntmps75
    go_wp2
    go_ret
    exact ss_nil (splt_not (by unfold long; rw [decide_eq_false hbig]; rfl)) (Below.refl _ _)
end Go.Proofs.Ytoejegndbcbkmaa.B
/-
  The program's Long, parts, Head, Rest, Under and Move: what they tell.
-/
namespace Go.Proofs.Ytoejegndbcbkmaa.B
open Go.RowKit

set_option maxHeartbeats 1600000 in
set_option maxRecDepth 100000 in
theorem long_any (s : ByteArray) (w : World) (hs : s.size ≤ 1000000000) (hL : Nx w) : Calls Try.prog 62 #[.string s] w (NmPost (long s) w) := by
  have cS := split_any s w hs hL
  have hln := splt_len s
  obtain ⟨l, hl⟩ : ∃ l, splt s = l := ⟨_, rfl⟩
  obtain ⟨b, hb⟩ : ∃ b, long s = b := ⟨_, rfl⟩
  rw [hl] at cS hln
  rw [hb] at hln ⊢
  have HLN := Lib.hid hln
  clear hl hb hln hL
  by_cases h0 : 0 < l.length
  · have hz : (0 : Int) < (l.length : Int) := by omega
    go_enter Try.func62, Try.ntmps62
    go_wp2_with fail
    refine cS.mono ?_
    rintro e w1 ⟨v, rfl, ⟨A, c, rfl, hlc, hcl⟩, hb⟩
    have HCL := Lib.hid hcl
    clear hcl
    go_wp2
    go_ret
    exact nm_ret (by rw [HLN.out, decide_eq_true h0]) hb
  · have hz : ¬ (0 : Int) < (l.length : Int) := by omega
    go_enter Try.func62, Try.ntmps62
    go_wp2_with fail
    refine cS.mono ?_
    rintro e w1 ⟨v, rfl, ⟨A, c, rfl, hlc, hcl⟩, hb⟩
    have HCL := Lib.hid hcl
    clear hcl
    go_wp2
    go_ret
    exact nm_ret (by rw [HLN.out, decide_eq_false h0]) hb

/-! ### parts -/
theorem parts_is {s : ByteArray} (h : long s = true) : (ctx s).1 = hd s ∧ (ctx s).2.1 = rst s := by
  obtain ⟨h1, _, _, h4⟩ := ctx_pc s
  cases hm : (ctx s).2.2
  · rw [hm] at h1
    have hp : pc s = [(ctx s).1] := h1
    have e := jb_pc s
    rw [hp, jb_one] at e
    obtain ⟨k1, k2⟩ := long_one h hp
    exact ⟨by rw [k1, e], by rw [k2, h4 hm]⟩
  · rw [hm] at h1
    have hp : pc s = (ctx s).1 :: pc (ctx s).2.1 := h1
    cases hq : pc (ctx s).2.1 with
    | nil => exact absurd hq (pc_ne _)
    | cons y r =>
      rw [hq] at hp
      obtain ⟨k1, k2, _⟩ := long_more h hp
      exact ⟨k1.symm, by rw [k2, ← hq, jb_pc]⟩
theorem parts_not {s : ByteArray} (h : long s = false) : hd s = ⟨#[]⟩ ∧ rst s = ⟨#[]⟩ := by
  unfold hd rst
  rw [splt_not h]
  exact ⟨rfl, rfl⟩
def PtPost (s : ByteArray) (W : World) (e : Ending) (w' : World) : Prop := e = .returned (.tuple #[.string (hd s), .string (rst s)]) ∧ Below W.heap.size W w'
theorem pt_ret {s a b : ByteArray} {W w' : World} (h : a = hd s ∧ b = rst s) (hb : Below W.heap.size W w') : PtPost s W (.returned (.tuple #[.string a, .string b])) w' := by
  obtain ⟨rfl, rfl⟩ := h; exact ⟨rfl, hb⟩
/-! ### Under -/
theorem und_no {s p : ByteArray} (h : long s = false ∨ long p = false) : und s p = false := by
  unfold und
  rcases h with h | h <;> simp [h]
theorem und_pre {s p : ByteArray} (h : Lib.hasPrefix s.data.toList p.data.toList = false) : und s p = false := by
  unfold und
  rw [Bool.and_eq_false_iff]
  right
  rw [decide_eq_false_iff_not]
  intro hp
  obtain ⟨t, ht, _⟩ := und_text.2 hp
  have : Lib.hasPrefix s.data.toList p.data.toList = true := by
    unfold Lib.hasPrefix
    rw [List.isPrefixOf_iff_prefix]
    exact ⟨t, ht.symm⟩
  rw [h] at this
  cases this
theorem und_ok {s p : ByteArray} {t : List UInt8} (h1 : long s = true) (h2 : long p = true) (h : s.data.toList = p.data.toList ++ t) (ht : t = [] ∨ ∃ u, t = 46 :: u) : und s p = true :=
  und_is.2 ⟨h1, h2, und_text.1 ⟨t, h, ht⟩⟩
theorem und_bad {s p : ByteArray} {c : UInt8} {t : List UInt8} (h : s.data.toList = p.data.toList ++ c :: t) (hc : c ≠ 46) : und s p = false := by
  unfold und
  rw [Bool.and_eq_false_iff]
  right
  rw [decide_eq_false_iff_not]
  intro hp
  obtain ⟨t', ht, ht'⟩ := und_text.2 hp
  rw [h] at ht
  have e := List.append_cancel_left ht
  rcases ht' with rfl | ⟨u, rfl⟩
  · cases e
  · injection e with e1 _
    exact hc e1
theorem trim_is {s p : ByteArray} (h : Lib.hasPrefix s.data.toList p.data.toList = true) : s.data.toList = p.data.toList ++ Lib.trimPrefix s.data.toList p.data.toList := by
  unfold Lib.trimPrefix
  rw [if_pos h]
  unfold Lib.hasPrefix at h
  rw [List.isPrefixOf_iff_prefix] at h
  obtain ⟨t, ht⟩ := h
  rw [← ht, List.drop_left]
end Go.Proofs.Ytoejegndbcbkmaa.B
