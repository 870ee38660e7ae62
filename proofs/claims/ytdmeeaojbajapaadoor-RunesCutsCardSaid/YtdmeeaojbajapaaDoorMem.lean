/-
  Words for the walks: a slice of runes that reads as a list; what Decode leaves.
-/
import Derived.Test.YtdmeeaojbajapaaDoorUtf
import Derived.Test.YtdmeeaojbajapaaDoorRows
import Derived.WalkKit
import Derived.WalkSpells
import Derived.Deep.AppendLies
import Derived.OwnWalk
import Derived.Lib.Hide
import Derived.Lib.OthersKept
import Derived.WalkSmall
import Derived.Test.YtdmeeaojbajapaaDoorShelf
namespace Go.Proofs.YtdmeeaojbajapaaDoor
open Go.RowKit

def cel (l : List Nat) : List Value := l.map fun (r : Nat) => Value.int .i32 (r : Int)
theorem cel_one {l : List Nat} : ∀ u ∈ cel l, u.oneCell' = true := by
  intro u hu
  obtain ⟨r, _, rfl⟩ := List.mem_map.1 hu
  rfl
theorem cel_app (l m : List Nat) : cel l ++ cel m = cel (l ++ m) := by simp [cel]
theorem cel_len (l : List Nat) : (cel l).length = l.length := by simp [cel]

/-- The value is a slice that reads as these runes; its cells lie below block B. -/
def Sl (w : World) (B : Nat) (v : Value) (l : List Nat) : Prop :=
  ∃ A c, v = .slice A l.length c ∧ ∀ (j u : Nat), l[j]? = some u → ∃ ad, A = some ad ∧ ad.block < B ∧ w.cell? (ad.add j) = some (.int .i32 (u : Int))

theorem addBlock (a : Addr) (n : Nat) : (a.add n).block = a.block := by unfold Addr.add; split <;> rfl
theorem Sl.keep {w w' : World} {B : Nat} {v : Value} {l : List Nat} (h : Sl w B v l) (hk : ∀ p : Addr, p.block < B → w'.cell? p = w.cell? p) : Sl w' B v l := by
  obtain ⟨A, c, hv, hc⟩ := h
  refine ⟨A, c, hv, fun j u hu => ?_⟩
  obtain ⟨ad, hA, hb, hcell⟩ := hc j u hu
  exact ⟨ad, hA, hb, (hk _ (by rw [addBlock]; exact hb)).trans hcell⟩
theorem Sl.more {w : World} {B B' : Nat} {v : Value} {l : List Nat} (h : Sl w B v l) (hB : B ≤ B') : Sl w B' v l := by
  obtain ⟨A, c, hv, hc⟩ := h
  refine ⟨A, c, hv, fun j u hu => ?_⟩
  obtain ⟨ad, hA, hb, hcell⟩ := hc j u hu
  exact ⟨ad, hA, by omega, hcell⟩
theorem Sl.below {w w' : World} {B : Nat} {v : Value} {l : List Nat} (h : Sl w B v l) (hb : Below B w w') : Sl w' B v l := h.keep fun _ hp => hb.cell hp
theorem Sl.nil (w : World) (B : Nat) : Sl w B (.slice none 0 0) [] := ⟨none, 0, rfl, fun j u hu => by simp at hu⟩
theorem Sl.own {w : World} {base : Nat} {e : TypeId} {v : Value} {n : Nat} {l : List Nat} (h : w.ownsRow base e 1 v n (cel l)) : Sl w w.heap.size v l := by
  have hn : l.length = n := by have := h.1; rw [cel_len] at this; omega
  subst hn
  by_cases h0 : 0 < l.length
  · obtain ⟨g, cap, hv, _, hlt⟩ := h.form h0
    refine ⟨some ⟨g, 0, none⟩, cap, hv, fun j u hu => ⟨_, rfl, hlt, ?_⟩⟩
    exact h.cells (g := g) (by rw [hv]; rfl) j _ (by simp [cel, hu])
  · have hl : l = [] := List.eq_nil_of_length_eq_zero (by omega)
    subst hl
    rcases h.2 with ⟨hv, _⟩ | ⟨g, cap, cur, hv, _⟩
    · exact ⟨none, 0, hv, fun j u hu => by simp at hu⟩
    · exact ⟨_, cap, hv, fun j u hu => by simp at hu⟩

/-- A text's runes; of what is no text none. -/
def rl (s : ByteArray) : List Nat := if vls s 0 then rns s 0 else []
def er (s : ByteArray) : Int := if vls s 0 then 0 else 4
theorem rl_true {s : ByteArray} (h : vls s 0 = true) : rl s = rns s 0 := by simp [rl, h]
theorem rl_false {s : ByteArray} (h : vls s 0 = false) : rl s = [] := by simp [rl, h]
theorem er_true {s : ByteArray} (h : vls s 0 = true) : er s = 0 := by simp [er, h]
theorem er_false {s : ByteArray} (h : vls s 0 = false) : er s = 4 := by simp [er, h]
theorem rl_len (s : ByteArray) : (rl s).length ≤ s.size := by
  unfold rl
  split
  · have := rns_len_le s 0; omega
  · simp

def DecPost (s : ByteArray) (W : World) (e : Ending) (w' : World) : Prop :=
  ∃ v, e = .returned (.tuple #[v, .int .i64 (er s)]) ∧ Sl w' w'.heap.size v (rl s) ∧ Below W.heap.size W w'
theorem dec_bad {s : ByteArray} {W w' : World} (hv : vls s 0 = false) (hb : Below W.heap.size W w') : DecPost s W (.returned (.tuple #[.slice none 0 0, .int .i64 4])) w' :=
  ⟨_, by rw [er_false hv], by rw [rl_false hv]; exact Sl.nil _ _, hb⟩
theorem dec_good {s : ByteArray} {W w' : World} {base : Nat} {e : TypeId} {v : Value} {n : Nat} {l : List Nat} (hv : vls s 0 = true) (hl : l = rns s 0) (ho : w'.ownsRow base e 1 v n (cel l)) (hb : Below W.heap.size W w') :
    DecPost s W (.returned (.tuple #[v, .int .i64 0])) w' :=
  ⟨_, by rw [er_true hv], by rw [rl_true hv, ← hl]; exact Sl.own ho, hb⟩

/-- The library's two tables on UTF-8, as it lays them. -/
def Tabs (w : World) : Prop := Lib.Utf8Tabs (Tryd.lays196_ren.g 3) (Tryd.lays196_ren.g 4) w
theorem Tabs.below {w w' : World} (h : Tabs w) (hb : Below w.heap.size w w') : Tabs w' := Utf8Tabs_below h hb
theorem chn {w w1 w2 : World} (h : Below w.heap.size w w1) (h' : Below w1.heap.size w1 w2) : Below w.heap.size w w2 := h.trans (h'.mono h.size)

/-- A row that the call owns is no iterator. -/
theorem own_ne_iter {w : World} {base : Nat} {e : TypeId} {size : Nat} {v : Value} {n : Nat} {xs : List Value} {b p : Nat} {s : ByteArray} (h : w.ownsRow base e size v n xs) (hb : w.heap[b]? = some (.stringIter s p)) :
    ∀ g, v.ownBlock = some g → g ≠ b := by
  rintro g hg rfl
  rcases h.2 with ⟨rfl, _⟩ | ⟨g', cap, cur, rfl, _, hh, _⟩
  · simp [Value.ownBlock] at hg
  · simp [Value.ownBlock] at hg
    subst hg
    rw [hh] at hb
    cases hb
theorem own_iterAt {w : World} {base : Nat} {e : TypeId} {size : Nat} {v : Value} {n : Nat} {xs : List Value} {b p : Nat} {s : ByteArray} (h : w.ownsRow base e size v n xs) (hb : w.heap[b]? = some (.stringIter s p)) (p' : Nat) :
    (w.iterAt b s p').ownsRow base e size v n xs := by
  have hne := own_ne_iter h hb
  refine ⟨h.1, ?_⟩
  rcases h.2 with h2 | ⟨g, cap, cur, hv, hbg, hh, d⟩
  · exact .inl h2
  · exact .inr ⟨g, cap, cur, hv, hbg, by rw [Lib.iterAt_other _ _ _ _ _ (hne g (by rw [hv]; rfl))]; exact hh, d⟩

theorem infoRune : (Tryd.prog.info? 21).map (fun i => (i.zero, i.size, i.bytes)) = some (some (.int .i32 0), 1, 4) := by kernel_rfl
end Go.Proofs.YtdmeeaojbajapaaDoor
