/-
  Words for the walks of layer 3: a slice of texts that reads as a list; what calls leave.
-/
import Derived.Test.YtagocfifagnpkaaDoorNVar
import Derived.Test.YtagocfifagnpkaaDoorNam
namespace Go.Proofs.YtagocfifagnpkaaDoor
open Go.RowKit

def sv (l : List ByteArray) : List Value := l.map Value.string
theorem sv_one {l : List ByteArray} : ∀ u ∈ sv l, u.oneCell' = true := by
  intro u hu
  obtain ⟨r, _, rfl⟩ := List.mem_map.1 hu
  rfl
theorem sv_app (l m : List ByteArray) : sv l ++ sv m = sv (l ++ m) := by simp [sv]
theorem sv_len (l : List ByteArray) : (sv l).length = l.length := by simp [sv]
/-- The value is a slice that reads as these texts; its cells lie below block B. -/
def Ss (w : World) (B : Nat) (v : Value) (l : List ByteArray) : Prop :=
  ∃ A c, v = .slice A l.length c ∧ l.length ≤ c ∧ ∀ (j : Nat) (u : ByteArray), l[j]? = some u → ∃ b o, A = some ⟨b, o, none⟩ ∧ b < B ∧ w.cell? ⟨b, o + j, none⟩ = some (.string u)
theorem Ss.below {w w' : World} {B : Nat} {v : Value} {l : List ByteArray} (h : Ss w B v l) (hb : Below B w w') : Ss w' B v l := by
  obtain ⟨A, c, hv, hlc, hc⟩ := h
  refine ⟨A, c, hv, hlc, fun j u hu => ?_⟩
  obtain ⟨b, o, hA, hlt, hcell⟩ := hc j u hu
  exact ⟨b, o, hA, hlt, (hb.cell hlt).trans hcell⟩
theorem Ss.more {w : World} {B B' : Nat} {v : Value} {l : List ByteArray} (h : Ss w B v l) (hB : B ≤ B') : Ss w B' v l := by
  obtain ⟨A, c, hv, hlc, hc⟩ := h
  refine ⟨A, c, hv, hlc, fun j u hu => ?_⟩
  obtain ⟨b, o, hA, hlt, hcell⟩ := hc j u hu
  exact ⟨b, o, hA, by omega, hcell⟩
theorem Ss.on {w w' : World} {v : Value} {l : List ByteArray} (h : Ss w w.heap.size v l) (hb : Below w.heap.size w w') : Ss w' w'.heap.size v l := (h.below hb).more hb.size
theorem Ss.nil (w : World) (B : Nat) : Ss w B (.slice none 0 0) [] := ⟨none, 0, rfl, Nat.le_refl _, fun j u hu => by simp at hu⟩
theorem Ss.own {w : World} {base : Nat} {e : TypeId} {v : Value} {n : Nat} {l : List ByteArray} (h : w.ownsRow base e 1 v n (sv l)) : Ss w w.heap.size v l := by
  have hn : l.length = n := by have := h.1; rw [sv_len] at this; omega
  subst hn
  rcases h.2 with ⟨hv, h0⟩ | ⟨g, cap, cur, hv, _, hh, hc, _⟩
  · have hl : l = [] := List.eq_nil_of_length_eq_zero h0
    subst hl
    exact ⟨none, 0, hv, Nat.le_refl _, fun j u hu => by simp at hu⟩
  · refine ⟨some ⟨g, 0, none⟩, cap, hv, hc, fun j u hu => ⟨g, 0, rfl, heap_lt hh, ?_⟩⟩
    have := h.cells (g := g) (by rw [hv]; rfl) j (.string u) (by simp [sv, hu])
    have e : (⟨g, 0, none⟩ : Addr).add j = ⟨g, 0 + j, none⟩ := by unfold Addr.add; split <;> simp_all
    rw [← e]
    simpa using this
theorem Ss.form {w : World} {B : Nat} {v : Value} {l : List ByteArray} (h : Ss w B v l) (h0 : 0 < l.length) :
    ∃ b o c, v = .slice (some ⟨b, o, none⟩) l.length c ∧ l.length ≤ c ∧ b < B ∧ ∀ (j : Nat) (u : ByteArray), l[j]? = some u → w.cell? ⟨b, o + j, none⟩ = some (.string u) := by
  obtain ⟨A, c, hv, hlc, hc⟩ := h
  obtain ⟨b, o, hA, hlt, _⟩ := hc 0 l[0] (List.getElem?_eq_getElem h0)
  refine ⟨b, o, c, by rw [hv, hA], hlc, hlt, fun j u hu => ?_⟩
  obtain ⟨b', o', hA', _, hcell⟩ := hc j u hu
  rw [hA] at hA'
  injection hA' with hA'
  injection hA' with h1 h2
  subst h1 h2
  exact hcell
theorem own_below {w w' : World} {base : Nat} {e : TypeId} {size : Nat} {v : Value} {n : Nat} {xs : List Value} (h : w.ownsRow base e size v n xs) (hb : Below w.heap.size w w') : w'.ownsRow base e size v n xs := by
  refine ⟨h.1, ?_⟩
  rcases h.2 with h2 | ⟨g, cap, cur, hv, hbg, hh, d⟩
  · exact .inl h2
  · exact .inr ⟨g, cap, cur, hv, hbg, heap_below hh hb, d⟩
theorem infoStr : (Tryd.prog.info? 9).map (fun i => (i.zero, i.size, i.bytes)) = some (some (.string ⟨#[]⟩), 1, 16) := by kernel_rfl

/-- A list of texts is handed back. -/
def SsPost (l : List ByteArray) (W : World) (e : Ending) (w' : World) : Prop := ∃ v, e = .returned v ∧ Ss w' w'.heap.size v l ∧ Below W.heap.size W w'
/-- A text and a number. -/
def SePost (r : ByteArray × Int) (W : World) (e : Ending) (w' : World) : Prop := e = .returned (.tuple #[.string r.1, .int .i64 r.2]) ∧ Below W.heap.size W w'
def TxPost (s : ByteArray) (W : World) (e : Ending) (w' : World) : Prop := e = .returned (.string s) ∧ Below W.heap.size W w'
theorem nm_ret {b c : Bool} {W w' : World} (h : c = b) (hb : Below W.heap.size W w') : NmPost c W (.returned (.bool b)) w' := ⟨by rw [h], hb⟩
theorem tx_ret {s t : ByteArray} {W w' : World} (h : s = t) (hb : Below W.heap.size W w') : TxPost s W (.returned (.string t)) w' := ⟨by rw [h], hb⟩
theorem se_ret {r : ByteArray × Int} {s : ByteArray} {n : Int} {W w' : World} (h : r = (s, n)) (hb : Below W.heap.size W w') : SePost r W (.returned (.tuple #[.string s, .int .i64 n])) w' := by subst h; exact ⟨rfl, hb⟩
theorem ss_nil {l : List ByteArray} {W w' : World} (h : l = []) (hb : Below W.heap.size W w') : SsPost l W (.returned (.slice none 0 0)) w' := by subst h; exact ⟨_, rfl, Ss.nil _ _, hb⟩
theorem ss_own {l l' : List ByteArray} {W w' : World} {base : Nat} {e : TypeId} {v : Value} {n : Nat} (h : l = l') (ho : w'.ownsRow base e 1 v n (sv l')) (hb : Below W.heap.size W w') : SsPost l W (.returned v) w' := by subst h; exact ⟨_, rfl, Ss.own ho, hb⟩

/-! ### lists, place by place -/
theorem all_upto {l : List ByteArray} {f : ByteArray → Bool} (h : ∀ (j : Nat) y, j < l.length → l[j]? = some y → f y = true) : (l.all f) = true := by
  rw [List.all_eq_true]
  intro y hy
  obtain ⟨j, hj, rfl⟩ := List.getElem_of_mem hy
  exact h j _ hj (List.getElem?_eq_getElem hj)
theorem all_not {l : List ByteArray} {f : ByteArray → Bool} {j : Nat} {y : ByteArray} (h : l[j]? = some y) (hp : f y = false) : (l.all f) = false := by
  rw [List.all_eq_false]
  exact ⟨y, List.mem_of_getElem? h, by rw [hp]; simp⟩
theorem upto_next {l : List ByteArray} {Q : Nat → ByteArray → Prop} {k : Nat} {y : ByteArray} (h : ∀ (j : Nat) y, j < k → l[j]? = some y → Q j y) (hy : l[k]? = some y) (hq : Q k y) : ∀ (j : Nat) y, j < k + 1 → l[j]? = some y → Q j y := by
  intro j z hj hz
  rcases Nat.lt_or_ge j k with h1 | h1
  · exact h j z h1 hz
  · obtain rfl : j = k := by omega
    rw [hy] at hz
    injection hz with hz
    rw [← hz]; exact hq
theorem take_next {l : List ByteArray} {k : Nat} {y : ByteArray} (h : l[k]? = some y) : l.take (k + 1) = l.take k ++ [y] := by
  rw [List.take_add_one, h]; rfl
end Go.Proofs.YtagocfifagnpkaaDoor
