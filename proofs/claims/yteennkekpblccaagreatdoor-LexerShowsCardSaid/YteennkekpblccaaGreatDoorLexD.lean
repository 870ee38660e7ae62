/-
  What the library's and the lexer's variables hold; the lexer's sign: what it tells.
-/
import Derived.Test.YteennkekpblccaaGreatDoorLexC
import Derived.Laws.Rows
namespace Go.Proofs.YteennkekpblccaaGreatDoor
open Go.RowKit

theorem cell_lt {w : World} {a : Addr} {v : Value} (h : w.cell? a = some v) : a.block < w.heap.size := by
  rcases Nat.lt_or_ge a.block w.heap.size with h' | h'
  · exact h'
  · simp [World.cell?, Array.getElem?_eq_none h'] at h
theorem cell_below {w w' : World} {a : Addr} {v : Value} (h : w.cell? a = some v) (hb : Below w.heap.size w w') : w'.cell? a = some v := (hb.cell (cell_lt h)).trans h
theorem heap_lt {w : World} {g : Nat} {o : Obj} (h : w.heap[g]? = some o) : g < w.heap.size := by
  rcases Nat.lt_or_ge g w.heap.size with h' | h'
  · exact h'
  · rw [Array.getElem?_eq_none h'] at h; cases h
theorem heap_below {w w' : World} {g : Nat} {o : Obj} (h : w.heap[g]? = some o) (hb : Below w.heap.size w w') : w'.heap[g]? = some o := (hb.block g (heap_lt h)).trans h
theorem tab_below {w w' : World} {name : String} {k : IntKind} {zs : List Int} {g : Nat} (hg : Tryz.prog.globalNamed name = some g) (h : Lib.TabIs Tryz.prog w name k zs) (hb : Below w.heap.size w w') : Lib.TabIs Tryz.prog w' name k zs := by
  unfold Lib.TabIs World.var? at h ⊢
  rw [hg] at h ⊢
  simp only [Option.bind_some] at h ⊢
  cases ho : w.heap[g]? with
  | none => rw [ho] at h; cases h
  | some o => rw [heap_below ho hb, ← ho]; exact h
/-- The values of signs. -/
def sgV : Array Value := (SIGNS.map fun x => Value.string (T x)).toArray
def ErrIs (w : World) (g : Nat) : Prop := ∃ ev, w.cell? ⟨g, 0, none⟩ = some ev ∧ (ev = .nilIface ∨ ∃ te pe, ev = .iface te pe)
/-- What the variables that the lexer comes to hold. -/
def Lx (w : World) : Prop :=
  Lib.Utf8Tabs (Tryz.lays197_ren.g 3) (Tryz.lays197_ren.g 4) w ∧ Lib.TabIs Tryz.prog w "internal/strconv.uint64pow10" .u64 Lib.pow10Tab ∧
  (∃ m, w.cell? ⟨0, 0, none⟩ = some (.int .i64 m)) ∧ ErrIs w 7 ∧ ErrIs w 8 ∧
  ∃ t z, w.heap[3]? = some (.cells sgV t z)
theorem ErrIs.below {w w' : World} {g : Nat} (h : ErrIs w g) (hb : Below w.heap.size w w') : ErrIs w' g := by
  obtain ⟨ev, h1, h2⟩ := h
  exact ⟨ev, cell_below h1 hb, h2⟩
theorem Lx.below {w w' : World} (h : Lx w) (hb : Below w.heap.size w w') : Lx w' := by
  obtain ⟨h1, h2, ⟨m, h3⟩, h4, h5, t, z, h6⟩ := h
  exact ⟨Utf8Tabs_below h1 hb, tab_below (g := 4) (by kernel_rfl) h2 hb, ⟨m, cell_below h3 hb⟩, h4.below hb, h5.below hb, t, z, heap_below h6 hb⟩

/-- A token's value. -/
def tv (t : Tok) (a : Int) : Value := .agg #[.int .i64 t.k, .string (T t.x), .int .i64 t.n, .int .i64 a]
def tv0 : Value := .agg #[.int .i64 0, .string ⟨#[]⟩, .int .i64 0, .int .i64 0]
def TkPost (l : List Nat) (r : Option (Tok × Nat)) (W : World) (e : Ending) (w' : World) : Prop :=
  e = .returned (.tuple #[(match r with | none => tv0 | some (t, _) => tv t 0), .int .i64 ((match r with | none => 0 | some (_, n) => sz (l.take n)) : Nat)]) ∧ Below W.heap.size W w'
theorem tk_none {l : List Nat} {r : Option (Tok × Nat)} {W w' : World} (h : r = none) (hb : Below W.heap.size W w') : TkPost l r W (.returned (.tuple #[.agg #[.int .i64 0, .string ⟨#[]⟩, .int .i64 0, .int .i64 0], .int .i64 0])) w' := by
  subst h; exact ⟨rfl, hb⟩
theorem tk_some {l : List Nat} {r : Option (Tok × Nat)} {W w' : World} {k m z : Int} {x : List Nat} {s : ByteArray} {n : Nat} (h : r = some (⟨k, x, m⟩, n)) (hs : s = T x) (hz : z = (sz (l.take n) : Nat)) (hb : Below W.heap.size W w') :
    TkPost l r W (.returned (.tuple #[.agg #[.int .i64 k, .string s, .int .i64 m, .int .i64 0], .int .i64 z])) w' := by
  subst h; subst hs; subst hz; exact ⟨rfl, hb⟩

/-! ### signs -/
def sg (k : Nat) : List Nat := SIGNS.getD k []
theorem sg_idx : ∀ k : Nat, k < 17 → ∀ w : World, (Instr.index 95 (.agg sgV) (.int .i64 (k : Int))).run Tryz.prog w = .ok (.string (T (sg k))) w
  | 0, _, _ => by kernel_rfl
  | 1, _, _ => by kernel_rfl
  | 2, _, _ => by kernel_rfl
  | 3, _, _ => by kernel_rfl
  | 4, _, _ => by kernel_rfl
  | 5, _, _ => by kernel_rfl
  | 6, _, _ => by kernel_rfl
  | 7, _, _ => by kernel_rfl
  | 8, _, _ => by kernel_rfl
  | 9, _, _ => by kernel_rfl
  | 10, _, _ => by kernel_rfl
  | 11, _, _ => by kernel_rfl
  | 12, _, _ => by kernel_rfl
  | 13, _, _ => by kernel_rfl
  | 14, _, _ => by kernel_rfl
  | 15, _, _ => by kernel_rfl
  | 16, _, _ => by kernel_rfl
  | k + 17, h, _ => absurd h (by omega)
theorem sg_ascii (k : Nat) : ∀ x ∈ sg k, x < 128 := by
  unfold sg
  by_cases h : k < 17
  · have h' : k = 0 ∨ k = 1 ∨ k = 2 ∨ k = 3 ∨ k = 4 ∨ k = 5 ∨ k = 6 ∨ k = 7 ∨ k = 8 ∨ k = 9 ∨ k = 10 ∨ k = 11 ∨ k = 12 ∨ k = 13 ∨ k = 14 ∨ k = 15 ∨ k = 16 := by omega
    rcases h' with rfl | rfl | rfl | rfl | rfl | rfl | rfl | rfl | rfl | rfl | rfl | rfl | rfl | rfl | rfl | rfl | rfl
    all_goals decide
  · rw [List.getD_eq_getElem?_getD, List.getElem?_eq_none (by rw [show SIGNS.length = 17 from rfl]; omega)]
    intro x hx
    cases hx
/-- None of the first k signs stands at the head. -/
def noSg (l : List Nat) (k : Nat) : Prop := ∀ j, j < k → (sg j).isPrefixOf l = false
theorem find_at {α : Type} {f : α → Bool} : ∀ {l : List α} {k : Nat} {x : α}, l[k]? = some x → (∀ j y, j < k → l[j]? = some y → f y = false) → f x = true → l.find? f = some x := by
  intro l
  induction l with
  | nil => intro k x h; cases h
  | cons a t ih =>
    intro k x h hn hf
    cases k with
    | zero => simp at h; subst h; rw [List.find?_cons_of_pos hf]
    | succ k =>
      rw [List.find?_cons_of_neg (by rw [hn 0 a (by omega) rfl]; simp)]
      exact ih (by simpa using h) (fun j y hj hy => hn (j + 1) y (by omega) (by simpa using hy)) hf
theorem sg_get (k : Nat) (h : k < 17) : SIGNS[k]? = some (sg k) := by
  unfold sg
  rw [List.getD_eq_getElem?_getD, List.getElem?_eq_getElem (show k < SIGNS.length from h)]
  rfl
theorem sign_hit {l : List Nat} {k : Nat} (h : noSg l k) (hk : k < 17) (hp : (sg k).isPrefixOf l = true) : signT l = some (⟨3, sg k, 0⟩, (sg k).length) := by
  unfold signT
  rw [find_at (sg_get k hk) (fun j y hj hy => by rw [sg_get j (by omega)] at hy; injection hy with hy; rw [← hy]; exact h j hj) hp]
  rfl
theorem sign_miss {l : List Nat} (h : noSg l 17) : signT l = none := by
  unfold signT
  rw [List.find?_eq_none.2 ?_]
  · rfl
  · intro x hx
    obtain ⟨k, hk, rfl⟩ := List.getElem_of_mem hx
    have h1 := sg_get k hk
    rw [List.getElem?_eq_getElem hk] at h1
    injection h1 with h1
    rw [h1, h k hk]
    simp
theorem pre_take {x l : List Nat} (h : x.isPrefixOf l = true) : l.take x.length = x := (List.prefix_iff_eq_take.1 (List.isPrefixOf_iff_prefix.1 h)).symm

set_option maxHeartbeats 3200000 in
set_option maxRecDepth 100000 in
theorem sign_any (l : List Nat) (ho : okl l) (w : World) (hL : Lx w) :
    Calls Tryz.prog 51 #[.string (T l)] w (TkPost l (signT l) w) := by
  obtain ⟨t, z, hsg⟩ := hL.2.2.2.2.2
  obtain ⟨S, hS⟩ : ∃ S, T l = S := ⟨_, rfl⟩
  have HS := Lib.hid hS
  rw [hS]
  clear hS
  go_enter Tryz.func51, Tryz.ntmps51
  go_wp2_with (refine wpList_load_row rfl 95 (.global 3) rfl 3 rfl t sgV z _ (Below.heap_alloc w _ _ (heap_lt hsg) ▸ hsg) Tryz.underlying95 rfl (by kernel_rfl) ?_)
  generalize hA : sgV = AR
  have HAR := Lib.hid hA
  clear hA hsg
  go_loop [5, 7] (fun _ i => ∃ k : Nat, k ≤ 17 ∧ i = .int .i64 k ∧ noSg l k) (fun _ i => 17 - (intOf i).toNat)
  case atStart => exact ⟨0, Nat.zero_le _, rfl, fun j hj => absurd hj (Nat.not_lt_zero _)⟩
  case round =>
    obtain ⟨k, hk, rfl, hno⟩ := hrel
    have HNO := Lib.hid hno
    clear hno
    by_cases hlt : k < 17
    · obtain ⟨b, hb⟩ : ∃ b, (sg k).isPrefixOf l = b := ⟨_, rfl⟩
      have hp : Lib.hasPrefix S.data.toList (T (sg k)).data.toList = b := by
        rw [← HS.out, T_list, T_list, enc_ascii (sg_ascii k), pre_T (sg_ascii k) ho, hb]
      have hszT : ((T (sg k)).size : Int) = (sz (l.take (sg k).length) : Nat) ∨ b = false := by
        cases b with
        | false => exact .inr rfl
        | true => exact .inl (by rw [T_size, pre_take hb])
      have cH := fun W => hasPre hp W
      have hix : ∀ W, (Instr.index 95 (.agg AR) (.int .i64 (k : Int))).run Tryz.prog W = .ok (.string (T (sg k))) W := fun W => by rw [← HAR.out]; exact sg_idx k hlt W
      obtain ⟨X, hX⟩ : ∃ X, T (sg k) = X := ⟨_, rfl⟩
      rw [hX] at hszT hix cH
      have HX := Lib.hid hX
      have HB := Lib.hid hb
      have HSZ := Lib.hid hszT
      clear hX hb hp hszT
      cases b
      · go_wp2_with (go_at_call 50; refine (cH _).mono ?_; rintro e w' ⟨rfl, rfl⟩)
        go_round
        case rel => exact ⟨k + 1, by omega, by go_num, fun j hj => by
          rcases Nat.lt_or_ge j k with h | h
          · exact HNO.out j h
          · rw [show j = k by omega]; exact HB.out⟩
        case measure => simp [intOf]; omega
      · go_wp2_with (go_at_call 50; refine (cH _).mono ?_; rintro e w' ⟨rfl, rfl⟩)
        refine bodyPost_ret (v := .tuple #[.agg #[.int .i64 3, .string X, .int .i64 0, .int .i64 0], .int .i64 (X.size : Int)]) (by simp [results, Tryz.results51, go_sem]) rfl ?_
        refine tk_some (sign_hit HNO.out hlt HB.out) HX.out.symm (HSZ.out.resolve_right (by simp)) ?_
        exact (Below.refl _ _).alloc (Nat.le_refl _) _
    · have hk17 : k = 17 := by omega
      subst hk17
      go_wp2
      refine bodyPost_ret (v := .tuple #[.agg #[.int .i64 0, .string ⟨#[]⟩, .int .i64 0, .int .i64 0], .int .i64 0]) (by simp [results, Tryz.results51, go_sem]) rfl ?_
      refine tk_none (sign_miss HNO.out) ?_
      exact (Below.refl _ _).alloc (Nat.le_refl _) _
end Go.Proofs.YteennkekpblccaaGreatDoor
