/-
  The document's table of forms: what rows tells.
-/
import Derived.Test.YtoejegndbcbkmaaHp
import Derived.Test.YtoejegndbcbkmaaRtA
import Derived.Test.YtoejegndbcbkmaaRtB
import Derived.Test.YtoejegndbcbkmaaMgA
import Derived.KernelRfl
namespace Go.Proofs.Ytoejegndbcbkmaa
open Go.RowKit

def byt (l : List UInt8) : ByteArray := ⟨l.toArray⟩
/-- A row's seven cells. -/
def rcl (r : Rw) : List Value := [.int .i64 r.cat, .int .i64 r.kind, .string (byt r.nm), .string (byt r.mr), .int .i64 r.fr, .int .i64 r.to, .string (byt r.ks)]
def RWC : List Value := RWS.flatMap rcl
/-- Where the table lies. -/
def Tbl (w : World) (g : Nat) : Prop := w.heap[g]? = some (.cells RWC.toArray 68 (0, 0))
/-- Operations that yield values, one behind the other. -/
def runL (P : Program) : List Oper → Act → World → Option (Act × World)
  | [], a, w => some (a, w)
  | o :: rest, a, w => match o.guard with
    | none => match (execOp a.eval o).run P w with
      | .ok (.value v) w' => runL P rest (a.put o.dst v) w'
      | _ => none
    | some _ => none
theorem wpList_run {P : Program} {ops : Array Oper} {Q : Exit → Act → World → Prop} : ∀ (l : List Oper) (a : Act) (w : World) (a' : Act) (w' : World), runL P l a w = some (a', w') → Q .normal a' w' → wpList P ops Q l a w
  | [], a, w, a', w', h, hq => by
    simp only [runL, Option.some.injEq, Prod.mk.injEq] at h
    obtain ⟨rfl, rfl⟩ := h
    exact hq
  | o :: rest, a, w, a', w', h, hq => by
    unfold runL at h
    split at h
    · rename_i hg
      split at h
      · rename_i v w2 hr
        refine wpList_plain hg fun K hK => ?_
        unfold Oper.wp
        rw [hr]
        exact hK _ _ (wpList_run rest _ _ a' w' h hq)
      · cases h
    · cases h
theorem wp_region_run {P : Program} {id : Nat} {ops : Array Oper} {Q : Exit → Act → World → Prop} {a a' : Act} {w w' : World} (h : runL P ops.toList a w = some (a', w')) (hq : Q .normal a' w') : (Code.region id ops false).wp P Q a w :=
  wp_region_list (wpList_run _ _ _ _ _ h hq)
/-- Regions of such operations, one behind the other, to the end. -/
def runC (P : Program) : Code → Act → World → Option (Act × World)
  | .seq (.region _ ops false) c, a, w => (runL P ops.toList a w).bind fun p => runC P c p.1 p.2
  | .ret, a, w => some (a, w)
  | _, _, _ => none
theorem wp_runC' {P : Program} {Q : Exit → Act → World → Prop} : ∀ (c : Code) (a : Act) (w : World) (a' : Act) (w' : World), runC P c a w = some (a', w') → Q .ret a' w' → c.wp P Q a w := by
  intro c
  induction c with
  | seq x y _ ih =>
    intro a w a' w' h hq
    cases x with
    | region id ops b =>
      cases b with
      | false =>
        simp only [runC] at h
        obtain ⟨⟨a1, w1⟩, h1, h2⟩ := Option.bind_eq_some_iff.1 h
        refine wp_seq_k fun K hK => ?_
        exact wp_region_run h1 (hK _ _ (ih _ _ _ _ h2 hq))
      | true => simp [runC] at h
    | _ => simp [runC] at h
  | ret =>
    intro a w a' w' h hq
    simp only [runC, Option.some.injEq, Prod.mk.injEq] at h
    obtain ⟨rfl, rfl⟩ := h
    exact wp_ret hq
  | _ => intro a w a' w' h; simp [runC] at h
theorem wp_runC {P : Program} {fn : Func} {R : Ending → World → Prop} {c : Code} {a : Act} {w w1 : World} {v : Value} (h : (runC P c a w).map (fun p => (p.1.defers, (results fn p.1.tmps).run P p.2, p.2)) = some ([], .ok v w1, w1)) (hR : R (.returned v) w1) : c.wp P (bodyPost P fn R) a w := by
  obtain ⟨⟨a', w'⟩, h1, h2⟩ := Option.map_eq_some_iff.1 h
  simp only [Prod.mk.injEq] at h2
  obtain ⟨h3, h4, rfl⟩ := h2
  exact wp_runC' c a w a' w' h1 ⟨h3, v, h4, hR⟩
set_option maxHeartbeats 6400000 in
set_option maxRecDepth 100000 in
theorem rows_any (w : World) : Calls Try.prog 45 #[] w fun e w' => ∃ g, e = .returned (.slice (some ⟨g, 0, none⟩) 47 47) ∧ w.heap.size ≤ g ∧ Tbl w' g ∧ Below w.heap.size w w' := by
  go_enter Try.func45, Try.ntmps45
  refine wp_runC (v := .slice (some ⟨w.heap.size, 0, none⟩) 47 47) (w1 := w.alloc (.cells RWC.toArray 68)) (by kernel_rfl) ?_
  exact ⟨w.heap.size, rfl, Nat.le_refl _, heap_alloc_new w _, (Below.refl _ w).alloc (Nat.le_refl _) _⟩
end Go.Proofs.Ytoejegndbcbkmaa
/-
  The document's cat: the category that a sign asks.
-/
namespace Go.Proofs.Ytoejegndbcbkmaa
open Go.RowKit

theorem u8_eq {c d : UInt8} (h : c = d) : ((c.toNat : Int) == (d.toNat : Int)) = true := by subst h; simp
theorem u8_ne {c d : UInt8} (h : c ≠ d) : ((c.toNat : Int) == (d.toNat : Int)) = false := by
  rw [beq_eq_false_iff_ne]
  intro e
  exact h (UInt8.toNat_inj.1 (by omega))
def SGN : List UInt8 := [116, 101, 109, 115, 112, 100]
theorem cat_at {c : UInt8} {i : Nat} (h : ∀ j, j < i → SGN[j]? ≠ some c) (hi : SGN[i]? = some c) : catOf c = (i : Int) + 1 := by
  have hl : i < 6 := (List.getElem?_eq_some_iff.1 hi).1
  have hc : c = 116 ∨ c = 101 ∨ c = 109 ∨ c = 115 ∨ c = 112 ∨ c = 100 := by
    have := List.mem_of_getElem? hi
    simpa [SGN] using this
  match i, hl with
  | 0, _ => injection hi with hi; subst hi; rfl
  | 1, _ => injection hi with hi; subst hi; rfl
  | 2, _ => injection hi with hi; subst hi; rfl
  | 3, _ => injection hi with hi; subst hi; rfl
  | 4, _ => injection hi with hi; subst hi; rfl
  | 5, _ => injection hi with hi; subst hi; rfl
theorem cat_none {c : UInt8} (h : ∀ j, j < 6 → SGN[j]? ≠ some c) : catOf c = 6 := by
  have g : ∀ j d, j < 6 → SGN[j]? = some d → c ≠ d := fun j d hj hd e => h j hj (by rw [hd, e])
  unfold catOf
  rw [if_neg (g 0 116 (by omega) rfl), if_neg (g 1 101 (by omega) rfl), if_neg (g 2 109 (by omega) rfl), if_neg (g 3 115 (by omega) rfl), if_neg (g 4 112 (by omega) rfl)]
theorem i64_ret {a b : Int} {w w' : World} (h : a = b) (hw : w = w') : Ending.returned (.int .i64 b) = .returned (.int .i64 a) ∧ w = w' := ⟨by rw [h], hw⟩
set_option maxHeartbeats 6400000 in
set_option maxRecDepth 100000 in
theorem cat_any (c : UInt8) (w : World) :
    Calls Try.prog 66 #[.int .u8 (c.toNat : Int)] w fun e w' => e = .returned (.int .i64 (catOf c)) ∧ w = w' := by
  go_enter Try.func66, Try.ntmps66
  go_wp2_with fail
  go_loopw [4] (fun i wr => ∃ I : Nat, i = .int .i64 I ∧ I ≤ 6 ∧ (∀ j, j < I → SGN[j]? ≠ some c) ∧ w = wr) (fun i _ => 6 - (intOf i).toNat)
  case atStart => exact ⟨0, rfl, by omega, fun j hj => absurd hj (Nat.not_lt_zero _), rfl⟩
  case round =>
    obtain ⟨I, rfl, hI, hn, rfl⟩ := hrel
    by_cases h6 : I = 6
    · subst h6
      have HE := Lib.hid (cat_none hn)
      clear hn
      go_wp2_with fail
      go_ret
      exact i64_ret HE.out rfl
    · obtain ⟨d, hd⟩ : ∃ d, SGN[I]? = some d := ⟨_, List.getElem?_eq_getElem (by show I < 6; omega)⟩
      have hlt : I < ({ data := #[116, 101, 109, 115, 112, 100] } : ByteArray).size := by show I < 6; omega
      have hval : ({ data := #[116, 101, 109, 115, 112, 100] } : ByteArray)[I]'hlt = d := (List.getElem?_eq_some_iff.1 hd).2
      have hu : I = 0 ∨ I = 1 ∨ I = 2 ∨ I = 3 ∨ I = 4 ∨ I = 5 := by omega
      by_cases hcd : d = c
      · subst hcd
        have HE := Lib.hid (cat_at hn hd)
        have hne : (((({ data := #[116, 101, 109, 115, 112, 100] } : ByteArray)[I]'hlt).toNat : Int) == (d.toNat : Int)) = true := u8_eq hval
        clear hn hd hval
        rcases hu with rfl | rfl | rfl | rfl | rfl | rfl
        all_goals
          go_wp2_with fail
          go_ret
          exact i64_ret HE.out rfl
      · have hs : ∀ j, j < I + 1 → SGN[j]? ≠ some c := fun j hj => by
          by_cases h : j = I
          · subst h; rw [hd]; exact fun e => hcd (by injection e)
          · exact hn j (by omega)
        have HS := Lib.hid hs
        have hne : (((({ data := #[116, 101, 109, 115, 112, 100] } : ByteArray)[I]'hlt).toNat : Int) == (c.toNat : Int)) = false := u8_ne (fun e => hcd (hval.symm.trans e))
        clear hn hd hs hcd hval
        rcases hu with rfl | rfl | rfl | rfl | rfl | rfl
        all_goals
          go_wp2_with fail
          go_roundw
          case rel => exact ⟨_, by go_num, by omega, HS.out, trivial⟩
          case measure => simp [intOf]
end Go.Proofs.Ytoejegndbcbkmaa
