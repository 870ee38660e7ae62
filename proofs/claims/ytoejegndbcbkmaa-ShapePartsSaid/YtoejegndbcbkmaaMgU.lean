/-
  The program's again, alike, EqualFunc over alike, Same: what they tell of trees.
-/
import Derived.Test.YtoejegndbcbkmaaRtB
import Derived.Test.YtoejegndbcbkmaaRtH
import Derived.Test.YtoejegndbcbkmaaArM
import Derived.Test.YtoejegndbcbkmaaMgK
import Derived.Deep.RegionHeld3
import Derived.LaidEqlPtr
namespace Go.Proofs.Ytoejegndbcbkmaa
open Go.RowKit

/-! ### what lies at a place is one tree -/
theorem nd_uniq {w : World} {S S' : Nat → Prop} {v : Value} {x y : Nod} {ks ls : Fr} (hU : ∀ {b o : Nat}, ks.len = ls.len → InF w S ks b o → InF w S' ls b o → ks = ls)
    (h : Nd w S v x ks.len (InF w S ks)) (h' : Nd w S' v y ls.len (InF w S' ls)) : x = y ∧ ks = ls := by
  obtain ⟨q, p, A, c, e, _, _, h0, h1, h2, h3, h4, _, hk⟩ := h
  obtain ⟨q', p', A', c', e', _, _, h0', h1', h2', h3', h4', _, hk'⟩ := h'
  subst e
  injection e' with e'
  injection e' with e'
  injection e' with e1 e2
  subst e1 e2
  have k0 : x.k = y.k := by rw [h0] at h0'; injection h0' with h; injection h
  have k1 : x.n = y.n := by rw [h1] at h1'; injection h1' with h; injection h
  have k2 : x.a = y.a := by rw [h2] at h2'; injection h2' with h; injection h
  have k3 : x.m = y.m := by rw [h3] at h3'; injection h3' with h; injection h
  rw [h4] at h4'
  injection h4' with h4'
  injection h4' with hA hl _
  subst hA
  refine ⟨nod_ext k0 k1 k2 k3, ?_⟩
  rcases Nat.eq_zero_or_pos ks.len with hz | hp
  · cases ks with
    | nil => cases ls with
      | nil => rfl
      | cons _ _ _ => simp [Fr.len] at hl
    | cons _ _ _ => simp [Fr.len] at hz
  · obtain ⟨kb, ko, hA1, _, hkk⟩ := hk hp
    obtain ⟨kb', ko', hA2, _, hkk'⟩ := hk' (by omega)
    rw [hA1] at hA2
    injection hA2 with hA2
    injection hA2 with e1 e2
    subst e1 e2
    exact hU hl hkk hkk'
theorem InF.uniq {w : World} {S S' : Nat → Prop} : ∀ {f g : Fr} {b o : Nat}, f.len = g.len → InF w S f b o → InF w S' g b o → f = g
  | .nil, .nil, _, _, _, _, _ => rfl
  | .nil, .cons _ _ _, _, _, h, _, _ => by simp [Fr.len] at h
  | .cons _ _ _, .nil, _, _, h, _, _ => by simp [Fr.len] at h
  | .cons x ks rs, .cons y ls ss, b, o, hlen, h, h' => by
    obtain ⟨⟨v, hv, hn⟩, hr⟩ := h
    obtain ⟨⟨v', hv', hn'⟩, hr'⟩ := h'
    obtain rfl : v = v' := by rw [hv] at hv'; injection hv'
    have hr2 : rs = ss := InF.uniq (f := rs) (g := ss) (by simp only [Fr.len] at hlen; omega) hr hr'
    obtain ⟨e1, e2⟩ := nd_uniq (fun hl h1 h2 => InF.uniq (f := ks) (g := ls) hl h1 h2) hn hn'
    rw [e1, e2, hr2]
theorem InT.uniq {w : World} {S S' : Nat → Prop} {v : Value} {t u : Tr} (h : InT w S v t) (h' : InT w S' v u) : t = u := by
  obtain ⟨e1, e2⟩ := nd_uniq (fun hl h1 h2 => InF.uniq hl h1 h2) h h'
  exact Prod.ext e1 e2

/-! ### again -/
/-! ### alike, EqualFunc over alike -/
theorem infoNode : ∃ j : TypeInfo, Try.prog.info? 37 = some j ∧ j.size ≠ 0 := by
  have h : (Try.prog.info? 37).map (·.size) = some 5 := by kernel_rfl
  obtain ⟨j, hj, hs⟩ := Option.map_eq_some_iff.1 h
  exact ⟨j, hj, by omega⟩
theorem ptr_other {w : World} {a b : Addr} (hne : a ≠ b) (ha : Pln w a.block) (hb : Pln w b.block) : (binOp .eql 25 (.pointer (some a)) (.pointer (some b))).run Try.prog w = .ok (.bool false) w := by
  obtain ⟨j, hj, hs⟩ := infoNode
  obtain ⟨ca, ta, ha⟩ := ha
  obtain ⟨cb, tb, hb⟩ := hb
  exact run_eql_ptr_other w Try.underlying25 hj hs hne ha hb
theorem ptr_same (w : World) (a : Addr) : (binOp .eql 25 (.pointer (some a)) (.pointer (some a))).run Try.prog w = .ok (.bool true) w := by
  obtain ⟨j, hj, hs⟩ := infoNode
  exact run_eql_ptr_same w a Try.underlying25 hj
/-! ### Same -/
theorem ptr_nil_left (w : World) (a : Addr) : (binOp .eql 25 (.pointer none) (.pointer (some a))).run Try.prog w = .ok (.bool false) w := by
  have h : ∀ d : Nat, (Op.equalIn (d + 1) 25 (.pointer none) (.pointer (some a))).run Try.prog w = .ok false w := fun d => by simp [Op.equalIn, run_underlying Try.underlying25]
  simp only [binOp]
  simp [Op.equal, Op.maxDepth, h 9999]
theorem ptr_nil_right (w : World) (a : Addr) : (binOp .eql 25 (.pointer (some a)) (.pointer none)).run Try.prog w = .ok (.bool false) w := by
  have h : ∀ d : Nat, (Op.equalIn (d + 1) 25 (.pointer (some a)) (.pointer none)).run Try.prog w = .ok false w := fun d => by simp [Op.equalIn, run_underlying Try.underlying25]
  simp only [binOp]
  simp [Op.equal, Op.maxDepth, h 9999]
def SbPost (b : Bool) (w : World) (e : Ending) (w' : World) : Prop := e = .returned (.bool b) ∧ Below w.heap.size w w'
end Go.Proofs.Ytoejegndbcbkmaa
/-
  The law's works: it tells true.
-/
namespace Go.Proofs.Ytoejegndbcbkmaa
open Go.RowKit

def emp : ByteArray := ⟨#[]⟩
def treeW : Tr := (⟨6, 0, emp, emp⟩, .cons ⟨1, 0, emp, emp⟩ .nil (.cons ⟨2, 0, emp, emp⟩ .nil .nil))
theorem treeW_cel : celT treeW 0 = [⟨⟨1, 0, emp, emp⟩, []⟩, ⟨⟨2, 0, emp, emp⟩, []⟩, ⟨⟨6, 0, emp, emp⟩, [0, 1]⟩] := rfl
theorem four_blocks (w : World) (o1 o2 o3 o4 : Obj) {H : Nat} (hH : w.heap.size = H) : ((((w.alloc o1).alloc o2).alloc o3).alloc o4).heap[H]? = some o1 ∧ ((((w.alloc o1).alloc o2).alloc o3).alloc o4).heap[H + 1]? = some o2 ∧ ((((w.alloc o1).alloc o2).alloc o3).alloc o4).heap[H + 2]? = some o3 ∧ ((((w.alloc o1).alloc o2).alloc o3).alloc o4).heap[H + 3]? = some o4 ∧
    Below H w ((((w.alloc o1).alloc o2).alloc o3).alloc o4) ∧ ((((w.alloc o1).alloc o2).alloc o3).alloc o4).heap.size = H + 4 := by
  obtain ⟨t1, t2, t3, hb, hs⟩ := three_blocks w o1 o2 o3 hH
  have a4 : ((((w.alloc o1).alloc o2).alloc o3).alloc o4).heap[H + 3]? = some o4 := by rw [← hs]; exact heap_alloc_new _ o4
  exact ⟨block_alloc _ t1, block_alloc _ t2, block_alloc _ t3, a4, hb.alloc (by omega) _, by simp; omega⟩
theorem leafW {w : World} {S : Nat → Prop} {b : Nat} {k : Int} (h : w.heap[b]? = some (.cells #[.int .i64 k, .int .i64 0, .string emp, .string emp, .slice none 0 0] 37 (0, 0))) (hS : S b) : InT w S (.pointer (some ⟨b, 0, none⟩)) (⟨k, 0, emp, emp⟩, .nil) :=
  ⟨b, 0, none, 0, rfl, hS, ⟨_, _, h⟩, cell_of_row w b 0 _ _ _ h, cell_of_row w b 1 _ _ _ h, cell_of_row w b 2 _ _ _ h, cell_of_row w b 3 _ _ _ h, cell_of_row w b 4 _ _ _ h, Nat.le_refl _, fun hn => absurd hn (by simp [Fr.len])⟩
theorem treeW_in {w : World} {S : Nat → Prop} {H : Nat} (h1 : w.heap[H]? = some (.cells #[.int .i64 1, .int .i64 0, .string emp, .string emp, .slice none 0 0] 37 (0, 0))) (h2 : w.heap[H + 1]? = some (.cells #[.int .i64 2, .int .i64 0, .string emp, .string emp, .slice none 0 0] 37 (0, 0)))
    (h3 : w.heap[H + 2]? = some (.cells #[.pointer (some ⟨H, 0, none⟩), .pointer (some ⟨H + 1, 0, none⟩)] 25 (0, 0))) (h4 : w.heap[H + 3]? = some (.cells #[.int .i64 6, .int .i64 0, .string emp, .string emp, .slice (some ⟨H + 2, 0, none⟩) 2 2] 37 (0, 0)))
    (hS : S H ∧ S (H + 1) ∧ S (H + 2) ∧ S (H + 3)) : InT w S (.pointer (some ⟨H + 3, 0, none⟩)) treeW :=
  ⟨H + 3, 0, some ⟨H + 2, 0, none⟩, 2, rfl, hS.2.2.2, ⟨_, _, h4⟩, cell_of_row w (H + 3) 0 _ _ _ h4, cell_of_row w (H + 3) 1 _ _ _ h4, cell_of_row w (H + 3) 2 _ _ _ h4, cell_of_row w (H + 3) 3 _ _ _ h4, cell_of_row w (H + 3) 4 _ _ _ h4, Nat.le_refl _,
    fun _ => ⟨H + 2, 0, rfl, hS.2.2.1, ⟨⟨_, cell_of_row w (H + 2) 0 _ _ _ h3, leafW h1 hS.1⟩, ⟨⟨_, cell_of_row w (H + 2) 1 _ _ _ h3, leafW h2 hS.2.1⟩, trivial⟩⟩⟩⟩
end Go.Proofs.Ytoejegndbcbkmaa
