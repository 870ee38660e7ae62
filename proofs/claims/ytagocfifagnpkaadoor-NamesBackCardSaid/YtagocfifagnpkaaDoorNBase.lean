/-
  What every row of the seat of names wants: what its variables hold, out of the row's list; a world that holds them.
-/
import Derived.Test.YtagocfifagnpkaaDoorNVar
import Derived.Lib.LaidIn
import Derived.Lib.LaidU8T
import Derived.MakeChecks
import Derived.Deep.DeepHandedRow
import Derived.Deep.DeepWitnessRowRef
import Derived.ProofKit
import Derived.SizedLaws
import Derived.LaidLaws
import Derived.OpenShut
namespace Go.Proofs.YtagocfifagnpkaaDoor
open Go.ChangeShapes Go.WideShapes Go.ChangeAt Go.RowKit Go.Lib

theorem ownKnobNone : ownKnob Tryd.prog.godebug = none := by kernel_rfl
/-- The variables, as the rows list them. -/
def laidL : List (String × DataW Unit) := [("math/bits.deBruijn32tab", Rows.laid_math_bits_deBruijn32tab), ("math/bits.deBruijn64tab", Rows.laid_math_bits_deBruijn64tab), ("internal/strconv.uint64pow10", Rows.laid_internal_strconv_uint64pow10), ("unicode/utf8.acceptRanges", Rows.laid_unicode_utf8_acceptRanges), ("unicode/utf8.first", Rows.laid_unicode_utf8_first)]
theorem pow_is : (Rows.laid_internal_strconv_uint64pow10 : DataW Unit) = Lib.tabData .u64 Lib.pow10Tab := by kernel_rfl

theorem reads_cells {w : World} {n : String} {d : DataW Unit} (h : VarReads Tryd.prog w n d) {g : Nat} {t : TypeId} (hg : Tryd.prog.globalNamed n = some g) (ht : (Tryd.prog.globals[g]?).map (·.type) = some t) :
    ∃ cs fuel p, w.var? Tryd.prog n = some cs ∧ (∃ e z, w.heap[g]? = some (.cells cs e z)) ∧ DataW.trod (fun _ => ()) Tryd.prog w 0 (fun _ => true) false fuel t cs.toList = some (d, p) := by
  obtain ⟨g', t', cs, fuel, p, h1, h2, h3, h4⟩ := h
  obtain rfl := Option.some.inj (hg.symm.trans h1)
  obtain rfl := Option.some.inj (ht.symm.trans h2)
  refine ⟨cs, fuel, p, h3, ?_, h4⟩
  unfold World.var? at h3
  rw [hg] at h3
  simp only [Option.bind_some] at h3
  split at h3
  · rename_i cs' e z he
    injection h3 with h3
    subst h3
    exact ⟨e, z, he⟩
  · cases h3
theorem nx_of {W : World} {l : List (String × DataW Unit)} (h : laidMetH Tryd.prog l W) (hl : l = laidL) (hsh : W.ShapedOpen Tryd.prog) : Nx W := by
  subst hl
  have h : laidMet Tryd.prog laidL W := h
  have h3 := Lib.laidMet.reads h (show ("internal/strconv.uint64pow10", Rows.laid_internal_strconv_uint64pow10) ∈ laidL by simp [laidL])
  rw [pow_is] at h3
  refine ⟨?_, Tryd.laysM143.s1_3 W hsh⟩
  obtain ⟨cs, fuel, p, k1, _, k3⟩ := reads_cells h3 (g := 3) (t := 101) (by kernel_rfl) (by kernel_rfl)
  unfold TabIs
  rw [k1, ← Lib.cells_of_tab (t := 101) (n := 20) (e := 95) (by kernel_rfl) (by kernel_rfl) (by kernel_rfl) (by kernel_rfl) k3]

/-- The settled world, the variables holding what their initialisers lay. -/
def litV : DataW Unit → Value
  | .lit (.int k z) => .int k z
  | .lit (.string l) => .string ⟨l.toArray⟩
  | _ => undef
def rowV : DataW Unit → Array Value
  | .agg ds => (ds.map litV).toArray
  | _ => #[]
noncomputable def laidWorld (os : Os) : World :=
  let w0 := World.holding Tryd.prog os ⟨#[], #[], []⟩
  let put (h : Array Obj) (g : Nat) (cs : Array Value) : Array Obj := h.modify g fun
    | .cells _ t frozen => .cells cs t frozen
    | o => o
  let h1 := put w0.heap 1 (Lib.firstTab.map fun z => Value.int .u8 z).toArray
  let h2 := put h1 2 ((List.range 16).flatMap fun i => [Value.int .u8 (Lib.accLo i), Value.int .u8 (Lib.accHi i)]).toArray
  let h3 := put h2 3 (rowV Rows.laid_internal_strconv_uint64pow10)
  let h4 := put h3 4 (rowV Rows.laid_math_bits_deBruijn32tab)
  let h5 := put h4 5 (rowV Rows.laid_math_bits_deBruijn64tab)
  { w0 with heap := h5 }
end Go.Proofs.YtagocfifagnpkaaDoor
