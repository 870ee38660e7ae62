/-
  What every row of the lexer's seat wants: what its variables hold, out of the row's list; a world that holds them.
-/
import Derived.Test.YteennkekpblccaaGreatDoorLexD
import Derived.Lib.LaidIn
import Derived.Lib.LaidU8T
import Derived.MakeChecks
import Derived.Deep.DeepHandedRow
import Derived.Deep.DeepWitnessRowRef
import Derived.ProofKit
import Derived.SizedLaws
import Derived.LaidLaws
import Derived.OpenShut
namespace Go.Proofs.YteennkekpblccaaGreatDoor
open Go.ChangeShapes Go.WideShapes Go.ChangeAt Go.RowKit Go.Lib

theorem ownKnobNone : ownKnob Tryz.prog.godebug = none := by kernel_rfl
/-- The variables, as the rows list them. -/
def laidL : List (String × DataW Unit) := [("math/bits.deBruijn32tab", Rows.laid_math_bits_deBruijn32tab), ("math/bits.deBruijn64tab", Rows.laid_math_bits_deBruijn64tab), ("internal/strconv.uint64pow10", Rows.laid_internal_strconv_uint64pow10), ("unicode/utf8.acceptRanges", Rows.laid_unicode_utf8_acceptRanges), ("strconv.ErrRange", Rows.laid_strconv_ErrRange), ("strconv.ErrSyntax", Rows.laid_strconv_ErrSyntax), ("marquetry/lexer.signs", Rows.laid_marquetry_lexer_signs), ("unicode/utf8.first", Rows.laid_unicode_utf8_first)]
theorem first_is : Rows.laid_unicode_utf8_first = Lib.firstData := by kernel_rfl
theorem accept_is : (Rows.laid_unicode_utf8_acceptRanges : DataW Unit) = Lib.acceptData := by kernel_rfl
theorem pow_is : (Rows.laid_internal_strconv_uint64pow10 : DataW Unit) = Lib.tabData .u64 Lib.pow10Tab := by kernel_rfl
theorem signs_is : (Rows.laid_marquetry_lexer_signs : DataW Unit) = .agg (SIGNS.map fun x => .lit (.string (u8 x))) := by kernel_rfl

theorem reads_cells {w : World} {n : String} {d : DataW Unit} (h : VarReads Tryz.prog w n d) {g : Nat} {t : TypeId} (hg : Tryz.prog.globalNamed n = some g) (ht : (Tryz.prog.globals[g]?).map (·.type) = some t) :
    ∃ cs fuel p, w.var? Tryz.prog n = some cs ∧ (∃ e z, w.heap[g]? = some (.cells cs e z)) ∧ DataW.trod (fun _ => ()) Tryz.prog w 0 (fun _ => true) false fuel t cs.toList = some (d, p) := by
  obtain ⟨g', t', cs, fuel, p, h1, h2, h3, h4⟩ := h
  obtain rfl := Option.some.inj (hg.symm.trans h1)
  obtain rfl := Option.some.inj (ht.symm.trans h2)
  refine ⟨cs, fuel, p, h3, ?_, h4⟩
  unfold World.var? at h3
  rw [hg] at h3
  simp only [Option.bind_some] at h3
  split at h3
  · rename_i cs' e z he
    injection h3 with h3
    subst h3
    exact ⟨e, z, he⟩
  · cases h3
theorem err_of {w : World} {n : String} {nm : String} {d : DataW Unit} (h : VarReads Tryz.prog w n (.iface nm d)) {g : Nat} {t : TypeId} (hg : Tryz.prog.globalNamed n = some g) (ht : (Tryz.prog.globals[g]?).map (·.type) = some t) {ms : Array (String × TypeId)} (hi : Tryz.prog.underlying t = some (.interface ms)) : ErrIs w g := by
  obtain ⟨cs, fuel, p, h1, ⟨e, z, h2⟩, h3⟩ := reads_cells h hg ht
  obtain ⟨_, u, v, h4, _, _⟩ := iface_of_trod hi h3
  refine ⟨.iface u v, ?_, .inr ⟨u, v, rfl⟩⟩
  rw [cell_of_row w g 0 cs e z h2]
  have : cs[0]? = cs.toList[0]? := by simp
  rw [this, h4]
  rfl
theorem strs_of {w : World} {fuel : Nat} {t e : TypeId} {cs : List Value} {zs : List (List UInt8)} {p : List MemPlace} (ht : Tryz.prog.underlying t = some (.array zs.length e)) (he : Tryz.prog.underlying e = some .string) (hce : Tryz.prog.cellsOf e = 1) (hct : Tryz.prog.cellsOf t = zs.length)
    (h : DataW.trod (fun _ => ()) Tryz.prog w 0 (fun _ => true) false fuel t cs = some (.agg (zs.map fun z => .lit (.string z)), p)) : cs = zs.map fun z => Value.string ⟨z.toArray⟩ := by
  obtain ⟨xs, m, _, hx, hlen, hxl, hel⟩ := DataW.trod_array ht h
  rw [hct] at hlen
  apply List.ext_getElem (by simpa using hlen)
  intro i h1 h2
  have hi : i < zs.length := by simpa using h2
  have hk := hel i hi
  rw [hce, Nat.mul_one] at hk
  have hcs : (cs.drop i).take 1 = [cs[i]] := by
    rw [List.drop_eq_getElem_cons h1]
    rfl
  have hxi : xs[i]? = some (xs[i]'(by omega)) := List.getElem?_eq_getElem (by omega)
  rw [hcs, hxi] at hk
  obtain ⟨s, hs, hy, _⟩ := DataW.trod_string he hk
  have e1 : (xs.map (·.1))[i]? = (zs.map fun z => (DataW.lit (.string z) : DataW Unit))[i]? := by
    have := congrArg Prod.fst hx
    simp only [DataW.agg.injEq] at this
    rw [this]
  rw [List.getElem?_map, List.getElem?_map, hxi, List.getElem?_eq_getElem hi] at e1
  simp only [Option.map_some, Option.some.injEq] at e1
  rw [hy] at e1
  simp only [DataW.lit.injEq, Lit.string.injEq] at e1
  rw [(List.cons.inj hs).1, List.getElem_map, ← e1]
theorem sgV_is : (sgV.toList) = (SIGNS.map u8).map fun z => Value.string ⟨z.toArray⟩ := by kernel_rfl
theorem lx_of {W : World} {l : List (String × DataW Unit)} (h : laidMetH Tryz.prog l W) (hl : l = laidL) (hsh : W.ShapedOpen Tryz.prog) : Lx W := by
  subst hl
  have h : laidMet Tryz.prog laidL W := h
  have rd : ∀ n d, (n, d) ∈ laidL → VarReads Tryz.prog W n d := fun n d hm => Lib.laidMet.reads h hm
  have h1 := rd "unicode/utf8.first" Rows.laid_unicode_utf8_first (by simp [laidL])
  have h2 := rd "unicode/utf8.acceptRanges" Rows.laid_unicode_utf8_acceptRanges (by simp [laidL])
  have h3 := rd "internal/strconv.uint64pow10" Rows.laid_internal_strconv_uint64pow10 (by simp [laidL])
  have h4 := rd "strconv.ErrSyntax" Rows.laid_strconv_ErrSyntax (by simp [laidL])
  have h5 := rd "strconv.ErrRange" Rows.laid_strconv_ErrRange (by simp [laidL])
  have h6 := rd "marquetry/lexer.signs" Rows.laid_marquetry_lexer_signs (by simp [laidL])
  rw [first_is] at h1
  rw [accept_is] at h2
  rw [pow_is] at h3
  rw [signs_is] at h6
  refine ⟨utf8Tabs_of_readsT (U8Types.of260 Tryz.lays260) ⟨by kernel_rfl, by kernel_rfl, by kernel_rfl, by kernel_rfl, by kernel_rfl, by kernel_rfl, by kernel_rfl⟩ h1 h2, ?_, Tryz.laysM143.s1_3 W hsh,
    err_of h4 (g := 7) (by kernel_rfl) (by kernel_rfl) Tryz.underlying48, err_of h5 (g := 8) (by kernel_rfl) (by kernel_rfl) Tryz.underlying48, ?_⟩
  · obtain ⟨cs, fuel, p, k1, _, k3⟩ := reads_cells h3 (g := 4) (t := 100) (by kernel_rfl) (by kernel_rfl)
    unfold TabIs
    rw [k1, ← Lib.cells_of_tab (t := 100) (n := 20) (e := 89) (by kernel_rfl) (by kernel_rfl) (by kernel_rfl) (by kernel_rfl) k3]
  · obtain ⟨cs, fuel, p, _, ⟨e, z, k2⟩, k3⟩ := reads_cells h6 (g := 3) (t := 95) (by kernel_rfl) (by kernel_rfl)
    refine ⟨e, z, ?_⟩
    have hm : (SIGNS.map fun x => (DataW.lit (.string (u8 x)) : DataW Unit)) = (SIGNS.map u8).map fun z => .lit (.string z) := by rw [List.map_map]; rfl
    rw [hm] at k3
    have k4 := strs_of (t := 95) (e := 9) (by kernel_rfl) (by kernel_rfl) (by kernel_rfl) (by kernel_rfl) k3
    rw [k2]
    congr 2
    apply Array.ext'
    rw [k4, sgV_is]

/-- The settled world, the variables holding what their initialisers lay. -/
def litV : DataW Unit → Value
  | .lit (.int k z) => .int k z
  | .lit (.string l) => .string ⟨l.toArray⟩
  | _ => undef
def rowV : DataW Unit → Array Value
  | .agg ds => (ds.map litV).toArray
  | _ => #[]
def txtV : DataW Unit → Value
  | .iface _ (.ptr (.agg [d])) => litV d
  | _ => undef
noncomputable def laidWorld (os : Os) : World :=
  let w0 := World.holding Tryz.prog os ⟨#[], #[], []⟩
  let put (h : Array Obj) (g : Nat) (cs : Array Value) : Array Obj := h.modify g fun
    | .cells _ t frozen => .cells cs t frozen
    | o => o
  let h1 := put w0.heap 1 (Lib.firstTab.map fun z => Value.int .u8 z).toArray
  let h2 := put h1 2 ((List.range 16).flatMap fun i => [Value.int .u8 (Lib.accLo i), Value.int .u8 (Lib.accHi i)]).toArray
  let h3 := put h2 4 (rowV Rows.laid_internal_strconv_uint64pow10)
  let h4 := put h3 5 (rowV Rows.laid_math_bits_deBruijn32tab)
  let h5 := put h4 6 (rowV Rows.laid_math_bits_deBruijn64tab)
  let h6 := put h5 3 (rowV Rows.laid_marquetry_lexer_signs)
  let n := h6.size
  let h7 := put h6 8 #[.iface 125 (.pointer (some ⟨n, 0, none⟩))]
  let h8 := put h7 7 #[.iface 125 (.pointer (some ⟨n + 1, 0, none⟩))]
  let h9 := (h8.push (.cells #[txtV Rows.laid_strconv_ErrRange] 127 (0, 0))).push (.cells #[txtV Rows.laid_strconv_ErrSyntax] 127 (0, 0))
  { w0 with heap := h9 }
end Go.Proofs.YteennkekpblccaaGreatDoor
