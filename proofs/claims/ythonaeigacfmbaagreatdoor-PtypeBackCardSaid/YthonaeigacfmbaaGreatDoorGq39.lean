/-
  What every row of stage 6's seat wants: what its variables hold, out of the row's list; a world that holds them.
-/
import Derived.Test.YthonaeigacfmbaaGreatDoorGq16
import Derived.Test.YthonaeigacfmbaaGreatDoorGq38
import Derived.Deep.DeepHandedRow
import Derived.Deep.DeepWitnessRowRef
import Derived.LaidLaws
import Derived.Lib.LaidIn
import Derived.Lib.LaidU8T
import Derived.MakeChecks
import Derived.OpenShut
import Derived.ProofKit
import Derived.SizedLaws
namespace Go.Proofs.YthonaeigacfmbaaGreatDoor
open Go.ChangeShapes Go.WideShapes Go.ChangeAt Go.RowKit Go.Lib

theorem ownKnobNone : ownKnob Tryz.prog.godebug = none := by kernel_rfl
def laidL : List (String × DataW Unit) := Rows.ptypeParsesRow.laid
theorem first_is : Rows.laid_unicode_utf8_first = Lib.firstData := by kernel_rfl
theorem accept_is : (Rows.laid_unicode_utf8_acceptRanges : DataW Unit) = Lib.acceptData := by kernel_rfl
theorem pow_is : (Rows.laid_internal_strconv_uint64pow10 : DataW Unit) = Lib.tabData .u64 Lib.pow10Tab := by kernel_rfl
theorem signs_is : (Rows.laid_marquetry_lexer_signs : DataW Unit) = .agg (B.SIGNS.map fun x => .lit (.string (B.u8 x))) := by kernel_rfl

theorem reads_cells {w : World} {n : String} {d : DataW Unit} (h : VarReads Tryz.prog w n d) {g : Nat} {t : TypeId} (hg : Tryz.prog.globalNamed n = some g) (ht : (Tryz.prog.globals[g]?).map (·.type) = some t) :
    ∃ cs fuel p, w.var? Tryz.prog n = some cs ∧ (∃ e z, w.heap[g]? = some (.cells cs e z)) ∧ DataW.trod (fun _ => ()) Tryz.prog w 0 (fun _ => true) false fuel t cs.toList = some (d, p) := by
  obtain ⟨g', t', cs, fuel, p, h1, h2, h3, h4⟩ := h
  obtain rfl := Option.some.inj (hg.symm.trans h1)
  obtain rfl := Option.some.inj (ht.symm.trans h2)
  refine ⟨cs, fuel, p, h3, ?_, h4⟩
  unfold World.var? at h3
  rw [hg] at h3
  simp only [Option.bind_some] at h3
  split at h3
  · rename_i cs' e z he
    injection h3 with h3
    subst h3
    exact ⟨e, z, he⟩
  · cases h3
theorem err_of {w : World} {n : String} {nm : String} {d : DataW Unit} (h : VarReads Tryz.prog w n (.iface nm d)) {g : Nat} {t : TypeId} (hg : Tryz.prog.globalNamed n = some g) (ht : (Tryz.prog.globals[g]?).map (·.type) = some t) {ms : Array (String × TypeId)} (hi : Tryz.prog.underlying t = some (.interface ms)) : B.ErrIs w g := by
  obtain ⟨cs, fuel, p, h1, ⟨e, z, h2⟩, h3⟩ := reads_cells h hg ht
  obtain ⟨_, u, v, h4, _, _⟩ := iface_of_trod hi h3
  refine ⟨.iface u v, ?_, .inr ⟨u, v, rfl⟩⟩
  rw [cell_of_row w g 0 cs e z h2]
  have : cs[0]? = cs.toList[0]? := by simp
  rw [this, h4]
  rfl
theorem strs_of {w : World} {fuel : Nat} {t e : TypeId} {cs : List Value} {zs : List (List UInt8)} {p : List MemPlace} (ht : Tryz.prog.underlying t = some (.array zs.length e)) (he : Tryz.prog.underlying e = some .string) (hce : Tryz.prog.cellsOf e = 1) (hct : Tryz.prog.cellsOf t = zs.length)
    (h : DataW.trod (fun _ => ()) Tryz.prog w 0 (fun _ => true) false fuel t cs = some (.agg (zs.map fun z => .lit (.string z)), p)) : cs = zs.map fun z => Value.string ⟨z.toArray⟩ := by
  obtain ⟨xs, m, _, hx, hlen, hxl, hel⟩ := DataW.trod_array ht h
  rw [hct] at hlen
  apply List.ext_getElem (by simpa using hlen)
  intro i h1 h2
  have hi : i < zs.length := by simpa using h2
  have hk := hel i hi
  rw [hce, Nat.mul_one] at hk
  have hcs : (cs.drop i).take 1 = [cs[i]] := by
    rw [List.drop_eq_getElem_cons h1]
    rfl
  have hxi : xs[i]? = some (xs[i]'(by omega)) := List.getElem?_eq_getElem (by omega)
  rw [hcs, hxi] at hk
  obtain ⟨s, hs, hy, _⟩ := DataW.trod_string he hk
  have e1 : (xs.map (·.1))[i]? = (zs.map fun z => (DataW.lit (.string z) : DataW Unit))[i]? := by
    have := congrArg Prod.fst hx
    simp only [DataW.agg.injEq] at this
    rw [this]
  rw [List.getElem?_map, List.getElem?_map, hxi, List.getElem?_eq_getElem hi] at e1
  simp only [Option.map_some, Option.some.injEq] at e1
  rw [hy] at e1
  simp only [DataW.lit.injEq, Lit.string.injEq] at e1
  rw [(List.cons.inj hs).1, List.getElem_map, ← e1]
theorem sgV_is : (B.sgV.toList) = (B.SIGNS.map B.u8).map fun z => Value.string ⟨z.toArray⟩ := by kernel_rfl
set_option maxRecDepth 100000 in
theorem pair_of {w : World} {fuel : Nat} {a b : Value} {s : List UInt8} {k : Int} {p : List MemPlace}
    (h : DataW.trod (fun _ => ()) Tryz.prog w 0 (fun _ => true) false fuel 181 [a, b] = some (.agg [.lit (.string s), .lit (.int .i64 k)], p)) : a = .string ⟨s.toArray⟩ ∧ b = .int .i64 k := by
  obtain ⟨ys, n, _, hx, _, hyl, hf⟩ := DataW.trod_struct Tryz.underlying181 h
  have hy2 : ys.length = 2 := hyl
  match ys, hy2 with
  | [y0, y1], _ =>
    have g0 : DataW.trod (fun _ => ()) Tryz.prog w 0 (fun _ => true) false n 9 [a] = some y0 := hf 0 _ rfl
    have g1 : DataW.trod (fun _ => ()) Tryz.prog w 0 (fun _ => true) false n 3 [b] = some y1 := hf 1 _ rfl
    obtain ⟨s', e0, f0, _⟩ := DataW.trod_string Tryz.underlying9 g0
    obtain ⟨k', e1, f1, _⟩ := DataW.trod_int Tryz.underlying3 g1
    subst f0 f1
    have hx := congrArg Prod.fst hx
    simp only [List.map_cons, List.map_nil, DataW.agg.injEq, List.cons.injEq, DataW.lit.injEq, Lit.string.injEq, Lit.int.injEq, and_true, true_and] at hx
    injection e0 with e0
    injection e1 with e1
    exact ⟨by rw [e0, hx.1], by rw [e1, hx.2]⟩
set_option maxRecDepth 100000 in
theorem plains_of {w : World} {fuel : Nat} {cs : Array Value} {p : List MemPlace}
    (h : DataW.trod (fun _ => ()) Tryz.prog w 0 (fun _ => true) false fuel 182 cs.toList = some (Rows.laid_marquetry_ptype_plain, p)) : cs.toList = plV.toList := by
  obtain ⟨xs, m, _, hx, hlen, hxl, hel⟩ := DataW.trod_array Tryz.underlying182 h
  have h6 : Tryz.prog.cellsOf 182 = 6 := by kernel_rfl
  have h2 : Tryz.prog.cellsOf 181 = 2 := by kernel_rfl
  rw [h6] at hlen
  rw [h2] at hel
  have e0 := hel 0 (by omega)
  have e1 := hel 1 (by omega)
  have e2 := hel 2 (by omega)
  have hx := congrArg Prod.fst hx
  generalize cs.toList = l at *
  match l, hlen, xs, hxl with
  | [a, b, c, d, e, f], _, [x0, x1, x2], _ =>
    have hx : Rows.laid_marquetry_ptype_plain = DataW.agg [x0.1, x1.1, x2.1] := hx
    unfold Rows.laid_marquetry_ptype_plain at hx
    simp only [DataW.agg.injEq, List.cons.injEq, and_true] at hx
    obtain ⟨q0, q1, q2⟩ := hx
    obtain ⟨y0, p0⟩ := x0
    obtain ⟨y1, p1⟩ := x1
    obtain ⟨y2, p2⟩ := x2
    simp only at q0 q1 q2
    subst q0 q1 q2
    obtain ⟨r0, r1⟩ := pair_of e0
    obtain ⟨r2, r3⟩ := pair_of e1
    obtain ⟨r4, r5⟩ := pair_of e2
    rw [r0, r1, r2, r3, r4, r5]
    rfl
set_option maxRecDepth 100000 in
theorem vx_of {W : World} {l : List (String × DataW Unit)} (h : laidMetH Tryz.prog l W) (hl : l = laidL) (hsh : W.ShapedOpen Tryz.prog) : Vx W := by
  subst hl
  have h : laidMet Tryz.prog laidL W := h
  have rd : ∀ n d, (n, d) ∈ laidL → VarReads Tryz.prog W n d := fun n d hm => Lib.laidMet.reads h hm
  have h1 := rd "unicode/utf8.first" Rows.laid_unicode_utf8_first (by simp [laidL, Rows.ptypeParsesRow])
  have h2 := rd "unicode/utf8.acceptRanges" Rows.laid_unicode_utf8_acceptRanges (by simp [laidL, Rows.ptypeParsesRow])
  have h3 := rd "internal/strconv.uint64pow10" Rows.laid_internal_strconv_uint64pow10 (by simp [laidL, Rows.ptypeParsesRow])
  have h4 := rd "strconv.ErrSyntax" Rows.laid_strconv_ErrSyntax (by simp [laidL, Rows.ptypeParsesRow])
  have h5 := rd "strconv.ErrRange" Rows.laid_strconv_ErrRange (by simp [laidL, Rows.ptypeParsesRow])
  have h7 := rd "marquetry/ptype.plain" Rows.laid_marquetry_ptype_plain (by simp [laidL, Rows.ptypeParsesRow])
  have h6 := rd "marquetry/lexer.signs" Rows.laid_marquetry_lexer_signs (by simp [laidL, Rows.ptypeParsesRow])
  rw [first_is] at h1
  rw [accept_is] at h2
  rw [pow_is] at h3
  rw [signs_is] at h6
  refine ⟨⟨utf8Tabs_of_readsT (U8Types.of260 Tryz.lays260) ⟨by kernel_rfl, by kernel_rfl, by kernel_rfl, by kernel_rfl, by kernel_rfl, by kernel_rfl, by kernel_rfl⟩ h1 h2, ?_, Tryz.laysM143.s1_3 W hsh,
    err_of h4 (g := 6) (by kernel_rfl) (by kernel_rfl) Tryz.underlying142, err_of h5 (g := 7) (by kernel_rfl) (by kernel_rfl) Tryz.underlying142, ?_⟩, ?_⟩
  · obtain ⟨cs, fuel, p, k1, _, k3⟩ := reads_cells h3 (g := 8) (t := 274) (by kernel_rfl) (by kernel_rfl)
    unfold TabIs
    rw [k1, ← Lib.cells_of_tab (t := 274) (n := 20) (e := 248) (by kernel_rfl) (by kernel_rfl) (by kernel_rfl) (by kernel_rfl) k3]
  · obtain ⟨cs, fuel, p, _, ⟨e, z, k2⟩, k3⟩ := reads_cells h6 (g := 1) (t := 192) (by kernel_rfl) (by kernel_rfl)
    refine ⟨e, z, ?_⟩
    have hm : (B.SIGNS.map fun x => (DataW.lit (.string (B.u8 x)) : DataW Unit)) = (B.SIGNS.map B.u8).map fun z => .lit (.string z) := by rw [List.map_map]; rfl
    rw [hm] at k3
    have k4 := strs_of (t := 192) (e := 9) (by kernel_rfl) (by kernel_rfl) (by kernel_rfl) (by kernel_rfl) k3
    rw [k2]
    congr 2
    apply Array.ext'
    rw [k4, sgV_is]
  · obtain ⟨cs, fuel, p, _, ⟨e, z, k2⟩, k3⟩ := reads_cells h7 (g := 0) (t := 182) (by kernel_rfl) (by kernel_rfl)
    refine ⟨e, z, ?_⟩
    rw [k2]
    congr 2
    apply Array.ext'
    exact plains_of k3

def litV : DataW Unit → Value
  | .lit (.int k z) => .int k z
  | .lit (.string l) => .string ⟨l.toArray⟩
  | _ => undef
def rowV : DataW Unit → Array Value
  | .agg ds => (ds.map litV).toArray
  | _ => #[]
def txtV : DataW Unit → Value
  | .iface _ (.ptr (.agg [d])) => litV d
  | _ => undef
noncomputable def laidWorld (os : Os) : World :=
  let w0 := World.holding Tryz.prog os ⟨#[], #[], []⟩
  let put (h : Array Obj) (g : Nat) (cs : Array Value) : Array Obj := h.modify g fun
    | .cells _ t frozen => .cells cs t frozen
    | o => o
  let h1 := put w0.heap 4 (Lib.firstTab.map fun z => Value.int .u8 z).toArray
  let h2 := put h1 5 ((List.range 16).flatMap fun i => [Value.int .u8 (Lib.accLo i), Value.int .u8 (Lib.accHi i)]).toArray
  let h3 := put h2 8 (rowV Rows.laid_internal_strconv_uint64pow10)
  let h4 := put h3 9 (rowV Rows.laid_math_bits_deBruijn32tab)
  let h5 := put h4 10 (rowV Rows.laid_math_bits_deBruijn64tab)
  let h6 := put h5 1 (rowV Rows.laid_marquetry_lexer_signs)
  let h6 := put h6 0 plV
  let n := h6.size
  let h7 := put h6 7 #[.iface 266 (.pointer (some ⟨n, 0, none⟩))]
  let h8 := put h7 6 #[.iface 266 (.pointer (some ⟨n + 1, 0, none⟩))]
  let h9 := (h8.push (.cells #[txtV Rows.laid_strconv_ErrRange] 268 (0, 0))).push (.cells #[txtV Rows.laid_strconv_ErrSyntax] 268 (0, 0))
  { w0 with heap := h9 }
end Go.Proofs.YthonaeigacfmbaaGreatDoor
namespace Go.Proofs.YthonaeigacfmbaaGreatDoor
open Go.RowKit

/-! ### how long a type's text is, if it has few nodes -/
def wS : List Tk → Nat
  | [] => 0
  | a :: r => a.s.size + 1 + wS r
theorem wS_app : ∀ (a b : List Tk), wS (a ++ b) = wS a + wS b
  | [], b => by show wS b = 0 + wS b; omega
  | x :: a, b => by show x.s.size + 1 + wS (a ++ b) = x.s.size + 1 + wS a + wS b; rw [wS_app a b]; omega
theorem jT_wS : ∀ (ts : List Tk), (jT ts).length ≤ wS ts
  | [] => Nat.le_refl _
  | [a] => by
    have e : a.s.data.toList.length = a.s.size := Array.length_toList
    show a.s.data.toList.length ≤ a.s.size + 1 + 0
    omega
  | a :: b :: r => by
    have ih := jT_wS (b :: r)
    have e : a.s.data.toList.length = a.s.size := Array.length_toList
    show (a.s.data.toList ++ 32 :: jT (b :: r)).length ≤ a.s.size + 1 + wS (b :: r)
    rw [List.length_append, List.length_cons]
    omega
theorem wS_wi (b : Bool) (ts : List Tk) : wS (wi b ts) ≤ wS ts + 4 := by
  cases b with
  | false => show wS ts ≤ _; omega
  | true =>
    show wS (ky kOpen :: (ts ++ [ky kShut])) ≤ _
    have e : wS (ky kOpen :: (ts ++ [ky kShut])) = 1 + 1 + wS (ts ++ [ky kShut]) := rfl
    rw [e, wS_app]
    show 1 + 1 + (wS ts + (1 + 1 + 0)) ≤ _
    omega
theorem wS_bars : ∀ (f : Fr), (∀ (j : Nat) t, f.get j = some t → wS (tkT t) + 2 ≤ 150 * szT t) → wS (bars (segF f)) ≤ 150 * f.sz
  | .nil, _ => Nat.zero_le _
  | .cons x k .nil, h => by
    have h0 := h 0 (x, k) rfl
    have hz : szT (x, k) = 1 + k.sz := rfl
    show wS (tkT (x, k)) ≤ 150 * (1 + k.sz + 0)
    omega
  | .cons x k (.cons y m q), h => by
    have h0 := h 0 (x, k) rfl
    have hz : szT (x, k) = 1 + k.sz := rfl
    have ih := wS_bars (.cons y m q) fun j t hj => h (j + 1) t hj
    have e : bars (segF (.cons x k (.cons y m q))) = tkT (x, k) ++ ky kBar :: bars (segF (.cons y m q)) := rfl
    rw [e, wS_app]
    show wS (tkT (x, k)) + (1 + 1 + wS (bars (segF (.cons y m q)))) ≤ 150 * (1 + k.sz + (Fr.cons y m q).sz)
    omega
theorem wS_all : ∀ (n : Nat) (t : Tr), szT t ≤ n → isT B.nck B.long t 1 = true → wS (tkT t) ≤ 150 * szT t
  | 0, t, h, _ => absurd h (by unfold szT; omega)
  | n + 1, t, h, ht => by
    have ih := wS_all n
    cases ty_form ht with
    | leaf k hk => rcases hk with rfl | rfl | rfl <;> decide
    | name s hs =>
      have h1 := long128 s hs
      show s.size + 1 + 0 ≤ 150 * (1 + 0)
      omega
    | two k hk a b hA hB =>
      have hz : szT (nd k nob (fr2 a b)) = 1 + (szT a + szT b) := by unfold szT; simp only [nd, fr2, fr1, Fr.sz]; omega
      have iA := ih a (by omega) hA
      have iB := ih b (by omega) hB
      rcases hk with rfl | rfl
      · rw [tk_two5, wS_app]
        have w1 := wS_wi (is5 a.1) (tkT a)
        show _ + (2 + 1 + wS (tkT b)) ≤ _
        omega
      · rw [tk_two6, wS_app]
        have w1 := wS_wi (is56 a.1) (tkT a)
        have w2 := wS_wi (is5 b.1) (tkT b)
        show _ + (1 + 1 + wS (wi (is5 b.1) (tkT b))) ≤ _
        omega
    | mu s hs c hc h0 =>
      have hz : szT (nd 7 s c) = 1 + c.sz := rfl
      have h1 := nck128 s hs
      have hb := wS_bars c fun j t' hj => by
        obtain ⟨s', u, rfl, hs', hu⟩ := con_form (all8_get hc.1 hj)
        have hg := Fr.get_sz hj
        have hz2 : szT (nd 8 s' (fr1 u)) = 1 + szT u := by unfold szT; simp only [nd, fr1, Fr.sz]; omega
        have iu := ih u (by omega) hu
        have h2 := nck128 s' hs'
        rw [tk_con]
        show s'.size + 1 + (2 + 1 + wS (tkT u)) + 2 ≤ _
        omega
      rw [tk_mu]
      show 2 + 1 + (s.size + 1 + (1 + 1 + wS (bars (segF c) ++ [ky kRight]))) ≤ _
      rw [wS_app]
      show 2 + 1 + (s.size + 1 + (1 + 1 + (wS (bars (segF c)) + (1 + 1 + 0)))) ≤ _
      omega
/-! ### each token of a type is one of the lexer's -/
structure TkOk (k : Tk) : Prop where
  ex : ∃ t : B.Tok, t.k = k.k ∧ B.T t.x = k.s ∧ B.Made t ∧ B.okl t.x ∧ ∀ r ∈ t.x, B.rdb (r : Int) = true
theorem ok_key (x : List Nat) (hx : x ∈ B.TKEYS) : TkOk (ky (B.T x)) := ⟨⟨⟨3, x, 0⟩, rfl, rfl, ⟨x, _, B.keys_tok x hx⟩, B.ok_ascii (by revert x; decide), fun r hr => by
  have h : ∀ x ∈ B.TKEYS, ∀ r ∈ x, 33 ≤ r ∧ r ≤ 126 := by decide
  exact B.rdb_plain (h x hx r hr)⟩⟩
theorem ok_long {s : ByteArray} (h : B.long s = true) : TkOk (nmT s) := by
  obtain ⟨x, h1, h2, h3, h4⟩ := B.long_tok h
  exact ⟨⟨⟨1, x, 0⟩, rfl, h1, ⟨x, _, h3⟩, h2, h4⟩⟩
theorem nck_long {s : ByteArray} (h : B.nck s = true) : B.long s = true := by
  have h1 := B.long_jb (l := [s]) (by simp) (by simp [h])
  rw [B.jb_one] at h1
  rw [h1]
  exact decide_eq_true (nck128 s h)
theorem okI : TkOk (ky kInt) := ok_key [105, 110, 116] (by decide)
theorem okBo : TkOk (ky kBool) := ok_key [98, 111, 111, 108] (by decide)
theorem okU : TkOk (ky kUnit) := ok_key [117, 110, 105, 116] (by decide)
theorem okOp : TkOk (ky kOpen) := ok_key [40] (by decide)
theorem okSh : TkOk (ky kShut) := ok_key [41] (by decide)
theorem okMu : TkOk (ky kMu) := ok_key [109, 117] (by decide)
theorem okLe : TkOk (ky kLeft) := ok_key [123] (by decide)
theorem okRi : TkOk (ky kRight) := ok_key [125] (by decide)
theorem okOf : TkOk (ky kOf) := ok_key [111, 102] (by decide)
theorem okBa : TkOk (ky kBar) := ok_key [124] (by decide)
theorem okAr : TkOk (ky kArrow) := ok_key [45, 62] (by decide)
theorem okSt : TkOk (ky kStar) := ok_key [42] (by decide)
theorem ok_wi {b : Bool} {ts : List Tk} (h : ∀ x ∈ ts, TkOk x) : ∀ x ∈ wi b ts, TkOk x := fun x hx => by
  rcases wi_mem hx with h1 | rfl | rfl
  · exact h x h1
  · exact okOp
  · exact okSh
theorem ok_bars : ∀ (f : Fr), (∀ (j : Nat) t, f.get j = some t → ∀ x ∈ tkT t, TkOk x) → ∀ x ∈ bars (segF f), TkOk x
  | .nil, _, x, hx => by cases hx
  | .cons y k .nil, h, x, hx => h 0 (y, k) rfl x hx
  | .cons y k (.cons z m q), h, x, hx => by
    have e : bars (segF (.cons y k (.cons z m q))) = tkT (y, k) ++ ky kBar :: bars (segF (.cons z m q)) := rfl
    rw [e] at hx
    rcases List.mem_append.1 hx with hx | hx
    · exact h 0 (y, k) rfl x hx
    · rcases List.mem_cons.1 hx with rfl | hx
      · exact okBa
      · exact ok_bars (.cons z m q) (fun j t hj => h (j + 1) t hj) x hx
theorem ok_all : ∀ (n : Nat) (t : Tr), szT t ≤ n → isT B.nck B.long t 1 = true → ∀ x ∈ tkT t, TkOk x
  | 0, t, h, _ => absurd h (by unfold szT; omega)
  | n + 1, t, h, ht => by
    have ih := ok_all n
    cases ty_form ht with
    | leaf k hk =>
      rcases hk with rfl | rfl | rfl <;> intro x hx
      · rw [List.mem_singleton.1 (show x ∈ [ky kInt] from hx)]; exact okI
      · rw [List.mem_singleton.1 (show x ∈ [ky kBool] from hx)]; exact okBo
      · rw [List.mem_singleton.1 (show x ∈ [ky kUnit] from hx)]; exact okU
    | name s hs =>
      intro x hx
      rw [List.mem_singleton.1 (show x ∈ [nmT s] from hx)]
      exact ok_long hs
    | two k hk a b hA hB =>
      have hz : szT (nd k nob (fr2 a b)) = 1 + (szT a + szT b) := by unfold szT; simp only [nd, fr2, fr1, Fr.sz]; omega
      have iA := ih a (by omega) hA
      have iB := ih b (by omega) hB
      rcases hk with rfl | rfl
      · rw [tk_two5]
        intro x hx
        rcases List.mem_append.1 hx with hx | hx
        · exact ok_wi iA x hx
        · rcases List.mem_cons.1 hx with rfl | hx
          · exact okAr
          · exact iB x hx
      · rw [tk_two6]
        intro x hx
        rcases List.mem_append.1 hx with hx | hx
        · exact ok_wi iA x hx
        · rcases List.mem_cons.1 hx with rfl | hx
          · exact okSt
          · exact ok_wi iB x hx
    | mu s hs c hc h0 =>
      have hz : szT (nd 7 s c) = 1 + c.sz := rfl
      have hb := ok_bars c fun j t' hj => by
        obtain ⟨s', u, rfl, hs', hu⟩ := con_form (all8_get hc.1 hj)
        have hg := Fr.get_sz hj
        have hz2 : szT (nd 8 s' (fr1 u)) = 1 + szT u := by unfold szT; simp only [nd, fr1, Fr.sz]; omega
        have iu := ih u (by omega) hu
        rw [tk_con]
        intro x hx
        rcases List.mem_cons.1 hx with rfl | hx
        · exact ok_long (nck_long hs')
        · rcases List.mem_cons.1 hx with rfl | hx
          · exact okOf
          · exact iu x hx
      rw [tk_mu]
      intro x hx
      rcases List.mem_cons.1 hx with rfl | hx
      · exact okMu
      · rcases List.mem_cons.1 hx with rfl | hx
        · exact ok_long (nck_long hs)
        · rcases List.mem_cons.1 hx with rfl | hx
          · exact okLe
          · rcases List.mem_append.1 hx with hx | hx
            · exact hb x hx
            · rw [List.mem_singleton.1 hx]; exact okRi
/-! ### read, they are the tokens -/
theorem toks_ex : ∀ (ts : List Tk), (∀ x ∈ ts, TkOk x) → ∃ us : List B.Tok, us.map (fun u => (⟨u.k, B.T u.x⟩ : Tk)) = ts ∧ (∀ u ∈ us, B.Made u) ∧ (∀ u ∈ us, B.okl u.x ∧ ∀ r ∈ u.x, B.rdb (r : Int) = true)
  | [], _ => ⟨[], rfl, (fun u h => by cases h), (fun u h => by cases h)⟩
  | k :: ts, h => by
    obtain ⟨us, h1, h2, h3⟩ := toks_ex ts fun x hx => h x (List.mem_cons_of_mem _ hx)
    obtain ⟨u, e1, e2, e3, e4, e5⟩ := (h k (List.mem_cons_self ..)).ex
    refine ⟨u :: us, ?_, ?_, ?_⟩
    · rw [List.map_cons, h1, e1, e2]
    · intro x hx
      rcases List.mem_cons.1 hx with rfl | hx
      · exact e3
      · exact h2 x hx
    · intro x hx
      rcases List.mem_cons.1 hx with rfl | hx
      · exact ⟨e4, e5⟩
      · exact h3 x hx
theorem lex_text {ts : List Tk} (h : ∀ x ∈ ts, TkOk x) (hz : wS ts ≤ 16384) : ∃ r, B.lexR (tB ts) = (r, 0, 0) ∧ r.map tkq = ts := by
  obtain ⟨us, h1, h2, h3⟩ := toks_ex ts h
  obtain ⟨r, h4, h5⟩ := B.lex_jn us 0 h2
  have hT : tB ts = B.T (B.jnL (us.map (·.x))) := by
    unfold tB B.T
    rw [B.jn_enc, ← join_txt, ← h1]
    have e : (txt (us.map fun u => (⟨u.k, B.T u.x⟩ : Tk))).map (fun x => x.data.toList) = (us.map (·.x)).map B.enc := by
      simp [txt, B.T_list]
    rw [e]
  have hok : ∀ r ∈ B.jnL (us.map (·.x)), B.ok r ∧ B.rdb (r : Int) = true := by
    intro r hr
    rcases B.jn_mem _ r hr with rfl | ⟨x, hx, hrx⟩
    · exact ⟨B.ok_ascii (l := [32]) (by decide) 32 (by simp), by decide⟩
    · obtain ⟨u, hu, rfl⟩ := List.mem_map.1 hx
      exact ⟨(h3 u hu).1 r hrx, (h3 u hu).2 r hrx⟩
  have hs : B.sz (B.jnL (us.map (·.x))) ≤ 16384 := by
    rw [← B.T_size, ← hT]
    have e : (tB ts).size = (jT ts).length := by show (jT ts).toArray.size = _; simp
    rw [e]
    exact Nat.le_trans (jT_wS ts) hz
  refine ⟨r, ?_, ?_⟩
  · rw [hT, B.lexR_T (fun r hr => (hok r hr).1) (fun r hr => (hok r hr).2) hs, h4]
  · have e : r.map tkq = (r.map (·.1)).map fun u => (⟨u.k, B.T u.x⟩ : Tk) := by rw [List.map_map]; rfl
    rw [e, h5, h1]
end Go.Proofs.YthonaeigacfmbaaGreatDoor
namespace Go.Proofs.YthonaeigacfmbaaGreatDoor
open Go.RowKit

theorem nob_l : nob.toList = [] := by rw [Lib.toList_data]; rfl
set_option maxHeartbeats 12800000 in
set_option maxRecDepth 100000 in
theorem lawBack6 (cs : List Cel) (w : World) (cv : Value) (hx : Vx w) (hcl : Cls w w.heap.size cv cs) (hfit : ∀ c ∈ cs, fitC c) :
    Calls Tryz.prog 6 #[.agg #[cv]] w (BoP true w) := by
  obtain ⟨H, hH⟩ : ∃ H, w.heap.size = H := ⟨_, rfl⟩
  obtain ⟨CA, cc, hcv, -, -⟩ := id hcl
  have u0 : Up w (w.alloc (.cells #[cv] 46)) := (Up.refl w).alloc _
  obtain ⟨W0, hW0⟩ : ∃ W0, w.alloc (.cells #[cv] 46) = W0 := ⟨_, rfl⟩
  have hx0 : W0.heap[H]? = some (.cells #[cv] 46 (0, 0)) := by rw [← hW0, ← hH]; exact heap_alloc_new w _
  rw [hW0] at u0
  have hcl0 := hcl.upp u0
  have kc : W0.cell? ⟨H, 0, none⟩ = some cv := cell_of_row _ H 0 _ _ _ hx0
  obtain ⟨o, z, ho, hs, hk, h2⟩ := op_few cs
  have H2 := Lib.hid h2
  have HW0 := Lib.hid hW0
  have U0 := Lib.hid u0
  have HCL := Lib.hid hcl0
  have HF := Lib.hid hfit
  have HO := Lib.hid ho
  have HS := Lib.hid hs
  have HK := Lib.hid hk
  have HX := Lib.hid hx
  have hnob := nob_l
  clear hcl u0 hW0 hcl0 hfit ho hs hk hx0 hx h2
  subst hcv
  go_enter Tryz.func6, Tryz.ntmps6
  go_wp2_with fail
  rw [HW0.out]
  refine (uCells cs HCL.out HF.out (Up.refl _)).mono ?_
  rintro e w1 ⟨v1, rfl, h1, u1⟩
  have H1 := Lib.hid h1
  have U1 := Lib.hid (U0.out.trans u1)
  clear h1 u1 kc
  go_wp2_with fail
  refine (uOpen (fewL cs) H1.out (few_kids cs) (few_le cs) (Up.refl _)).mono ?_
  rw [HO.out]
  rintro e w2 ⟨n, rfl, h2, u2⟩
  have HN := Lib.hid h2
  have U2 := Lib.hid (U1.out.trans u2)
  clear h2 u2
  go_wp2_with fail
  refine (pWrite o (by have := HS.out; omega) HK.out w2 w2 n (HX.out.up U2.out).nx (HX.out.up U2.out).pl HN.out (Up.refl _)).mono ?_
  unfold WtP
  rcases H2.out with ⟨t, rfl, rfl⟩ | ⟨rfl, hz⟩
  · by_cases hc : chk B.nck B.long (some t) 1 = 0
    · obtain ⟨t', ht', h1, h2, h3⟩ := chk_0 hc
      have ht' := Option.some.inj ht'
      subst ht'
      rw [hc, if_pos rfl]
      have hw : wrT (some t) = tB (tkT t) := rfl
      rw [hw]
      have hs80 : szT t ≤ 80 := HS.out
      have hok := ok_all _ t (Nat.le_refl _) h3
      have hws := wS_all _ t (Nat.le_refl _) h3
      obtain ⟨r, hr, hrm⟩ := lex_text hok (by omega)
      have hbk := typ_back (nk := B.nck) (lg := B.long) h3
      have hft := few_all nck128 long128 _ t (Nat.le_refl _) h3
      have hzz : (tB (tkT t)).size ≤ 1000000000 := by have := text_le nck128 long128 h3; omega
      have htz : typZ B.nck B.long (tkT t) 0 = .inl (t, (tkT t).length) := by
        unfold typZ
        rw [if_neg (by omega)]
        exact hbk
      obtain ⟨X, hX⟩ : ∃ X, tB (tkT t) = X := ⟨_, rfl⟩
      rw [hX] at hr hzz ⊢
      have HR := Lib.hid hr
      have HRM := Lib.hid hrm
      have HTZ := Lib.hid htz
      have HFT := Lib.hid hft
      clear hc h1 h2 h3 hw hok hws hr hrm hbk hft htz hX
      rintro e w3 ⟨rfl, u3⟩
      have cL := B.lex_any X hzz w3 (HX.out.up (U2.out.trans u3)).lx
      rw [HR.out] at cL
      have U3 := Lib.hid (U2.out.trans u3)
      have HN3 := Lib.hid (HN.out.up u3)
      clear u3
      go_wp2_with fail
      refine Calls.mono cL ?_
      rintro e w4 ⟨v, rfl, ht, hb4⟩
      have hv4 : Up w3 w4 := hb4
      have ht := tkm_of ht
      rw [HRM.out] at ht
      have cT := pType (tkT t) 0 (by have := HFT.out.1; omega) (fun x hx => by have := HFT.out.2 x hx; omega) w4 v ht (HX.out.up (U3.out.trans hv4)).nx (HX.out.up (U3.out.trans hv4)).pl
      rw [HTZ.out] at cT
      obtain ⟨A, c, rfl, -⟩ := ht
      obtain ⟨len, hlen⟩ : ∃ len, (tkT t).length = len := ⟨_, rfl⟩
      rw [hlen] at cT ⊢
      have U4 := Lib.hid (U3.out.trans hv4)
      have HN4 := Lib.hid (HN3.out.up hv4)
      clear hb4 hv4 hlen cL
      go_wp2_with fail
      refine cT.mono ?_
      rintro e w5 ⟨v5, j5, e5, rfl, ⟨n5, rfl, rfl⟩, u5⟩
      have cS := uSame (some t) (some t) (HN4.out.up u5) n5.has (by show szT t ≤ 65536; omega) true (by simp) (Up.refl _)
      have U5 := Lib.hid (U4.out.trans u5)
      clear n5 u5 cT
      go_wp2_with fail
      refine cS.mono ?_
      rintro e w6 ⟨rfl, u6⟩
      have cW := works6 HX.out (U5.out.trans u6)
      clear u6 cS
      go_wp2_with fail
      refine cW.mono ?_
      rintro e w7 ⟨rfl, u7⟩
      go_wp2_with fail
      go_ret
      exact bop_ret rfl u7
    · rw [if_neg hc]
      have hc9 : (chk B.nck B.long (some t) 1 != 0) = true := by rw [bne_iff_ne]; exact hc
      obtain ⟨Z, hZ⟩ : ∃ Z, chk B.nck B.long (some t) 1 = Z := ⟨_, rfl⟩
      rw [hZ] at hc9 ⊢
      clear hZ hc
      rintro e w3 ⟨rfl, u3⟩
      have cW := works6 HX.out (U2.out.trans u3)
      clear u3
      go_wp2_with fail
      refine cW.mono ?_
      rintro e w4 ⟨rfl, u4⟩
      go_wp2_with fail
      go_ret
      exact bop_ret rfl u4
  · have hz1 : (z != 0) = true := by rw [bne_iff_ne]; exact hz
    have h1 : chk B.nck B.long none 1 = 1 := rfl
    rw [h1, if_neg (by decide)]
    clear hz
    rintro e w3 ⟨rfl, u3⟩
    have cW := works6 HX.out (U2.out.trans u3)
    clear u3
    go_wp2_with fail
    refine cW.mono ?_
    rintro e w4 ⟨rfl, u4⟩
    go_wp2_with fail
    go_ret
    exact bop_ret rfl u4
end Go.Proofs.YthonaeigacfmbaaGreatDoor
