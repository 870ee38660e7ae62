/-
  Layer 10, the program's side: Show; all that is asked of ctor.
-/
import Derived.Test.YtdofcjnkpgbjaaaDoorGt31
import Derived.Deep.DeepHandedRow
import Derived.Deep.DeepWitnessRowRef
import Derived.LaidLaws
import Derived.Lib.LaidIn
import Derived.Lib.LaidU8T
import Derived.MakeChecks
import Derived.OpenShut
import Derived.ProofKit
import Derived.SizedLaws
namespace Go.Proofs.YtdofcjnkpgbjaaaDoor
open Go.RowKit

theorem swR_of {o : Option Tr} (h : ckE o = 0 ∨ kkE o = 0) : ∃ t, o = some t ∧ szT t ≤ 65536 ∧ (coT t = true ∨ kdT t = true) ∧ swR o = txT t := by
  rcases h with h | h
  · obtain ⟨t, rfl, h1, h2⟩ := ckE_ok h
    exact ⟨t, rfl, h1, .inl h2, if_pos (.inl h)⟩
  · obtain ⟨t, rfl, h1, h2⟩ := kkE_ok h
    exact ⟨t, rfl, h1, .inr h2, if_pos (.inr h)⟩
theorem tno_of {t : Tr} (h : coT t = true ∨ kdT t = true) : tno t := by
  have : (Fr.cons t.1 t.2 .nil).nmo := by
    rcases h with h | h
    · exact co_nmo (m := 0) (by rw [coF_0]; exact (Bool.and_true _).trans h)
    · exact kd_nmo (by rw [kdF_cons]; exact (Bool.and_true _).trans h)
  exact ⟨this.2.1, this.2.2.1⟩
theorem bytes_eq {s : ByteArray} {l : List UInt8} (h : l = s.data.toList) : (⟨l.toArray⟩ : ByteArray) = s := by
  subst h
  cases s
  simp
theorem wr_join {bw : Nat} {X : Nat → Obj → Prop} {w : World} {T : List ByteArray} {Y : ByteArray} (h : Wr bw X w T) (hne : T ≠ []) (hj : jL T = Y.data.toList) (hT : T.length ≤ 1000000) (hY : Y.size ≤ 1000000000) :
    ∃ A n c, w.cell? ⟨bw, 0, none⟩ = some (.slice A n c) ∧ Calls Tryd.prog 35 #[.slice A n c, .string ⟨#[32]⟩] w (StP Y w) := by
  obtain ⟨v, h1, h2, _⟩ := h
  have hlt := h2.lt
  obtain ⟨g, cp, rfl, hle⟩ : ∃ g cp, v = .slice (some ⟨g, 0, none⟩) T.length cp ∧ T.length ≤ cp := by
    rcases h2.2 with ⟨_, h0⟩ | ⟨g, cap, cur, hv, _, _, hcap, _⟩
    · exact absurd (List.length_eq_zero_iff.1 h0) hne
    · exact ⟨g, cap, hv, hcap⟩
  have hcs : ∀ (j : Nat) x, T[j]? = some x → w.cell? ⟨g, 0 + j, none⟩ = some (.string x) := fun j x h => by
    have h9 := h2.cells (g := g) rfl j (.string x) (by rw [List.getElem?_map, h]; rfl)
    have e1 : (⟨g, 0, none⟩ : Addr).add j = ⟨g, 0 + j, none⟩ := by unfold Addr.add; split <;> simp_all
    rwa [e1] at h9
  have hj' : Lib.join (T.map (·.data.toList)) (ByteArray.mk #[32]).data.toList = Y.data.toList := hj
  refine ⟨_, _, cp, cell_of_row w bw 0 _ _ _ h1, ?_⟩
  have cJ := Tryd.strings_Join g 0 cp T ⟨#[32]⟩ w hcs (hlt g rfl).2 (by omega) hle (by rw [hj', ← Lib.size_eq]; omega)
  rw [hj', bytes_eq rfl] at cJ
  exact cJ
set_option maxHeartbeats 6400000 in
set_option maxRecDepth 100000 in
theorem pShow (o : Option Tr) (w : World) (v : Value) (h : HasT w v o) (hz : szO o ≤ 65536) (hpw : Pw w) : Calls Tryd.prog 14 #[v] w (StP (swR o) w) := by
  have cC := pCheck o w v h hz
  have cK := fun W (u : Up w W) => pKind o W v (h.up u) hz
  by_cases h0 : ckE o = 0 ∨ kkE o = 0
  · obtain ⟨t, rfl, hz1, hco, hs⟩ := swR_of h0
    rw [hs]
    obtain ⟨hj, hne⟩ := tkT_text hco
    have htn := tno_of hco
    have hlen := tkT_len t
    have htz : (txT t).size ≤ 210 * szT t := txT_sz htn.1 htn.2
    have cW := fun (W : World) (u : Up w W) => pWrite (W := W) (bw := W.heap.size) (S0 := fun q => q < w.heap.size) (Nat.le_refl _) (fun q hq => Nat.lt_of_lt_of_le hq u.size) (hpw.up u) (szT t) t (Nat.le_refl _) htn (fun _ _ => False) (W.alloc (.cells #[.slice none 0 0] 57)) [] v ((Up.refl W).alloc _)
      ⟨.slice none 0 0, heap_alloc_new W _, World.ownsRow_nil _ _ _ _, fun _ _ h => h.elim⟩ (by show 0 + 5 * szT t ≤ 1000000; omega) (InT.keep (t := t) h (fun _ h => h) fun b hb => u.block b hb)
    obtain ⟨T, hT⟩ : ∃ T, tkT t = T := ⟨_, rfl⟩
    obtain ⟨Y, hY⟩ : ∃ T, txT t = T := ⟨_, rfl⟩
    rw [hT] at cW hj hne hlen
    rw [hY] at hj htz ⊢
    rw [show ([] : List ByteArray) ++ T = T from rfl] at cW
    have hTl : T.length ≤ 1000000 := by omega
    have hYz : Y.size ≤ 1000000000 := by omega
    have CW := Lib.hid cW
    have HJ := Lib.hid hj
    have HNE := Lib.hid hne
    obtain ⟨E, hE⟩ : ∃ E, ckE (some t) = E := ⟨_, rfl⟩
    obtain ⟨D, hD⟩ : ∃ E, kkE (some t) = E := ⟨_, rfl⟩
    rw [hE] at cC h0
    rw [hD] at cK h0
    have CK := Lib.hid cK
    clear hE hD hT hY htn hco hs hz1 hz h hlen htz cW cK hj hne hpw
    by_cases h1 : E = 0
    · subst h1
      go_enter Tryd.func14, Tryd.ntmps14
      go_wp2_with fail
      refine cC.mono ?_
      rintro e w1 ⟨rfl, u1⟩
      have CWW := CW.out w1 u1
      have UU := Lib.hid (u1 : Up w w1)
      go_wp2_with fail
      refine CWW.mono ?_
      rintro e w5 ⟨⟨v5, rfl⟩, u5, hw5⟩
      obtain ⟨A, m, c, k5, cJ⟩ := wr_join hw5 HNE.out HJ.out hTl hYz
      have U5 := Lib.hid u5
      clear u5 hw5
      go_wp2_with fail
      refine cJ.mono ?_
      rintro e w6 ⟨rfl, u6⟩
      go_wp2_with fail
      go_ret
      exact ⟨rfl, (UU.out.trans U5.out).trans u6⟩
    · have h2 : (E != 0) = true := by rw [bne_iff_ne]; exact h1
      have h3 : D = 0 := by rcases h0 with h | h; exact absurd h h1; exact h
      subst h3
      clear h0 h1
      go_enter Tryd.func14, Tryd.ntmps14
      go_wp2_with fail
      refine cC.mono ?_
      rintro e w1 ⟨rfl, u1⟩
      have CKK := CK.out w1 u1
      go_wp2_with fail
      refine CKK.mono ?_
      rintro e w2 ⟨rfl, u2⟩
      have CWW := CW.out w2 (u1.trans u2)
      have UU := Lib.hid ((u1.trans u2) : Up w w2)
      go_wp2_with fail
      refine CWW.mono ?_
      rintro e w5 ⟨⟨v5, rfl⟩, u5, hw5⟩
      obtain ⟨A, m, c, k5, cJ⟩ := wr_join hw5 HNE.out HJ.out hTl hYz
      have U5 := Lib.hid u5
      clear u5 hw5
      go_wp2_with fail
      refine cJ.mono ?_
      rintro e w6 ⟨rfl, u6⟩
      go_wp2_with fail
      go_ret
      exact ⟨rfl, (UU.out.trans U5.out).trans u6⟩
  · have e : swR o = ⟨#[]⟩ := by
      cases o with
      | none => rfl
      | some t => exact if_neg h0
    rw [e]
    obtain ⟨E, hE⟩ : ∃ E, ckE o = E := ⟨_, rfl⟩
    obtain ⟨D, hD⟩ : ∃ E, kkE o = E := ⟨_, rfl⟩
    rw [hE] at cC h0
    rw [hD] at cK h0
    have h2 : (E != 0) = true := by rw [bne_iff_ne]; exact fun e => h0 (.inl e)
    have h3 : (D != 0) = true := by rw [bne_iff_ne]; exact fun e => h0 (.inr e)
    have CK := Lib.hid cK
    clear hE hD h0 hz h e cK hpw
    go_enter Tryd.func14, Tryd.ntmps14
    go_wp2_with fail
    refine cC.mono ?_
    rintro e w1 ⟨rfl, u1⟩
    go_wp2_with fail
    refine (CK.out w1 u1).mono ?_
    rintro e w2 ⟨rfl, u2⟩
    go_wp2_with fail
    go_ret
    exact ⟨rfl, u1.trans u2⟩
theorem ct_all : CtAll := {
  check := fun w o v h hz => pCheck o w v h hz
  kind := fun w o v h hz => pKind o w v h hz
  text := fun w o v h hz hp => pShow o w v h hz hp
  free := fun w o v h hz => pFree o w v h hz
  occurs := fun w o v i h hz => pOccurs o w v i h hz
  shift := fun w o v b c h hz => pShift o w v b c h hz
  subst := fun w o p v u i h hz h' hz' => pSubst o p w v u i h hz h' hz' }
end Go.Proofs.YtdofcjnkpgbjaaaDoor
namespace Go.Proofs.YtdofcjnkpgbjaaaDoor
open Go.ChangeShapes Go.WideShapes Go.ChangeAt Go.RowKit Go.Lib

theorem ownKnobNone : ownKnob Tryd.prog.godebug = none := by kernel_rfl
def laidL : List (String × DataW Unit) := [("math/bits.deBruijn32tab", Rows.laid_math_bits_deBruijn32tab), ("math/bits.deBruijn64tab", Rows.laid_math_bits_deBruijn64tab), ("internal/strconv.uint64pow10", Rows.laid_internal_strconv_uint64pow10)]
theorem pow_is : (Rows.laid_internal_strconv_uint64pow10 : DataW Unit) = Lib.tabData .u64 Lib.pow10Tab := by kernel_rfl
theorem reads_cells {w : World} {n : String} {d : DataW Unit} (h : VarReads Tryd.prog w n d) {g : Nat} {t : TypeId} (hg : Tryd.prog.globalNamed n = some g) (ht : (Tryd.prog.globals[g]?).map (·.type) = some t) :
    ∃ cs fuel p, w.var? Tryd.prog n = some cs ∧ (∃ e z, w.heap[g]? = some (.cells cs e z)) ∧ DataW.trod (fun _ => ()) Tryd.prog w 0 (fun _ => true) false fuel t cs.toList = some (d, p) := by
  obtain ⟨g', t', cs, fuel, p, h1, h2, h3, h4⟩ := h
  obtain rfl := Option.some.inj (hg.symm.trans h1)
  obtain rfl := Option.some.inj (ht.symm.trans h2)
  refine ⟨cs, fuel, p, h3, ?_, h4⟩
  unfold World.var? at h3
  rw [hg] at h3
  simp only [Option.bind_some] at h3
  split at h3
  · rename_i cs' e z he
    injection h3 with h3
    subst h3
    exact ⟨e, z, he⟩
  · cases h3
theorem pw_of {W : World} {l : List (String × DataW Unit)} (h : laidMetH Tryd.prog l W) (hl : l = laidL) : Pw W := by
  subst hl
  have h : laidMet Tryd.prog laidL W := h
  have h3 := Lib.laidMet.reads h (show ("internal/strconv.uint64pow10", Rows.laid_internal_strconv_uint64pow10) ∈ laidL by simp [laidL])
  rw [pow_is] at h3
  obtain ⟨cs, fuel, p, k1, _, k3⟩ := reads_cells h3 (g := 1) (t := 134) (by kernel_rfl) (by kernel_rfl)
  unfold Pw TabIs
  rw [k1, ← Lib.cells_of_tab (t := 134) (n := 20) (e := 127) (by kernel_rfl) (by kernel_rfl) (by kernel_rfl) (by kernel_rfl) k3]
def litV : DataW Unit → Value
  | .lit (.int k z) => .int k z
  | .lit (.string l) => .string ⟨l.toArray⟩
  | _ => undef
def rowV : DataW Unit → Array Value
  | .agg ds => (ds.map litV).toArray
  | _ => #[]
noncomputable def laidWorld (os : Os) : World :=
  let w0 := World.holding Tryd.prog os ⟨#[], #[], []⟩
  let put (h : Array Obj) (g : Nat) (cs : Array Value) : Array Obj := h.modify g fun
    | .cells _ t frozen => .cells cs t frozen
    | o => o
  let h3 := put w0.heap 1 (rowV Rows.laid_internal_strconv_uint64pow10)
  let h4 := put h3 2 (rowV Rows.laid_math_bits_deBruijn32tab)
  let h5 := put h4 3 (rowV Rows.laid_math_bits_deBruijn64tab)
  { w0 with heap := h5 }
end Go.Proofs.YtdofcjnkpgbjaaaDoor
namespace Go.Proofs.YtdofcjnkpgbjaaaDoor
open Go.RowKit

theorem shR_sz (b c : Int) (o : Option Tr) : szO (shR b c o).1 ≤ szO o := by
  unfold shR
  split
  · split
    · exact Nat.zero_le _
    · cases o with
      | none => exact Nat.le_refl _
      | some t =>
        show szO (errO 2 (mvT b c 0 t)).1 ≤ _
        cases hm : mvT b c 0 t with
        | none => exact Nat.zero_le _
        | some t' => exact Nat.le_of_eq (mvT_sz hm).1
  · exact Nat.zero_le _
theorem Fr.pt_sz {i : Int} {u : Tr} {f : Fr} : ∀ {d : Nat} {g : Fr}, f.vok → Fr.pt i u d f = some g → g.sz + Fr.ct i d f = f.sz + Fr.ct i d f * szT u := by
  induction f with
  | nil => intro d g _ h; injection h with h; rw [← h]; show 0 + 0 = 0 + 0 * _; omega
  | cons x k r ihk ihr =>
    intro d g hv h
    obtain ⟨t, r', h1, h2, rfl⟩ := Fr.pt_inv h
    have e2 := ihr hv.2.2 h2
    rw [Fr.ct_c]
    unfold ptT at h1
    by_cases ha : atV i d x
    · rw [if_pos ha] at h1
      have hz := (mvT_sz h1).1
      obtain ⟨_, _, _, hk⟩ := hv.1.2 ha.1
      subst hk
      have ec : ctT i d (x, .nil) = 1 := by unfold ctT; rw [if_pos ha]; rfl
      rw [ec]
      show 1 + t.2.sz + r'.sz + (1 + Fr.ct i d r) = 1 + 0 + r.sz + (1 + Fr.ct i d r) * szT u
      have hz : 1 + t.2.sz = szT u := hz
      rw [Nat.add_mul, Nat.one_mul]
      omega
    · rw [if_neg ha] at h1
      simp only at h1
      cases hk : Fr.pt i u (d + innK x.k) k with
      | none => rw [hk] at h1; cases h1
      | some k' =>
        rw [hk] at h1
        injection h1 with h1
        have e1 := ihk hv.2.1 hk
        have ec : ctT i d (x, k) = Fr.ct i (d + innK x.k) k := by unfold ctT; rw [if_neg ha, Nat.zero_add]
        rw [ec, ← h1]
        show 1 + k'.sz + r'.sz + (Fr.ct i (d + innK x.k) k + Fr.ct i d r) = 1 + k.sz + r.sz + (Fr.ct i (d + innK x.k) k + Fr.ct i d r) * szT u
        rw [Nat.add_mul]
        omega
theorem ptT_sz {i : Int} {u t t' : Tr} {d : Nat} (hv : tvok t) (h : ptT i u d t = some t') : szT t' + ctT i d t = szT t + ctT i d t * szT u := by
  have h1 : Fr.pt i u d (.cons t.1 t.2 .nil) = some (.cons t'.1 t'.2 .nil) := Fr.pt_mk (x := t.1) (k := t.2) h rfl
  have h2 := Fr.pt_sz (f := .cons t.1 t.2 .nil) ⟨hv.1, hv.2, trivial⟩ h1
  rw [Fr.ct_c] at h2
  have e0 : Fr.ct i d .nil = 0 := rfl
  rw [e0, Nat.add_zero] at h2
  have e1 : (Fr.cons t.1 t.2 .nil).sz = szT t := rfl
  have e2 : (Fr.cons t'.1 t'.2 .nil).sz = szT t' := rfl
  rw [e1, e2] at h2
  exact h2
theorem sbR_sz (i : Int) (o p : Option Tr) : szO (sbR i o p).1 ≤ 65536 := by
  unfold sbR
  split
  · rename_i h0
    split
    · split
      · exact Nat.zero_le _
      · obtain ⟨t, rfl, hz, hc⟩ := ckE_ok h0
        cases p with
        | none => exact Nat.zero_le _
        | some u =>
          simp only
          split
          · exact Nat.zero_le _
          · rename_i hs
            cases hm : ptT i u 0 t with
            | none => exact Nat.zero_le _
            | some t' =>
              show szT t' ≤ 65536
              have := ptT_sz (co_tvok hc) hm
              have := ctT_le i 0 t
              omega
    · exact Nat.zero_le _
  · exact Nat.zero_le _
set_option maxHeartbeats 12800000 in
set_option maxRecDepth 100000 in
theorem lawShifts10 (ct : CtAll) (b c : Int) (cs0 : List Cel) (w : World) (hpw : Pw w) (cv0 : Value) (hcl0 : Cls w w.heap.size cv0 cs0) (hfit0 : ∀ c ∈ cs0, fitD c) :
    Calls Tryd.prog 4 #[.agg #[cv0], .int .i64 b, .int .i64 c] w (BoP true w) := by
  obtain ⟨H, hH⟩ : ∃ H, w.heap.size = H := ⟨_, rfl⟩
  obtain ⟨CA0, cc0, hcv0, -, -⟩ := id hcl0
  have u0 : Up w (w.alloc (.cells #[cv0] 24)) := (Up.refl w).alloc _
  obtain ⟨W0, hW0⟩ : ∃ W0, w.alloc (.cells #[cv0] 24) = W0 := ⟨_, rfl⟩
  have hx0 : W0.heap[H]? = some (.cells #[cv0] 24 (0, 0)) := by rw [← hW0, ← hH]; exact heap_alloc_new w _
  rw [hW0] at u0
  have hcl := hcl0.upp u0
  have kc : W0.cell? ⟨H, 0, none⟩ = some cv0 := cell_of_row _ H 0 _ _ _ hx0
  have hsz := kept_sz cs0
  have HW0 := Lib.hid hW0
  have HH := Lib.hid hH
  have U0 := Lib.hid u0
  have HCL := Lib.hid hcl
  have HF := Lib.hid hfit0
  have HSZ := Lib.hid hsz
  have CT := Lib.hid ct
  have HPW := Lib.hid hpw
  clear hcl0 u0 hW0 hcl hfit0 hx0 ct hpw hsz
  subst hcv0
  go_enter Tryd.func4, Tryd.ntmps4
  go_wp2_with fail
  rw [HW0.out]
  refine (uFew10 cs0 HCL.out HF.out (Up.refl _)).mono ?_
  rintro e w1 ⟨v, rfl, h1, u1⟩
  have kc1 := u1.cell kc
  have H1 := Lib.hid h1
  have U1 := Lib.hid u1
  clear h1 u1 kc
  go_wp2_with fail
  refine (uFew10 cs0 HCL.out HF.out U1.out).mono ?_
  rintro e w2 ⟨v2, rfl, h2, u2⟩
  have hz := HSZ.out
  obtain ⟨o, ho⟩ : ∃ o, kept cs0 = o := ⟨_, rfl⟩
  have h12 := H1.out
  rw [ho] at h2 hz h12
  have HV := Lib.hid (h12.up u2)
  have HV2 := Lib.hid h2
  have U2 := Lib.hid ((U0.out.trans U1.out).trans u2)
  have hz6 : szO o ≤ 65536 := by omega
  have HP := Lib.hid (fun W (u : Up w2 W) => (CT.out.shift W o v b c (HV.out.up u) hz6).mono fun _ _ k => k.has)
  have HR := Lib.hid (fun W (u : Up w2 W) => rShift b c (HV.out.up u) hz6)
  have HFp := Lib.hid (fun W (u : Up w2 W) => CT.out.free W o v (HV.out.up u) hz6)
  have HFr := Lib.hid (fun W (u : Up w2 W) => rFree (HV.out.up u) hz6)
  have HOp := Lib.hid (fun W (u : Up w2 W) => CT.out.occurs W o v c (HV.out.up u) hz6)
  have HOr := Lib.hid (fun W (u : Up w2 W) => rOccurs c (HV.out.up u) hz6)
  have HSm := Lib.hid (fun W (u : Up w2 W) => rSame o o (HV.out.up u) (HV2.out.up u) (by omega) true ⟨fun _ => rfl, fun _ => rfl⟩ (Up.refl W))
  have hzs := shR_sz b c o
  obtain ⟨⟨RO, RE⟩, hR⟩ : ∃ R, shR b c o = R := ⟨_, rfl⟩
  rw [hR] at HP HR hzs
  obtain ⟨F, hF⟩ : ∃ R, frR o = R := ⟨_, rfl⟩
  rw [hF] at HFp HFr
  obtain ⟨G, hG⟩ : ∃ R, ocR o c = R := ⟨_, rfl⟩
  rw [hG] at HOp HOr
  have HZ := Lib.hid (show szO RO ≤ 65536 by have : szO RO ≤ szO o := hzs; omega)
  clear h12 h2 u2 hz hz6 hzs hR hF hG ho HSZ
  go_wp2_with fail
  refine (HP.out w2 (Up.refl _)).mono ?_
  rintro e w3 ⟨v3, rfl, h3, u3⟩
  have H3 := Lib.hid h3
  have U3 := Lib.hid u3
  clear h3 u3
  go_wp2_with fail
  refine (HR.out w3 U3.out).mono ?_
  rintro e w4 ⟨v4, rfl, h4, u4⟩
  have cM := rSame RO RO (H3.out.up u4) h4 HZ.out true ⟨fun _ => rfl, fun _ => rfl⟩ (Up.refl w4)
  have U4 := Lib.hid (U3.out.trans u4)
  clear h4 u4
  go_wp2_with fail
  refine cM.mono ?_
  rintro e w5 ⟨rfl, u5⟩
  have U5 := Lib.hid (U4.out.trans u5)
  clear u5 cM
  go_wp2_with fail
  refine (HFp.out w5 U5.out).mono ?_
  rintro e w6 ⟨rfl, u6⟩
  have U6 := Lib.hid (U5.out.trans u6)
  clear u6
  go_wp2_with fail
  refine (HFr.out w6 U6.out).mono ?_
  rintro e w7 ⟨rfl, u7⟩
  have U7 := Lib.hid (U6.out.trans u7)
  clear u7
  go_wp2_with fail
  refine (HOp.out w7 U7.out).mono ?_
  rintro e w8 ⟨rfl, u8⟩
  have U8 := Lib.hid (U7.out.trans u8)
  clear u8
  go_wp2_with fail
  refine (HOr.out w8 U8.out).mono ?_
  rintro e w9 ⟨rfl, u9⟩
  have U9 := Lib.hid (U8.out.trans u9)
  clear u9
  go_wp2_with fail
  refine (HSm.out w9 U9.out).mono ?_
  rintro e w10 ⟨rfl, u10⟩
  have U10 := Lib.hid (U2.out.trans (U9.out.trans u10))
  clear u10
  go_wp2_with fail
  refine (works10 CT.out HPW.out U10.out).mono ?_
  rintro e w11 ⟨rfl, u11⟩
  go_wp2_with fail
  go_ret
  exact bopU rfl u11
set_option maxHeartbeats 12800000 in
set_option maxRecDepth 100000 in
theorem lawSubsts10 (ct : CtAll) (i : Int) (cs0 : List Cel) (cs1 : List Cel) (w : World) (hpw : Pw w) (cv0 : Value) (hcl0 : Cls w w.heap.size cv0 cs0) (hfit0 : ∀ c ∈ cs0, fitD c) (cv1 : Value) (hcl1 : Cls w w.heap.size cv1 cs1) (hfit1 : ∀ c ∈ cs1, fitD c) :
    Calls Tryd.prog 5 #[.agg #[cv0], .int .i64 i, .agg #[cv1]] w (BoP true w) := by
  obtain ⟨H, hH⟩ : ∃ H, w.heap.size = H := ⟨_, rfl⟩
  obtain ⟨CA0, cc0, hcv0, -, -⟩ := id hcl0
  obtain ⟨CA1, cc1, hcv1, -, -⟩ := id hcl1
  obtain ⟨W0, hW0⟩ : ∃ W0, w.alloc (.cells #[cv0] 24) = W0 := ⟨_, rfl⟩
  obtain ⟨W9, hW9⟩ : ∃ W9, W0.alloc (.cells #[cv1] 24) = W9 := ⟨_, rfl⟩
  have a0 : Up w W0 := by rw [← hW0]; exact (Up.refl w).alloc _
  have a9 : Up W0 W9 := by rw [← hW9]; exact (Up.refl W0).alloc _
  have hx0 : W0.heap[H]? = some (.cells #[cv0] 24 (0, 0)) := by rw [← hW0, ← hH]; exact heap_alloc_new w _
  have hz0 : W0.heap.size = H + 1 := by rw [← hW0, ← hH]; simp
  have hx9 : W9.heap[H + 1]? = some (.cells #[cv1] 24 (0, 0)) := by rw [← hW9, ← hz0]; exact heap_alloc_new W0 _
  have u0 : Up w W9 := a0.trans a9
  have hcl := hcl0.upp u0
  have hclb := hcl1.upp u0
  have kc : W9.cell? ⟨H, 0, none⟩ = some cv0 := a9.cell (cell_of_row _ H 0 _ _ _ hx0)
  have kd : W9.cell? ⟨H + 1, 0, none⟩ = some cv1 := cell_of_row _ (H + 1) 0 _ _ _ hx9
  have HSZ := Lib.hid (kept_sz cs0)
  have HSZ1 := Lib.hid (kept_sz cs1)
  have HW0 := Lib.hid hW0
  have HW9 := Lib.hid hW9
  have U0 := Lib.hid u0
  have HCL := Lib.hid hcl
  have HCL1 := Lib.hid hclb
  have HF := Lib.hid hfit0
  have HF1 := Lib.hid hfit1
  have CT := Lib.hid ct
  have HPW := Lib.hid hpw
  clear hcl0 hcl1 u0 hW0 hW9 hcl hclb hfit0 hfit1 hx0 hx9 ct hpw a0 a9 hz0
  subst hcv0 hcv1
  go_enter Tryd.func5, Tryd.ntmps5
  go_wp2_with fail
  rw [HW0.out, HW9.out]
  have C0 := Lib.hid (fun W (u : Up W9 W) => uFew10 cs0 HCL.out HF.out u)
  have C1 := Lib.hid (fun W (u : Up W9 W) => uFew10 cs1 HCL1.out HF1.out u)
  obtain ⟨V0, hV0⟩ : ∃ V, Value.slice CA0 cs0.length cc0 = V := ⟨_, rfl⟩
  obtain ⟨V1, hV1⟩ : ∃ V, Value.slice CA1 cs1.length cc1 = V := ⟨_, rfl⟩
  rw [hV0] at C0 kc ⊢
  rw [hV1] at C1 kd ⊢
  clear HCL HCL1 HF HF1
  go_region_held3 (fun w' => w'.cell? ⟨H, 0, none⟩ = some V0 ∧ w'.cell? ⟨H + 1, 0, none⟩ = some V1) (first | go_keep | (refine ⟨?_, ?_⟩ <;> assumption)) (first
    | (go_at_call 9; (with_reducible show Calls _ _ #[Value.agg #[V0]] _ _); refine Calls.mono (C0.out _ (by first | assumption | exact Up.refl _ | exact (Up.refl _).drewN 1)) ?_; rintro e1 w1 ⟨v, rfl, h1, u1⟩; have n0 : w1.cell? ⟨H, 0, none⟩ = some V0 := u1.cell kc; have n1 : w1.cell? ⟨H + 1, 0, none⟩ = some V1 := u1.cell kd; have uu1 : Up W9 w1 := ((Up.refl W9).drewN 1).trans u1)
    | (go_at_call 9; (with_reducible show Calls _ _ #[Value.agg #[V1]] _ _); refine Calls.mono (C1.out _ (by first | assumption | exact Up.refl _ | exact (Up.refl _).drewN 1)) ?_; rintro e2 w2 ⟨v2, rfl, h2, u2⟩; have m0 : w2.cell? ⟨H, 0, none⟩ = some V0 := u2.cell n0; have m1 : w2.cell? ⟨H + 1, 0, none⟩ = some V1 := u2.cell n1))
  have H12 := Lib.hid (h1.up u2)
  have H2 := Lib.hid h2
  have U2 := Lib.hid (uu1.trans u2)
  have kc2 := m0
  have kd2 := m1
  rename_i hh
  clear hh n0 m0 m1 h1 h2 u2 uu1 kc kd u1
  try clear n1
  go_wp2_with fail
  go_region_held3 (fun w' => w'.cell? ⟨H, 0, none⟩ = some V0 ∧ w'.cell? ⟨H + 1, 0, none⟩ = some V1) (first | go_keep | (refine ⟨?_, ?_⟩ <;> assumption)) (first
    | (go_at_call 9; (with_reducible show Calls _ _ #[Value.agg #[V0]] _ _); refine Calls.mono (C0.out _ (by first | exact U2.out.drewN 1 | exact U2.out | exact U2.out.trans (by assumption))) ?_; rintro e3 w3 ⟨v3, rfl, h3, u3⟩; have n0 : w3.cell? ⟨H, 0, none⟩ = some V0 := u3.cell kc2; have n1 : w3.cell? ⟨H + 1, 0, none⟩ = some V1 := u3.cell kd2; have uu3 : Up w2 w3 := ((Up.refl w2).drewN 1).trans u3)
    | (go_at_call 9; (with_reducible show Calls _ _ #[Value.agg #[V1]] _ _); refine Calls.mono (C1.out _ (U2.out.trans uu3)) ?_; rintro e4 w4 ⟨v4, rfl, h4, u4⟩; have m0 : w4.cell? ⟨H, 0, none⟩ = some V0 := u4.cell n0; have m1 : w4.cell? ⟨H + 1, 0, none⟩ = some V1 := u4.cell n1))
  have H13 := Lib.hid (H12.out.up uu3)
  have H23 := Lib.hid (H2.out.up uu3)
  have H3 := Lib.hid h3
  have U3 := Lib.hid (U2.out.trans uu3)
  have hz := HSZ.out
  have hz1 := HSZ1.out
  have h14 := H13.out.up u4
  have h24 := H23.out.up u4
  have h34 := H3.out.up u4
  obtain ⟨o, ho⟩ : ∃ o, kept cs0 = o := ⟨_, rfl⟩
  obtain ⟨p, hp⟩ : ∃ o, kept cs1 = o := ⟨_, rfl⟩
  rw [ho] at h14 h34 hz
  rw [hp] at h24 h4 hz1
  have HV := Lib.hid h14
  have HV2 := Lib.hid h34
  have HU := Lib.hid h24
  have HU2 := Lib.hid h4
  have U4 := Lib.hid ((U0.out.trans U3.out).trans u4)
  have hz6 : szO o ≤ 65536 := by omega
  have hz7 : szO p ≤ 65536 := by omega
  have HP := Lib.hid (fun W (u : Up w4 W) => (CT.out.subst W o p v v2 i (HV.out.up u) hz6 (HU.out.up u) hz7).mono fun _ _ k => k.has)
  have HR := Lib.hid (fun W (u : Up w4 W) => rSubst i (HV.out.up u) hz6 (HU.out.up u) hz7)
  have HS1 := Lib.hid (fun W (u : Up w4 W) => rSame o o (HV.out.up u) (HV2.out.up u) (by omega) true ⟨fun _ => rfl, fun _ => rfl⟩ (Up.refl W))
  have HS2 := Lib.hid (fun W (u : Up w4 W) => rSame p p (HU.out.up u) (HU2.out.up u) (by omega) true ⟨fun _ => rfl, fun _ => rfl⟩ (Up.refl W))
  have hzs := sbR_sz i o p
  obtain ⟨⟨RO, RE⟩, hR⟩ : ∃ R, sbR i o p = R := ⟨_, rfl⟩
  rw [hR] at HP HR hzs
  have HZ := Lib.hid (show szO RO ≤ 65536 from hzs)
  clear h14 h24 h34 h4 u4 hz hz1 hz6 hz7 hzs hR ho hp HSZ HSZ1 H12 H13 H2 H23 H3 U2 U3 U0 C0 C1 h3 u3 uu3 kc2 kd2 m0 m1 n0
  try clear n1
  rename_i hh
  clear hh
  go_wp2_with fail
  refine (HP.out w4 (Up.refl _)).mono ?_
  rintro e w5 ⟨v5, rfl, h5, u5⟩
  have H5 := Lib.hid h5
  have U5 := Lib.hid u5
  clear h5 u5
  go_wp2_with fail
  refine (HR.out w5 U5.out).mono ?_
  rintro e w6 ⟨v6, rfl, h6, u6⟩
  have cM := rSame RO RO (H5.out.up u6) h6 HZ.out true ⟨fun _ => rfl, fun _ => rfl⟩ (Up.refl w6)
  have U6 := Lib.hid (U5.out.trans u6)
  clear h6 u6
  go_wp2_with fail
  refine cM.mono ?_
  rintro e w7 ⟨rfl, u7⟩
  have U7 := Lib.hid (U6.out.trans u7)
  clear u7 cM
  go_wp2_with fail
  refine (HS1.out w7 U7.out).mono ?_
  rintro e w8 ⟨rfl, u8⟩
  have U8 := Lib.hid (U7.out.trans u8)
  clear u8
  go_wp2_with fail
  refine (HS2.out w8 U8.out).mono ?_
  rintro e w9 ⟨rfl, u9⟩
  have U9 := Lib.hid (U4.out.trans (U8.out.trans u9))
  clear u9
  go_wp2_with fail
  refine (works10 CT.out HPW.out U9.out).mono ?_
  rintro e w10 ⟨rfl, u10⟩
  go_wp2_with fail
  go_ret
  exact bopU rfl u10
end Go.Proofs.YtdofcjnkpgbjaaaDoor
namespace Go.Proofs.YtdofcjnkpgbjaaaDoor
open Go.RowKit

theorem shR_some {b c : Int} {t : Tr} (h : ckE (some t) = 0) (hc : 0 ≤ c) : shR b c (some t) = errO 2 (mvT b c 0 t) := by unfold shR; rw [if_pos h, if_neg (by omega)]
theorem shR_ok {b c : Int} {o m : Option Tr} (h : shR b c o = (m, 0)) : ∃ t t', o = some t ∧ m = some t' ∧ ckE (some t) = 0 ∧ 0 ≤ c ∧ mvT b c 0 t = some t' := by
  unfold shR at h
  split at h
  · rename_i h0
    split at h
    · cases h
    · rename_i hc
      obtain ⟨t, rfl, _⟩ := ckE_ok h0
      simp only at h
      cases hm : mvT b c 0 t with
      | none => rw [hm] at h; cases h
      | some t' =>
        rw [hm] at h
        injection h with h _
        exact ⟨t, t', rfl, h.symm, h0, by omega, hm⟩
  · rename_i h0
    injection h with _ h
    exact absurd h h0
theorem shR_bad {b c : Int} {o m : Option Tr} {z : Int} (h : shR b c o = (m, z)) (hz : z ≠ 0) : m = none ∧ (ckE o ≠ 0 ∨ z = 2) := by
  unfold shR at h
  split at h
  · rename_i h0
    split at h
    · injection h with h1 h2
      exact ⟨h1.symm, .inr h2.symm⟩
    · obtain ⟨t, rfl, _⟩ := ckE_ok h0
      simp only at h
      cases hm : mvT b c 0 t with
      | none => rw [hm] at h; injection h with h1 h2; exact ⟨h1.symm, .inr h2.symm⟩
      | some t' => rw [hm] at h; injection h with _ h2; exact absurd h2.symm hz
  · rename_i h0
    injection h with h1 h2
    exact ⟨h1.symm, .inl h0⟩
theorem mvT_ck {b c : Int} {t t' : Tr} (h : ckE (some t) = 0) (hm : mvT b c 0 t = some t') : ckE (some t') = 0 := by
  obtain ⟨_, e, h1, h2⟩ := ckE_ok h
  injection e with e
  subst e
  exact ckE_of (by rw [(mvT_sz hm).1]; exact h1) (mvT_co hm h2)
theorem ck_vok {t : Tr} (h : ckE (some t) = 0) : (Fr.cons t.1 t.2 .nil).vok := by
  obtain ⟨_, e, _, h2⟩ := ckE_ok h
  injection e with e
  subst e
  exact co_vok (m := 0) (by rw [coT_F]; exact h2)
theorem sh_back {b : Int} {t t' : Tr} (hb : 0 ≤ b) (h : ckE (some t) = 0) (hm : mvT b 0 0 t = some t') : shR (-b) 0 (some t') = (some t, 0) := by
  rw [shR_some (mvT_ck h hm) (Int.le_refl _), mvT_F.2 (Fr.mv_back hb (ck_vok h) (mvT_F.1 hm))]
  rfl
theorem sh_zero {t : Tr} (h : ckE (some t) = 0) : shR 0 0 (some t) = (some t, 0) := by
  rw [shR_some h (Int.le_refl _), mvT_F.2 (Fr.mv_zero 0 (ck_vok h))]
  rfl
theorem sh_add {a b : Int} {t t' : Tr} (ha : 0 ≤ a) (h : ckE (some t) = 0) (hm : mvT a 0 0 t = some t') : shR b 0 (some t') = shR (a + b) 0 (some t) := by
  rw [shR_some (mvT_ck h hm) (Int.le_refl _), shR_some h (Int.le_refl _)]
  have h1 := Fr.mv_add (b := b) ha (mvT_F.1 hm)
  congr 1
  cases h2 : mvT (a + b) 0 0 t with
  | some s => rw [mvT_F.1 h2] at h1; exact mvT_F.2 h1
  | none =>
    cases h3 : mvT b 0 0 t' with
    | none => rfl
    | some s =>
      rw [mvT_F.1 h3] at h1
      have := mvT_F.2 h1.symm
      rw [h2] at this
      cases this
theorem oc_gone {i : Int} {t t' : Tr} (h : ckE (some t) = 0) (hm : mvT 1 i 0 t = some t') (u : Tr) : ctT i 0 t' = 0 ∧ ptT i u 0 t' = some t := by
  obtain ⟨h1, h2⟩ := Fr.mv_gone (i := i) u (ck_vok h) (mvT_F.1 hm)
  rw [Fr.ct_c] at h1
  have h1 : ctT i 0 t' + 0 = 0 := h1
  refine ⟨by omega, ?_⟩
  obtain ⟨s, r', h3, h4, h5⟩ := Fr.pt_inv h2
  injection h4 with h4
  injection h5 with h5 h6 _
  rw [show t' = (t'.1, t'.2) from rfl, h3]
  congr 1
  exact Prod.ext h5.symm h6.symm
theorem oc_var {t t' : Tr} (h : ckE (some t) = 0) (hd : dpT t ≤ 50000) (hm : mvT 1 1 0 t = some t') : ptT 0 (varT 0) 0 t' = some t := by
  have h2 := Fr.mv_var (d := 0) (by unfold Fr.dp; unfold dpT at hd; show 0 + max (1 + t.2.dp) 0 ≤ 60000; omega) (ck_vok h) (mvT_F.1 hm)
  obtain ⟨s, r', h3, h4, h5⟩ := Fr.pt_inv h2
  injection h4 with h4
  injection h5 with h5 h6 _
  rw [show t' = (t'.1, t'.2) from rfl]
  show ptT 0 (⟨110, 0, ⟨#[]⟩, ⟨#[]⟩⟩, .nil) 0 (t'.1, t'.2) = some t
  rw [h3]
  congr 1
  exact Prod.ext h5.symm h6.symm
theorem sb_of {i : Int} {t u m : Tr} (h : ckE (some t) = 0) (hu : ckE (some u) = 0) (hi : 0 ≤ i) (hp : ptT i u 0 t = some m) (hm : szT m ≤ 65536) : sbR i (some t) (some u) = (some m, 0) := by
  unfold sbR
  rw [if_pos h, if_pos hu, if_neg (by omega)]
  obtain ⟨_, e, _, hc⟩ := ckE_ok h
  injection e with e
  subst e
  have h1 := ptT_sz (co_tvok hc) hp
  have h2 := ctT_le i 0 t
  simp only
  rw [if_neg (by omega), hp]
  rfl
theorem oc_false {i : Int} {t : Tr} (h : ctT i 0 t = 0) : ocR (some t) i = false := by
  unfold ocR
  simp only
  rw [h, decide_eq_false (Nat.lt_irrefl 0), Bool.and_false, Bool.and_false]
theorem fr_val {t : Tr} (h : ckE (some t) = 0) : frR (some t) = fvT 0 t := if_pos h
theorem fr_none {o : Option Tr} (h : ¬ ckE o = 0) : frR o = 0 := by
  cases o with
  | none => rfl
  | some t => exact if_neg h
theorem fr_not {t : Tr} : ocR (some t) (fvT 0 t) = false := by
  apply oc_false
  have h := Fr.ct_fv (f := .cons t.1 t.2 .nil) (d := 0) (i := fvT 0 t) (by rw [Fr.fv_c]; have := fvT_pos 0 t; show max (fvT 0 t) 0 ≤ _; omega)
  rw [Fr.ct_c] at h
  have e : ctT (fvT 0 t) 0 (t.1, t.2) = ctT (fvT 0 t) 0 t := rfl
  omega
theorem fr_yes {t : Tr} (h : ckE (some t) = 0) (hp : 0 < fvT 0 t) : ocR (some t) (fvT 0 t - 1) = true := by
  have e0 : Fr.fv 0 (.cons t.1 t.2 .nil) = fvT 0 t := by rw [Fr.fv_c]; have := fvT_pos 0 t; show max (fvT 0 t) 0 = _; omega
  have h1 := Fr.fv_ct (f := .cons t.1 t.2 .nil) (d := 0) (by rw [e0]; exact hp)
  rw [e0, Fr.ct_c] at h1
  have e : Fr.ct (fvT 0 t - 1) 0 .nil = 0 := rfl
  have e2 : ctT (fvT 0 t - 1) 0 (t.1, t.2) = ctT (fvT 0 t - 1) 0 t := rfl
  unfold ocR
  simp only
  rw [decide_eq_true h, decide_eq_true (by omega : 0 ≤ fvT 0 t - 1), decide_eq_true (by omega : 0 < ctT (fvT 0 t - 1) 0 t)]
  rfl
end Go.Proofs.YtdofcjnkpgbjaaaDoor
