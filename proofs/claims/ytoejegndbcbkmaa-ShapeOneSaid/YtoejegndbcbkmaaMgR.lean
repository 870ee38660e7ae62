/-
  Layer 5, the program's cons: constructors, no two with one name.
-/
import Derived.Test.YtoejegndbcbkmaaMgQ
import Derived.Maps.OwnSet
namespace Go.Proofs.Ytoejegndbcbkmaa
open Go.RowKit Go.Maps

/-! ### a set of texts -/
def kyC (s : ByteArray) : Lit := .string s.data.toList
def kysC (l : List ByteArray) : List Lit := l.map kyC
theorem kysC_key (l : List ByteArray) : ∀ x ∈ kysC l, WideAt.IsKeyLit x := by
  intro x hx
  obtain ⟨y, _, rfl⟩ := List.mem_map.1 hx
  exact trivial
def SxC (l : List ByteArray) : DataW Unit := Maps.setOf (.agg []) (kysC l)
theorem kyC_inj {a b : ByteArray} (h : kyC a = kyC b) : a = b := by
  unfold kyC at h
  injection h with h
  exact B.ba_ext h
theorem has_SxC (l : List ByteArray) (y : ByteArray) : Maps.has (SxC l) (kyC y) = true ↔ y ∈ l := by
  unfold SxC
  rw [Maps.has_setOf _ _ _ (kysC_key l), List.any_eq_true]
  constructor
  · rintro ⟨x, hx, hk⟩
    obtain ⟨z, hz, rfl⟩ := List.mem_map.1 hx
    rw [← kyC_inj (WideAt.sameKey_eq hk)]
    exact hz
  · intro h
    exact ⟨kyC y, List.mem_map.2 ⟨y, h, rfl⟩, WideAt.sameKey_self trivial⟩
theorem SxC_more (l : List ByteArray) (y : ByteArray) : SxC (l ++ [y]) = (SxC l).put (kyC y) (.agg []) := by
  unfold SxC kysC
  rw [List.map_append, List.map_cons, List.map_nil, Maps.setOf_snoc]
theorem lawStrC : Keyed Try.prog 9 := string_keyed Try.underlying9
theorem zeroUnitC (w : World) : (zeroValue 93).run Try.prog w = .ok (.agg #[]) w := by kernel_rfl
theorem kyC_of {s : ByteArray} (h : s.size ≤ 2000000000) : keyOf Try.prog 9 (.string s) = some (kyC s) := Go.WideMaps.keyOf_string_mk Try.underlying9 (by unfold maxLen; omega)
/-- The set of the names ahead: a variable that holds a map. -/
def StC (w : World) (pb mb : Nat) (l : List ByteArray) : Prop := w.heap[pb]? = some (.cells #[.map (some mb)] 92 (0, 0)) ∧ pb ≠ mb ∧ w.ownsMap Try.prog 9 (unitElem (H := Unit)) mb l.length (SxC l)
theorem map_belowC {w w' : World} {b n : Nat} {D : DataW Unit} (h : w.ownsMap Try.prog 9 (unitElem (H := Unit)) b n D) (hb : Below w.heap.size w w') : w'.ownsMap Try.prog 9 (unitElem (H := Unit)) b n D := by
  obtain ⟨es, clock, h1, h2⟩ := h
  exact ⟨es, clock, heap_below h1 hb, h2⟩
theorem StC.below {w w' : World} {pb mb : Nat} {l : List ByteArray} (h : StC w pb mb l) (hb : Below w.heap.size w w') : StC w' pb mb l := ⟨heap_below h.1 hb, h.2.1, map_belowC h.2.2 hb⟩
def hasC (l : List ByteArray) (s : ByteArray) : Bool := Maps.has (SxC l) (kyC s)
theorem lookC {w : World} {mb n : Nat} {l : List ByteArray} {s : ByteArray} (h : w.ownsMap Try.prog 9 (unitElem (H := Unit)) mb n (SxC l)) (hs : s.size ≤ 2000000000) :
    (Instr.lookup 92 (.map (some mb)) (.string s) true).run Try.prog w = .ok (.tuple #[.agg #[], .bool (hasC l s)]) w := by
  obtain ⟨v, ps, hrun, hv⟩ := h.look_ok lawStrC Try.underlying92 (zeroUnitC w) unitElem_mk (kyC_of hs)
  obtain ⟨rfl, _⟩ := unitElem_inv hv
  exact hrun
theorem storeC {w : World} {mb : Nat} {l : List ByteArray} {s : ByteArray} (h : w.ownsMap Try.prog 9 (unitElem (H := Unit)) mb l.length (SxC l)) (hs : s.size ≤ 2000000000) (hl : l.length ≤ 1000000) :
    ∃ w', (Instr.mapUpdate 92 (.map (some mb)) (.string s) (.agg #[])).run Try.prog w = .ok () w' ∧ w'.ownsMap Try.prog 9 (unitElem (H := Unit)) mb (l ++ [s]).length (SxC (l ++ [s])) ∧ w.grownBy w' (some mb) := by
  obtain ⟨w', h1, h2, h3⟩ := h.store lawStrC Try.underlying92 (by unfold maxLen; omega) (kyC_of hs) unitElem_mk
  refine ⟨w', h1, ?_, h3.grown⟩
  rw [SxC_more, List.length_append]
  exact h2
def conB (l : List ByteArray) (t : Tr) : Bool := !hasC l t.1.a && isT B.nck B.long t 8
def ConPost (t : Tr) (l : List ByteArray) (pb mb : Nat) (w : World) (e : Ending) (w' : World) : Prop := TelX (conB l t) (some mb) w e w' ∧ StC w' pb mb (l ++ [t.1.a])
theorem rows_8 : ∀ r ∈ RWS, r.cat = 8 → r.kind = 8 := by decide
theorem isT8 (x : Nod) (f : Fr) : isT B.nck B.long (x, f) 8 = (decide (x.k = 8) && texB x B.nck isEmp && seqK (IF f) [1]) := by
  by_cases h : x.k = 8
  · rw [decide_eq_true h]
    show isX B.nck B.long x (IF f) 8 = _
    rw [isX_one h (by rfl), hd_tex (A := B.nck) (M := isEmp) (fun _ => rfl) (fun _ => rfl), seq_K _ _ (by rfl)]
    rfl
  · rw [decide_eq_false h]
    exact isX_none fun r hr hc e => h (by rw [← e]; exact rows_8 r hr hc)
theorem fns_lit {w : World} {H : Nat} {ty : TypeId} (fs : List (FuncId × Array Value)) (hg : w.heap[H]? = some (.cells (fs.map fnV).toArray ty (0, 0))) : Fns w none (some ⟨H, 0, none⟩) fs := fun j k cap hj => by
  refine ⟨H, 0, rfl, (fun e => by cases e), ?_⟩
  rw [Nat.zero_add, cell_of_row w H j _ _ _ hg, List.getElem?_toArray, List.getElem?_map, hj]
  rfl
set_option maxHeartbeats 3200000 in
set_option maxRecDepth 100000 in
theorem con_any (W w : World) (x : Nod) (f : Fr) (l : List ByteArray) (kv : Value) (pb mb : Nat) (hx : B.Nx W) (hv : HasT W kv (some (x, f))) (hu : Up W w) (hmb : W.heap.size ≤ mb) (hst : StC w pb mb l) (hs : okST (x, f)) (hl : l.length ≤ 100000) (hf : f.len ≤ 100000)
    (hI : ∀ (i : Nat) (t : Tr), f.get i = some t → TelAt (fnC 1) (isT B.nck B.long t 1) t) :
    Calls Try.prog 74 #[kv, .pointer (some ⟨pb, 0, none⟩)] w (ConPost (x, f) l pb mb w) := by
  obtain ⟨q, p, A, c, rfl, hq, c0, c1, c2, c3, c4, hcc, hkid⟩ := InT.open hv
  have k0 := hu.cell c0
  have k2 := hu.cell c2
  have kp : w.cell? ⟨pb, 0, none⟩ = some (.map (some mb)) := cell_of_row w pb 0 _ _ _ hst.1
  have hsa : x.a.size ≤ 2000000000 := by have h : x.a.size ≤ 1000000000 := hs.1; omega
  have hl1 : (Instr.lookup 92 (.map (some mb)) (.string x.a) true).run Try.prog w.drew = .ok (.tuple #[.agg #[], .bool (hasC l x.a)]) w.drew := lookC (l := l) (map_belowC hst.2.2 (Below.refl _ _).drew) hsa
  have hbA : Below w.heap.size w (w.alloc (.cells #[] 93)) := (Below.refl _ _).alloc (Nat.le_refl _) _
  have k2' := hbA.cell (cell_lt k2) |>.trans k2
  have kp' := hbA.cell (cell_lt kp) |>.trans kp
  have hl2 : (Instr.lookup 92 (.map (some mb)) (.string x.a) true).run Try.prog (w.alloc (.cells #[] 93)).drew = .ok (.tuple #[.agg #[], .bool (hasC l x.a)]) (w.alloc (.cells #[] 93)).drew := lookC (l := l) (map_belowC hst.2.2 hbA.drew) hsa
  have HBA := Lib.hid hbA
  have K2 := Lib.hid k2
  have KP := Lib.hid kp
  have C0 := Lib.hid c0
  have HST := Lib.hid hst
  have HV := Lib.hid hv
  have HU := Lib.hid hu
  have HS := Lib.hid hs
  have HI := Lib.hid hI
  clear c0 c1 c2 c3 c4 hcc hkid hst hv hu hs hI hbA
  obtain ⟨tw, htw⟩ : ∃ tw, hasC l x.a = tw := ⟨_, rfl⟩
  rw [htw] at hl1 hl2
  have HTW := Lib.hid htw
  clear htw
  go_enter Try.func74, Try.ntmps74
  go_wp2_with fail
  go_region
  all_goals
    clear k2 kp hl1 hl2 k2' kp' k0
    obtain ⟨w1, hw1⟩ : ∃ w1, (w.alloc (.cells #[] 93)).drew = w1 := ⟨_, rfl⟩
    rw [hw1]
    have b1 : Below w.heap.size w w1 := by rw [← hw1]; exact HBA.out.drew
    have u1 : Up W w1 := HU.out.trans b1
    have st1 := HST.out.below b1
    have k2 := b1.cell (cell_lt K2.out) |>.trans K2.out
    have kp := b1.cell (cell_lt KP.out) |>.trans KP.out
    obtain ⟨w3, hup, hown, hg3⟩ := storeC (w := w1.drew) (map_belowC st1.2.2 (Below.refl _ _).drew) hsa (by omega)
    have st3 : StC w3 pb mb (l ++ [x.a]) := ⟨gb_block (w := w1.drew) hg3 st1.1 st1.2.1, st1.2.1, hown⟩
    have g3 : w.grownBy w3 (some mb) := gb_trans (gb_below b1 (Nat.le_refl _)) (gb_trans (gb_below (B := w1.heap.size) (Below.refl w1.heap.size w1).drew (Nat.le_refl _)) hg3)
    have u3 : Up W w3 := up_gb HU.out g3 fun m hm => by injection hm with hm; rw [← hm]; exact hmb
    have k0 := u3.cell C0.out
    have ST3 := Lib.hid st3
    have G3 := Lib.hid g3
    have U3 := Lib.hid u3
    clear st1 st3 g3 u1 u3 hw1 b1 hown hg3
    go_wp2_with fail
    go_region
    cases tw
    · by_cases hk : x.k = 8
      · have HCB : Hid (conB l (x, f) = (texB x B.nck isEmp && seqK (IF f) [1])) := Lib.hid (by unfold conB; show (!hasC l x.a && _) = _; rw [HTW.out, isT8, decide_eq_true hk]; cases texB x B.nck isEmp <;> rfl)
        have cN := named_any x f w3 (.pointer (some ⟨q, p, none⟩)) (HV.out.up U3.out) HS.out.1
        obtain ⟨nb, hnb⟩ : ∃ nb, texB x B.nck isEmp = nb := ⟨_, rfl⟩
        rw [hnb] at cN
        have HNB := Lib.hid hnb
        clear hnb
        cases nb
        · go_wp2_with fail
          refine cN.mono ?_
          rintro e w4 ⟨rfl, u4⟩
          go_wp2_with fail
          go_ret
          exact ⟨telx_ret (by rw [HCB.out, HNB.out]; rfl) (gb_trans G3.out (gb_below u4 (Nat.le_refl _))), ST3.out.below u4⟩
        · go_wp2_with fail
          refine cN.mono ?_
          rintro e w4 ⟨rfl, u4⟩
          have cK := kids_seq [1] x f (w4.alloc (.cells #[.func (.func 37) #[] #[]] 71)) (.pointer (some ⟨q, p, none⟩)) (some ⟨w4.heap.size, 0, none⟩) 1 (Nx.up hx ((U3.out.trans u4).alloc _)) (HV.out.up ((U3.out.trans u4).alloc _)) hf (by decide)
            (fns_lit (fnsC [1]) (heap_alloc_new w4 _)) (fun i t c h hc => by rw [List.mem_singleton.1 hc]; exact HI.out i t h)
          have u5 : Up w3 (w4.alloc (.cells #[.func (.func 37) #[] #[]] 71)) := u4.alloc _
          have U5 := Lib.hid u5
          clear u4 u5
          go_wp2_with fail
          refine cK.mono ?_
          rintro e w5 ⟨rfl, u6⟩
          go_wp2_with fail
          go_ret
          exact ⟨telx_ret (by rw [HCB.out, HNB.out]; rfl) (gb_trans G3.out (gb_below (U5.out.trans u6) (Nat.le_refl _))), ST3.out.below (U5.out.trans u6)⟩
      · go_wp2_with fail
        go_ret
        exact ⟨telx_ret (by unfold conB; rw [isT8, decide_eq_false hk]; show (_ && false) = _; rw [Bool.and_false]) G3.out, ST3.out⟩
    · go_wp2_with fail
      go_ret
      exact ⟨telx_ret (by unfold conB; show (!hasC l x.a && _) = _; rw [HTW.out]; rfl) G3.out, ST3.out⟩
end Go.Proofs.Ytoejegndbcbkmaa
/-
  Layer 5, the program's cons: what it tells of a node's kids.
-/
namespace Go.Proofs.Ytoejegndbcbkmaa
open Go.RowKit Go.Maps

theorem all_both (p q : Inf → Bool) : ∀ l : List Inf, (l.all fun x => p x && q x) = (l.all p && l.all q)
  | [] => rfl
  | i :: t => by
    rw [List.all_cons, List.all_cons, List.all_cons, all_both p q t]
    cases p i <;> cases q i <;> cases t.all p <;> cases t.all q <;> rfl
theorem hasC_more (l : List ByteArray) (a s : ByteArray) : hasC (l ++ [a]) s = (hasC l s || decide (a = s)) := by
  rw [Bool.eq_iff_iff, Bool.or_eq_true, decide_eq_true_eq]
  unfold hasC
  rw [has_SxC, has_SxC, List.mem_append, List.mem_singleton]
  constructor
  · rintro (h | h)
    · exact .inl h
    · exact .inr h.symm
  · rintro (h | h)
    · exact .inl h
    · exact .inr h.symm
def conAt (ahead : List ByteArray) (l : List Inf) (i : Nat) : Bool := match l[i]? with
  | some j => !hasC (ahead ++ (l.take i).map (·.a)) j.a && j.is 8
  | none => true
theorem con_all : ∀ (l : List Inf) (ahead : List ByteArray), allB l.length (conAt ahead l) = (l.all (fun j => j.is 8) && apartA l && l.all fun j => !hasC ahead j.a)
  | [], _ => rfl
  | i :: t, ahead => by
    rw [List.length_cons, allB_succ]
    have e : (fun j => conAt ahead (i :: t) (j + 1)) = conAt (ahead ++ [i.a]) t := by
      funext j
      unfold conAt
      rw [List.getElem?_cons_succ, List.take_succ_cons, List.map_cons]
      simp only [List.append_assoc, List.cons_append, List.nil_append]
    have e0 : conAt ahead (i :: t) 0 = (!hasC ahead i.a && i.is 8) := by
      unfold conAt
      simp
    rw [e, e0, con_all t (ahead ++ [i.a])]
    have e1 : (t.all fun j => !hasC (ahead ++ [i.a]) j.a) = ((t.all fun j => !hasC ahead j.a) && t.all fun j => decide (i.a ≠ j.a)) := by
      rw [← all_both]
      congr 1
      funext j
      rw [hasC_more]
      by_cases h : i.a = j.a
      · rw [decide_eq_true h, decide_eq_false (by simpa using h)]
        cases hasC ahead j.a <;> rfl
      · rw [decide_eq_false h, decide_eq_true h]
        cases hasC ahead j.a <;> rfl
    rw [e1, List.all_cons, List.all_cons]
    show _ = (i.is 8 && t.all (fun j => j.is 8) && ((t.all fun j => decide (i.a ≠ j.a)) && apartA t) && (!hasC ahead i.a && t.all fun j => !hasC ahead j.a))
    cases hasC ahead i.a <;> cases i.is 8 <;> cases t.all (fun j => j.is 8) <;> cases apartA t <;> cases (t.all fun j => !hasC ahead j.a) <;> cases (t.all fun j => decide (i.a ≠ j.a)) <;> rfl
theorem con_seq (l : List Inf) : (decide (0 + 1 ≤ l.length) && allB l.length (conAt [] l)) = seqOk l [67] := by
  rw [con_all, Nat.zero_add, ← not_empty]
  have e : (l.all fun j => !hasC [] j.a) = true := by
    rw [List.all_eq_true]
    intro j _
    have : hasC [] j.a = false := by
      rw [Bool.eq_false_iff]
      intro h
      unfold hasC at h
      rw [has_SxC] at h
      cases h
    rw [this]
    rfl
  rw [e, Bool.and_true]
  cases l <;> rfl
def namesC (f : Fr) (i : Nat) : List ByteArray := ((IF f).take i).map (·.a)
theorem namesC_next {f : Fr} {i : Nat} {t : Tr} (h : f.get i = some t) : namesC f (i + 1) = namesC f i ++ [t.1.a] := by
  unfold namesC
  have hg : (IF f)[i]? = some (IT t) := by rw [infF_get, h]; rfl
  rw [List.take_add_one, hg, List.map_append]
  rfl
theorem namesC_len (f : Fr) (i : Nat) : (namesC f i).length ≤ f.len := by
  unfold namesC
  rw [List.length_map, List.length_take, infF_len]
  omega
theorem conAt_B {f : Fr} {i : Nat} {t : Tr} (h : f.get i = some t) : conAt [] (IF f) i = conB (namesC f i) t := by
  have hg : (IF f)[i]? = some (IT t) := by rw [infF_get, h]; rfl
  unfold conAt
  rw [hg]
  rfl
set_option maxHeartbeats 3200000 in
set_option maxRecDepth 100000 in
theorem pcons_any (x : Nod) (f : Fr) (w : World) (v : Value) (hx : B.Nx w) (hv : HasT w v (some (x, f))) (hs : okST (x, f)) (hf : f.len ≤ 100000)
    (hI : ∀ (i : Nat) (t : Tr), f.get i = some t → t.2.len ≤ 100000 ∧ ∀ (j : Nat) (s : Tr), t.2.get j = some s → TelAt (fnC 1) (isT B.nck B.long s 1) s) :
    Calls Try.prog 59 #[v] w (TelB (seqOk (IF f) [67]) w) := by
  obtain ⟨q, p, rfl⟩ := InT.ptr hv
  obtain ⟨H, hH⟩ : ∃ H, w.heap.size = H := ⟨_, rfl⟩
  obtain ⟨W0, hW0⟩ : ∃ W0, (w.alloc (.map #[] 0)).alloc (.cells #[.map (some H)] 92) = W0 := ⟨_, rfl⟩
  have s1 : (w.alloc (.map #[] 0)).heap.size = H + 1 := by simp [hH]
  have b0 : Below w.heap.size w W0 := by rw [← hW0]; exact ((Below.refl w.heap.size w).alloc (Nat.le_refl _) _).alloc (by omega) _
  have hs0 : W0.heap.size = H + 2 := by rw [← hW0]; simp [hH]
  have st0 : StC W0 (H + 1) H [] := by
    refine ⟨?_, by omega, ?_⟩
    · rw [← hW0, ← s1]; exact heap_alloc_new _ _
    · have hm : (w.alloc (.map #[] 0)).ownsMap Try.prog 9 (unitElem (H := Unit)) w.heap.size 0 (.map []) := World.ownsMap_made _ _ _ _
      rw [hH] at hm
      rw [← hW0]
      exact map_belowC hm ((Below.refl _ _).alloc (Nat.le_refl _) _)
  have cR := prow_any w W0 (.pointer (some ⟨q, p, none⟩)) x f hv b0 hf 1 (by omega) (74, #[.pointer (some ⟨H + 1, 0, none⟩)]) none 0 [] (by decide) (.inl ⟨rfl, rfl⟩) (some H) (fun m hm => by injection hm with hm; omega)
    (conAt [] (IF f)) (fun i w' => StC w' (H + 1) H (namesC f i)) (fun w' hb => st0.below hb)
    (fun i t kv w' k cap h1 h2 h3 h4 h5 => by
      rw [List.nil_append, List.getElem?_replicate] at h2
      split at h2
      · injection h2 with h2
        injection h2 with h6 h7
        subst h6; subst h7
        refine ⟨fun _ _ => by kernel_rfl, (con_any w w' t.1 t.2 (namesC f i) kv (H + 1) H hx h3 h4 (by omega) h5 (okS_get hs.2.2 h1) (by have := namesC_len f i; omega) (hI i t h1).1 (fun j s hj => (hI i t h1).2 j s hj)).mono fun e w'' h => ?_⟩
        rw [conAt_B h1, namesC_next h1]
        exact ⟨h.1, fun _ => h.2⟩
      · cases h2)
  rw [← infF_len (nk := B.nck) (lg := B.long), List.length_nil, con_seq] at cR
  obtain ⟨b, hb⟩ : ∃ b, seqOk (IF f) [67] = b := ⟨_, rfl⟩
  rw [hb] at cR ⊢
  have B0 := Lib.hid b0
  have hmm : (Instr.makeMap 92 none).run Try.prog w = .ok (.map (some H)) (w.alloc (.map #[] 0)) := by rw [← hH]; kernel_rfl
  have HH := Lib.hid hH
  have HW := Lib.hid hW0
  clear hv hs hI b0 st0 hs0 hb hH hW0
  go_enter Try.func59, Try.ntmps59
  go_wp2_with fail
  rw [HW.out]
  refine cR.mono ?_
  rintro e w1 ⟨rfl, g1⟩
  go_wp2_with fail
  go_ret
  exact tel_ret rfl (B0.out.grown g1 B0.out.size fun g hg => by injection hg with hg; rw [← hg, HH.out]; exact Nat.le_refl _)
end Go.Proofs.Ytoejegndbcbkmaa
/-
  Layer 5: what is known of a node's kids when the program's checks are asked of it.
-/
namespace Go.Proofs.Ytoejegndbcbkmaa
open Go.RowKit

def inM (i : Inf) : Bool := !decide (i.k = 74) && !decide (i.k = 75) && i.is 6
/-- What all checks tell of a tree. -/
structure Good (t : Tr) : Prop where
  a1 : TelAt 37 (isT B.nck B.long t 1) t
  a2 : TelAt 30 (isT B.nck B.long t 2) t
  a3 : TelAt 38 (isT B.nck B.long t 3) t
  a4 : TelAt 39 (isT B.nck B.long t 4) t
  a5 : TelAt 40 (isT B.nck B.long t 5) t
  a6 : TelAt 41 (isT B.nck B.long t 6) t
  a9 : TelAt 55 (isT B.nck B.long t 9) t
  am : TelAt 60 (inM (IT t)) t
  ln : t.2.len ≤ 100000
  kk : ∀ (j : Nat) (s : Tr), t.2.get j = some s → TelAt (fnC 1) (isT B.nck B.long s 1) s
structure Nd1 (x : Nod) (f : Fr) : Prop where
  hs : okST (x, f)
  hf : f.len ≤ 100000
  ih : ∀ (i : Nat) (t : Tr), f.get i = some t → Good t
theorem good_C {t : Tr} (h : Good t) {c : Int} (hc : c = 1 ∨ c = 2 ∨ c = 3 ∨ c = 4) : TelAt (fnC c) (isT B.nck B.long t c) t := by
  rcases hc with rfl | rfl | rfl | rfl
  · exact h.a1
  · exact h.a2
  · exact h.a3
  · exact h.a4
theorem good_kids {x : Nod} {f : Fr} {cs : List Int} (h : Nd1 x f) (hcs : ∀ c ∈ cs, c = 1 ∨ c = 2 ∨ c = 3 ∨ c = 4) : ∀ (i : Nat) (t : Tr) (c : Int), f.get i = some t → c ∈ cs → TelAt (fnC c) (isT B.nck B.long t c) t := fun i t c hi hc => good_C (h.ih i t hi) (hcs c hc)
theorem rds_lit {w : World} {H : Nat} {ty : TypeId} (cs : List Int) (hg : w.heap[H]? = some (.cells ((fnsC cs).map fnV).toArray ty (0, 0))) : Rds w (.slice (some ⟨H, 0, none⟩) cs.length cs.length) ((fnsC cs).map fnV) := by
  refine .inr ⟨H, 0, cs.length, by rw [List.length_map, fnsC_len], heap_lt hg, fun j u hj => ?_⟩
  rw [Nat.zero_add, cell_of_row w H j _ _ _ hg, List.getElem?_toArray]
  exact hj
theorem star_105 (l : List Inf) : seqOk l [42, 105] = rowB [] 0 inM l := by
  rw [rowB_star]
  have h : seqOk l [42, 105] = (l.all fun i => i.is 6 && !(true && (decide (i.k = 74) || decide (i.k = 75)))) := by cases l <;> rfl
  rw [h]
  congr 1
  funext i
  unfold inM
  cases i.is 6 <;> cases decide (i.k = 74) <;> cases decide (i.k = 75) <;> rfl
theorem star_112 (l : List Inf) : seqOk l [42, 112] = rowB [] 0 (fun i => i.is 5) l := by
  rw [rowB_star]
  have h : seqOk l [42, 112] = (l.all fun i => i.is 5 && !(false && (decide (i.k = 74) || decide (i.k = 75)))) := by cases l <;> rfl
  rw [h]
  congr 1
  funext i
  cases i.is 5 <;> rfl
theorem star_100 (l : List Inf) : seqOk l [42, 100] = rowB [] 0 (fun i => i.is 6) l := by
  rw [rowB_star]
  have h : seqOk l [42, 100] = (l.all fun i => i.is 6 && !(false && (decide (i.k = 74) || decide (i.k = 75)))) := by cases l <;> rfl
  rw [h]
  congr 1
  funext i
  cases i.is 6 <;> rfl
end Go.Proofs.Ytoejegndbcbkmaa
