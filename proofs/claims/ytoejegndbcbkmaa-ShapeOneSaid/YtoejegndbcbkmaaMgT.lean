/-
  What every row of layer 5 wants: a world to begin with; what the one variable of the library holds: a number, whatever.
-/
import Derived.Test.YtoejegndbcbkmaaShelf
import Derived.Test.YtoejegndbcbkmaaMgD
import Derived.Test.YtoejegndbcbkmaaArUM
import Derived.Test.YtoejegndbcbkmaaAop
import Derived.Test.YtoejegndbcbkmaaMgP
import Derived.Test.YtoejegndbcbkmaaMgS
import Derived.Test.YtoejegndbcbkmaaSpq
import Derived.Deep.DeepHandedRow
import Derived.Deep.DeepWitnessRowRef
import Derived.LaidLaws
import Derived.Lib.LaidIn
import Derived.MakeChecks
import Derived.OpenShut
import Derived.ProofKit
import Derived.SizedLaws
namespace Go.Proofs.Ytoejegndbcbkmaa
open Go.ChangeShapes Go.WideShapes Go.ChangeAt Go.RowKit Go.Lib

theorem ownKnobNone : ownKnob Try.prog.godebug = none := by kernel_rfl
noncomputable def laidWorld (os : Os) : World := World.holding Try.prog os ⟨#[], #[], []⟩
theorem nx_open {W : World} (hsh : W.ShapedOpen Try.prog) : B.Nx W := ⟨trivial, Try.laysM145.s1_3 W hsh⟩
end Go.Proofs.Ytoejegndbcbkmaa
/-
  Layer 5: the program's seven calls tell what the table says, of each tree; and ErrNil of a node that has a nil in it.
-/
namespace Go.Proofs.Ytoejegndbcbkmaa
open Go.RowKit

/-- The measure refuses: a nil, or too many nodes. -/
def MrPost (gp : Bool) (w : World) (e : Ending) (w' : World) : Prop := ∃ s d : Nat, e = .returned (.agg #[.int .i64 (s : Int), .int .i64 (d : Int), .bool gp]) ∧ s ≤ 100000 ∧ (gp = false → 8192 < s) ∧ Below w.heap.size w w'
def PnPost (z : Int) (w : World) (e : Ending) (w' : World) : Prop := e = .returned (.tuple #[.agg #[.slice none 0 0], .int .i64 z]) ∧ Up w w'
set_option maxHeartbeats 3200000 in
set_option maxRecDepth 100000 in
theorem pack_no (gp : Bool) (v : Value) (w : World) (cM : Calls Try.prog 36 #[v] (w.alloc (.cells #[.slice none 0 0] 24)) (MrPost gp (w.alloc (.cells #[.slice none 0 0] 24)))) :
    Calls Try.prog 48 #[v] w (PnPost (if gp then 1 else 3) w) := by
  have hb := (Below.refl w.heap.size w).alloc (Nat.le_refl _) (.cells #[.slice none 0 0] 24)
  have hs : (w.alloc (.cells #[.slice none 0 0] 24)).heap.size = w.heap.size + 1 := by simp
  have hbx : (w.alloc (.cells #[.slice none 0 0] 24)).heap[w.heap.size]? = some (.cells #[.slice none 0 0] 24 (0, 0)) := heap_alloc_new w _
  obtain ⟨H, hH⟩ : ∃ H, w.heap.size = H := ⟨_, rfl⟩
  rw [hH] at hb hs hbx
  have HS := Lib.hid hs
  have HB := Lib.hid hb
  have HBX := Lib.hid hbx
  have HH := Lib.hid hH
  clear hs hb hbx hH
  cases gp
  · go_enter Try.func48, Try.ntmps48
    go_wp2_with fail
    refine cM.mono ?_
    rintro e w1 ⟨S, D, rfl, hS, hg, hb1⟩
    rw [HS.out] at hb1
    have hbx1 := (hb1.block H (by omega)).trans HBX.out
    have cz := cell_of_row w1 H 0 _ _ _ hbx1
    have fz := frozen_of_row w1 H 0 _ _ hbx1
    have HB1 := Lib.hid hb1
    have HX1 := Lib.hid hbx1
    have hH1 := heap_lt hbx1
    have hzz : (8192 : Int) < (S : Int) := by have := hg rfl; omega
    clear hbx1 hb1 cM hg
    rw [HH.out]
    go_wp2_with fail
    have r0 : ((w1.setCell ⟨H, 0, none⟩ (.slice none 0 0)).alloc (.cells #[.int .i64 (S : Int), .int .i64 (D : Int), .bool false] 62)).cell? ⟨H, 0, none⟩ = some (.slice none 0 0) := cell_of_row _ H 0 _ _ _ (block_alloc _ (block_set _ HX1.out))
    have hbF : Below H w ((w1.setCell ⟨H, 0, none⟩ (.slice none 0 0)).alloc (.cells #[.int .i64 (S : Int), .int .i64 (D : Int), .bool false] 62)) :=
      Below.alloc (Below.setCell (HB.out.trans (HB1.out.mono (by omega))) (Nat.le_refl _) _) (by simp [World.setCell]; omega) _
    exact bodyPost_ret (v := .tuple #[.agg #[.slice none 0 0], .int .i64 3]) (by simp [results, Try.results48, go_sem, r0]) rfl ⟨rfl, by show Below w.heap.size _ _; rw [HH.out]; exact hbF⟩
  · go_enter Try.func48, Try.ntmps48
    go_wp2_with fail
    refine cM.mono ?_
    rintro e w1 ⟨S, D, rfl, hS, hg, hb1⟩
    rw [HS.out] at hb1
    have hbx1 := (hb1.block H (by omega)).trans HBX.out
    have cz := cell_of_row w1 H 0 _ _ _ hbx1
    have fz := frozen_of_row w1 H 0 _ _ hbx1
    have HB1 := Lib.hid hb1
    have HX1 := Lib.hid hbx1
    have hH1 := heap_lt hbx1
    clear hbx1 hb1 cM hg
    rw [HH.out]
    go_wp2_with fail
    have r0 : ((w1.setCell ⟨H, 0, none⟩ (.slice none 0 0)).alloc (.cells #[.int .i64 (S : Int), .int .i64 (D : Int), .bool true] 62)).cell? ⟨H, 0, none⟩ = some (.slice none 0 0) := cell_of_row _ H 0 _ _ _ (block_alloc _ (block_set _ HX1.out))
    have hbF : Below H w ((w1.setCell ⟨H, 0, none⟩ (.slice none 0 0)).alloc (.cells #[.int .i64 (S : Int), .int .i64 (D : Int), .bool true] 62)) :=
      Below.alloc (Below.setCell (HB.out.trans (HB1.out.mono (by omega))) (Nat.le_refl _) _) (by simp [World.setCell]; omega) _
    exact bodyPost_ret (v := .tuple #[.agg #[.slice none 0 0], .int .i64 1]) (by simp [results, Try.results48, go_sem, r0]) rfl ⟨rfl, by show Below w.heap.size _ _; rw [HH.out]; exact hbF⟩
theorem pack_nil (w : World) (v : Value) (hv : HasT w v none) : Calls Try.prog 48 #[v] w (PnPost 1 w) :=
  pack_no true v w ((measured_any none _ (fun q => q < (w.alloc (.cells #[.slice none 0 0] 24)).heap.size) v (fun _ h => h) (hv.up ((Up.refl w).alloc _)) (by show (0 : Nat) ≤ 65536; omega)).mono fun e w' h => ⟨0, 0, h.1, by omega, (fun h => by cases h), h.2⟩)
theorem pack_big (t : Tr) (w : World) (v : Value) (hv : HasT w v (some t)) (hz : szT t ≤ 60000) (hb : 8192 < szT t) : Calls Try.prog 48 #[v] w (PnPost 3 w) :=
  pack_no false v w ((measured_any (some t) _ (fun q => q < (w.alloc (.cells #[.slice none 0 0] 24)).heap.size) v (fun _ h => h) (hv.up ((Up.refl w).alloc _)) (by show szT t ≤ 65536; omega)).mono fun e w' h => ⟨szT t, dpO (some t), h.1, by omega, fun _ => hb, h.2⟩)
theorem Hole.up {W w : World} {v : Value} (h : Hole W v) (u : Up W w) : Hole w v := by
  obtain ⟨q, g, rfl, h1, h2⟩ := h
  exact ⟨q, g, rfl, u.row h1, u.row h2⟩
theorem pack_hole (w : World) (v : Value) (hv : Hole w v) : Calls Try.prog 48 #[v] w (PnPost 1 w) := by
  refine pack_no true v w ?_
  obtain ⟨q, g, rfl, h1, h2⟩ := hv.up ((Up.refl w).alloc (.cells #[.slice none 0 0] 24))
  exact (measured_hole _ q g _ _ _ _ h1 h2).mono fun e w' h => by
    obtain ⟨s, d, h3, h4, h5⟩ := h
    exact ⟨s, d, h3, by omega, (fun h => by cases h), h5⟩
set_option maxHeartbeats 1600000 in
set_option maxRecDepth 100000 in
theorem asked_no (k : FuncId) (z : Int) (hz : ¬ z = 0) (v : Value) (w : World) (cP : Calls Try.prog 48 #[v] w (PnPost z w)) : Calls Try.prog 29 #[v, .func (.func k) #[] #[]] w (InP z w) := by
  go_enter Try.func29, Try.ntmps29
  go_wp2_with fail
  refine cP.mono ?_
  rintro e w1 ⟨rfl, u1⟩
  go_wp2_with fail
  go_ret
  exact in_ret rfl (u1.alloc _)
set_option maxHeartbeats 3200000 in
set_option maxRecDepth 100000 in
theorem asked_ok (k : FuncId) (ek : Ent k) (t : Tr) (b : Bool) (v : Value) (w : World) (hx : B.Nx w) (hv : HasT w v (some t)) (hz : szT t ≤ 8192) (cT : TelAt k b t) :
    Calls Try.prog 29 #[v, .func (.func k) #[] #[]] w (InP (if 60 < dpT t then 7 else if b then 0 else 16) w) := by
  have cP := uPack t hv hz (Up.refl w)
  have cD : ∀ w', Up w w' → Calls Try.prog 19 #[v] w' (NuP (dpT t) w) := fun w' u => uDeep (some t) hv (by show szT t ≤ 65536; omega) u
  have cK : ∀ w', Up w w' → Calls Try.prog k #[v] w' (TelB b w') := fun w' u => cT w' v (Nx.up hx u) (hv.up u)
  obtain ⟨D, hD⟩ : ∃ D, dpT t = D := ⟨_, rfl⟩
  rw [hD] at cD ⊢
  clear hx hv hz cT hD
  by_cases hd : 60 < D
  · have hd' : (60 : Int) < (D : Int) := by omega
    rw [if_pos hd]
    go_enter Try.func29, Try.ntmps29
    go_wp2_with fail
    refine cP.mono ?_
    rintro e w1 ⟨v', rfl, hcl, u1⟩
    obtain ⟨A6, C6, rfl, -⟩ := id hcl
    clear hcl cP cK
    go_wp2_with fail
    refine (cD _ (u1.alloc _)).mono ?_
    rintro e w2 ⟨rfl, u2⟩
    go_wp2_with fail
    go_ret
    exact in_ret rfl u2
  · have hd' : ¬ (60 : Int) < (D : Int) := by omega
    rw [if_neg hd]
    cases b
    all_goals
      go_enter Try.func29, Try.ntmps29
      go_wp2_with fail
      refine cP.mono ?_
      rintro e w1 ⟨v', rfl, hcl, u1⟩
      obtain ⟨A6, C6, rfl, -⟩ := id hcl
      clear hcl cP
      go_wp2_with fail
      refine (cD _ (u1.alloc _)).mono ?_
      rintro e w2 ⟨rfl, u2⟩
      go_wp2_with fail
      rw [ek, Oper.upon_enter]
      refine (cK _ u2).mono ?_
      rintro e w3 ⟨rfl, u3⟩
      go_wp2_with fail
      go_ret
      exact in_ret rfl (u2.trans u3)
theorem in_up {z : Int} {W w : World} {P : Program} {k : FuncId} {args : Array Value} (u : Up W w) (h : Calls P k args w (InP z w)) : Calls P k args w (InP z W) := h.mono fun _ _ h => ⟨h.1, u.trans h.2⟩
theorem asked_any (k : FuncId) (ek : Ent k) (c : Int) (cT : ∀ t, szT t ≤ 60000 → okST t → TelAt k (isT B.nck B.long t c) t) (o : Option Tr) (hz : szO o ≤ 60000) (hs : okSO o) (W w : World) (v : Value) (hx : B.Nx W) (hv : HasT W v o) (hu : Up W w) :
    Calls Try.prog 29 #[v, .func (.func k) #[] #[]] w (InP (chk B.nck B.long o c) W) := by
  refine in_up hu ?_
  have hv' := hv.up hu
  have hx' := Nx.up hx hu
  cases o with
  | none => exact asked_no k 1 (by omega) v w (pack_nil w v hv')
  | some t =>
    have hz' : szT t ≤ 60000 := hz
    unfold chk
    simp only
    by_cases hb : 8192 < szT t
    · rw [if_pos hb]
      exact asked_no k 3 (by omega) v w (pack_big t w v hv' hz' hb)
    · rw [if_neg hb]
      exact asked_ok k ek t _ v w hx' hv' (by omega) (cT t hz' (hs t rfl))
theorem callType {z : Int} {W w : World} {v : Value} (h : Calls Try.prog 29 #[v, .func (.func 37) #[] #[]] w (InP z W)) : Calls Try.prog 21 #[v] w (InP z W) := by
  go_enter Try.func21, Try.ntmps21
  go_wp2_with fail
  refine h.mono ?_
  rintro e w1 ⟨rfl, u1⟩
  go_wp2_with fail
  go_ret
  exact in_ret rfl u1
theorem shpType : ShpAt 21 1 := fun o hz hs W w v hx hv hu => callType (asked_any 37 (fun _ _ => by kernel_rfl) 1 (fun t h hs => (nd_all _ t (Nat.le_refl _) h hs).1.a1) o hz hs W w v hx hv hu)
theorem holType : HolAt 21 := fun W w v _ hv hu => callType (in_up hu (asked_no 37 1 (by omega) v w (pack_hole w v (hv.up hu))))
theorem callExpr {z : Int} {W w : World} {v : Value} (h : Calls Try.prog 29 #[v, .func (.func 30) #[] #[]] w (InP z W)) : Calls Try.prog 13 #[v] w (InP z W) := by
  go_enter Try.func13, Try.ntmps13
  go_wp2_with fail
  refine h.mono ?_
  rintro e w1 ⟨rfl, u1⟩
  go_wp2_with fail
  go_ret
  exact in_ret rfl u1
theorem shpExpr : ShpAt 13 2 := fun o hz hs W w v hx hv hu => callExpr (asked_any 30 (fun _ _ => by kernel_rfl) 2 (fun t h hs => (nd_all _ t (Nat.le_refl _) h hs).1.a2) o hz hs W w v hx hv hu)
theorem holExpr : HolAt 13 := fun W w v _ hv hu => callExpr (in_up hu (asked_no 30 1 (by omega) v w (pack_hole w v (hv.up hu))))
theorem callMod {z : Int} {W w : World} {v : Value} (h : Calls Try.prog 29 #[v, .func (.func 38) #[] #[]] w (InP z W)) : Calls Try.prog 22 #[v] w (InP z W) := by
  go_enter Try.func22, Try.ntmps22
  go_wp2_with fail
  refine h.mono ?_
  rintro e w1 ⟨rfl, u1⟩
  go_wp2_with fail
  go_ret
  exact in_ret rfl u1
theorem shpMod : ShpAt 22 3 := fun o hz hs W w v hx hv hu => callMod (asked_any 38 (fun _ _ => by kernel_rfl) 3 (fun t h hs => (nd_all _ t (Nat.le_refl _) h hs).1.a3) o hz hs W w v hx hv hu)
theorem holMod : HolAt 22 := fun W w v _ hv hu => callMod (in_up hu (asked_no 38 1 (by omega) v w (pack_hole w v (hv.up hu))))
theorem callSig {z : Int} {W w : World} {v : Value} (h : Calls Try.prog 29 #[v, .func (.func 39) #[] #[]] w (InP z W)) : Calls Try.prog 23 #[v] w (InP z W) := by
  go_enter Try.func23, Try.ntmps23
  go_wp2_with fail
  refine h.mono ?_
  rintro e w1 ⟨rfl, u1⟩
  go_wp2_with fail
  go_ret
  exact in_ret rfl u1
theorem shpSig : ShpAt 23 4 := fun o hz hs W w v hx hv hu => callSig (asked_any 39 (fun _ _ => by kernel_rfl) 4 (fun t h hs => (nd_all _ t (Nat.le_refl _) h hs).1.a4) o hz hs W w v hx hv hu)
theorem holSig : HolAt 23 := fun W w v _ hv hu => callSig (in_up hu (asked_no 39 1 (by omega) v w (pack_hole w v (hv.up hu))))
theorem callSpec {z : Int} {W w : World} {v : Value} (h : Calls Try.prog 29 #[v, .func (.func 40) #[] #[]] w (InP z W)) : Calls Try.prog 24 #[v] w (InP z W) := by
  go_enter Try.func24, Try.ntmps24
  go_wp2_with fail
  refine h.mono ?_
  rintro e w1 ⟨rfl, u1⟩
  go_wp2_with fail
  go_ret
  exact in_ret rfl u1
theorem shpSpec : ShpAt 24 5 := fun o hz hs W w v hx hv hu => callSpec (asked_any 40 (fun _ _ => by kernel_rfl) 5 (fun t h hs => (nd_all _ t (Nat.le_refl _) h hs).1.a5) o hz hs W w v hx hv hu)
theorem holSpec : HolAt 24 := fun W w v _ hv hu => callSpec (in_up hu (asked_no 40 1 (by omega) v w (pack_hole w v (hv.up hu))))
theorem callDecl {z : Int} {W w : World} {v : Value} (h : Calls Try.prog 29 #[v, .func (.func 41) #[] #[]] w (InP z W)) : Calls Try.prog 25 #[v] w (InP z W) := by
  go_enter Try.func25, Try.ntmps25
  go_wp2_with fail
  refine h.mono ?_
  rintro e w1 ⟨rfl, u1⟩
  go_wp2_with fail
  go_ret
  exact in_ret rfl u1
theorem shpDecl : ShpAt 25 6 := fun o hz hs W w v hx hv hu => callDecl (asked_any 41 (fun _ _ => by kernel_rfl) 6 (fun t h hs => (nd_all _ t (Nat.le_refl _) h hs).1.a6) o hz hs W w v hx hv hu)
theorem holDecl : HolAt 25 := fun W w v _ hv hu => callDecl (in_up hu (asked_no 41 1 (by omega) v w (pack_hole w v (hv.up hu))))
theorem callProg {z : Int} {W w : World} {v : Value} (h : Calls Try.prog 29 #[v, .func (.func 31) #[] #[]] w (InP z W)) : Calls Try.prog 14 #[v] w (InP z W) := by
  go_enter Try.func14, Try.ntmps14
  go_wp2_with fail
  refine h.mono ?_
  rintro e w1 ⟨rfl, u1⟩
  go_wp2_with fail
  go_ret
  exact in_ret rfl u1
theorem shpProg : ShpAt 14 7 := fun o hz hs W w v hx hv hu => callProg (asked_any 31 (fun _ _ => by kernel_rfl) 7 (fun t h hs => isProg_any t.1 t.2 (nd_all _ t (Nat.le_refl _) h hs).2) o hz hs W w v hx hv hu)
theorem holProg : HolAt 14 := fun W w v _ hv hu => callProg (in_up hu (asked_no 31 1 (by omega) v w (pack_hole w v (hv.up hu))))
theorem shp : ShpAll := ⟨shpType, shpExpr, shpMod, shpSig, shpSpec, shpDecl, shpProg⟩
theorem hol : HolAll := ⟨holType, holExpr, holMod, holSig, holSpec, holDecl, holProg⟩
end Go.Proofs.Ytoejegndbcbkmaa
