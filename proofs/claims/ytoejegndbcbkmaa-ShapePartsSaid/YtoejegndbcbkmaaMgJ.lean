/-
  The document's Check: what it tells of a tree, or of none.
-/
import Derived.Test.YtoejegndbcbkmaaRtL
import Derived.Test.YtoejegndbcbkmaaShnM
namespace Go.Proofs.Ytoejegndbcbkmaa
open Go.RowKit

theorem is_all : ∀ n, n ≤ 1000000 → IsAt B.nck B.long n
  | 0, _ => fun t h => absurd h (by unfold szT; omega)
  | n + 1, h => is_step n (by omega) (is_all n (by omega))
def pkE (o : Option Tr) : Int := match o with
  | none => 1
  | some t => if 8192 < szT t then 3 else 0
def PkE (z : Int) (W : World) (e : Ending) (w' : World) : Prop := ∃ (A : Option Addr) (l k : Nat), e = .returned (.tuple #[.agg #[.slice A l k], .int .i64 z]) ∧ Up W w'
set_option maxHeartbeats 1600000 in
set_option maxRecDepth 100000 in
theorem pack_none (W w : World) (hu : Up W w) : Calls Try.prog 26 #[.pointer none] w (PkE 1 W) := by
  have hc : ∀ w, Calls Try.prog 42 #[.pointer none] w fun e w' => e = .returned (.bool true) ∧ w = w' := by
    intro w
    go_enter Try.func42, Try.ntmps42
    go_wp2_with fail
    go_ret
    exact ⟨rfl, rfl⟩
  have hb : Up W (w.alloc (.cells #[.slice none 0 0] 24)) := hu.alloc _
  have hk : (w.alloc (.cells #[.slice none 0 0] 24)).cell? ⟨w.heap.size, 0, none⟩ = some (.slice none 0 0) := cell_of_row _ w.heap.size 0 _ _ _ (heap_alloc_new w _)
  have hf : (w.alloc (.cells #[.slice none 0 0] 24)).frozen? ⟨w.heap.size, 0, none⟩ = false := frozen_of_row _ w.heap.size 0 _ _ (heap_alloc_new w _)
  go_enter Try.func26, Try.ntmps26
  go_wp2_with fail
  refine (hc _).mono ?_
  rintro e w1 ⟨rfl, rfl⟩
  go_wp2_with fail
  exact bodyPost_ret (v := .tuple #[.agg #[.slice none 0 0], .int .i64 1]) (by simp [results, Try.results26, go_sem, hk]) rfl ⟨_, _, _, rfl, hb⟩
set_option maxHeartbeats 1600000 in
set_option maxRecDepth 100000 in
theorem pack_long (t : Tr) (hl : 8192 < szT t) (hz : szT t ≤ 1000000) (W w : World) (v : Value) (hv : HasT W v (some t)) (hu : Up W w) : Calls Try.prog 26 #[v] w (PkE 3 W) := by
  have hb : Up W (w.alloc (.cells #[.slice none 0 0] 24)) := hu.alloc _
  have hk : (w.alloc (.cells #[.slice none 0 0] 24)).cell? ⟨w.heap.size, 0, none⟩ = some (.slice none 0 0) := cell_of_row _ w.heap.size 0 _ _ _ (heap_alloc_new w _)
  have hf : (w.alloc (.cells #[.slice none 0 0] 24)).frozen? ⟨w.heap.size, 0, none⟩ = false := frozen_of_row _ w.heap.size 0 _ _ (heap_alloc_new w _)
  have c1 := refHole (szT t) t (Nat.le_refl _) (by omega) _ _ v (hv.up hb)
  have c2 := refSize (szT t) t (Nat.le_refl _) (by omega) _ _ v (hv.up hb)
  obtain ⟨Z, hZ⟩ : ∃ Z, szT t = Z := ⟨_, rfl⟩
  rw [hZ] at c2 hl
  have hz1 : (8192 : Int) < (Z : Int) := by omega
  clear hv hZ
  go_enter Try.func26, Try.ntmps26
  go_wp2_with fail
  refine c1.mono ?_
  rintro e w1 ⟨rfl, rfl⟩
  go_wp2_with fail
  refine c2.mono ?_
  rintro e w1 ⟨rfl, rfl⟩
  go_wp2_with fail
  exact bodyPost_ret (v := .tuple #[.agg #[.slice none 0 0], .int .i64 3]) (by simp [results, Try.results26, go_sem, hk]) rfl ⟨_, _, _, rfl, hb⟩
theorem pack_any (o : Option Tr) (hz : szO o ≤ 60000) (W w : World) (v : Value) (hv : HasT W v o) (hu : Up W w) : Calls Try.prog 26 #[v] w (PkE (pkE o) W) := by
  cases o with
  | none =>
    obtain rfl : v = .pointer none := hv
    exact pack_none W w hu
  | some t =>
    have hz : szT t ≤ 60000 := hz
    by_cases h : 8192 < szT t
    · have : pkE (some t) = 3 := if_pos h
      rw [this]
      exact pack_long t h (by omega) W w v hv hu
    · have : pkE (some t) = 0 := if_neg h
      rw [this]
      refine (refPack t (by omega) w _ v HasT.bel (hv.up hu)).mono ?_
      rintro e w' ⟨u, rfl, ⟨A, k, rfl, -, -⟩, hb⟩
      exact ⟨A, _, k, rfl, hu.of hb⟩
def okSO (o : Option Tr) : Prop := ∀ t, o = some t → okST t
def InP (z : Int) (W : World) (e : Ending) (w' : World) : Prop := e = .returned (.int .i64 z) ∧ Up W w'
theorem in_ret {a b : Int} {W w' : World} (h : a = b) (u : Up W w') : InP a W (.returned (.int .i64 b)) w' := ⟨by rw [h], u⟩
set_option maxHeartbeats 1600000 in
set_option maxRecDepth 100000 in
theorem check_any (o : Option Tr) (c : Int) (hz : szO o ≤ 60000) (hs : okSO o) (W w : World) (v : Value) (hv : HasT W v o) (hu : Up W w) :
    Calls Try.prog 11 #[v, .int .i64 c] w (InP (chk B.nck B.long o c) W) := by
  have cP := pack_any o hz W w v hv hu
  have HV := Lib.hid hv
  have HZ := Lib.hid hz
  have HS := Lib.hid hs
  cases o with
  | none =>
    have hp : pkE none = 1 := rfl
    rw [hp] at cP
    have HE : Hid (chk B.nck B.long none c = 1) := Lib.hid rfl
    clear hv hz hs hp
    go_enter Try.func11, Try.ntmps11
    go_wp2_with fail
    refine cP.mono ?_
    rintro e w1 ⟨A1, l1, k1, rfl, u1⟩
    go_wp2_with fail
    go_ret
    exact in_ret HE.out (u1.alloc _)
  | some t =>
    by_cases hl : 8192 < szT t
    · have hp : pkE (some t) = 3 := if_pos hl
      rw [hp] at cP
      have HE : Hid (chk B.nck B.long (some t) c = 3) := Lib.hid (if_pos hl)
      clear hv hz hs hp hl
      go_enter Try.func11, Try.ntmps11
      go_wp2_with fail
      refine cP.mono ?_
      rintro e w1 ⟨A1, l1, k1, rfl, u1⟩
      go_wp2_with fail
      go_ret
      exact in_ret HE.out (u1.alloc _)
    · have hp : pkE (some t) = 0 := if_neg hl
      rw [hp] at cP
      have hz : szT t ≤ 60000 := hz
      have cD := fun w' (h : Up W w') => refDeep (szT t) t (Nat.le_refl _) (by omega) w' _ v (hv.up h)
      have cI := fun w' (h : Up W w') => is_all (szT t) (by omega) t (Nat.le_refl _) (hs t rfl) c W w' v hv h
      have hdc : chk B.nck B.long (some t) c = if 60 < dpT t then 7 else if isT B.nck B.long t c then 0 else 16 := if_neg hl
      obtain ⟨D, hD⟩ : ∃ D, dpT t = D := ⟨_, rfl⟩
      obtain ⟨b, hb⟩ : ∃ b, isT B.nck B.long t c = b := ⟨_, rfl⟩
      rw [hD] at cD hdc
      rw [hb] at cI hdc
      have CD := Lib.hid cD
      have CI := Lib.hid cI
      by_cases hd : 60 < D
      · rw [if_pos hd] at hdc
        have HE := Lib.hid hdc
        have hd1 : (60 : Int) < (D : Int) := by omega
        clear hv hz hs hp hl hdc hb hD hd cD cI
        go_enter Try.func11, Try.ntmps11
        go_wp2_with fail
        refine cP.mono ?_
        rintro e w1 ⟨A1, l1, k1, rfl, u1⟩
        have U1 := Lib.hid (u1.alloc (.cells #[.slice A1 l1 k1] 24))
        clear u1
        go_wp2_with fail
        refine (CD.out _ U1.out).mono ?_
        rintro e w2 ⟨rfl, rfl⟩
        go_wp2_with fail
        go_ret
        exact in_ret HE.out U1.out
      · rw [if_neg hd] at hdc
        have hd1 : ¬ (60 : Int) < (D : Int) := by omega
        cases b
        all_goals
          have HE := Lib.hid hdc
          clear hv hz hs hp hl hdc hb hD hd cD cI
          go_enter Try.func11, Try.ntmps11
          go_wp2_with fail
          refine cP.mono ?_
          rintro e w1 ⟨A1, l1, k1, rfl, u1⟩
          have U1 := Lib.hid (u1.alloc (.cells #[.slice A1 l1 k1] 24))
          clear u1
          go_wp2_with fail
          refine (CD.out _ U1.out).mono ?_
          rintro e w2 ⟨rfl, rfl⟩
          go_wp2_with fail
          refine (CI.out _ U1.out).mono ?_
          rintro e w2 ⟨rfl, u2⟩
          go_wp2_with fail
          go_ret
          exact in_ret HE.out u2
end Go.Proofs.Ytoejegndbcbkmaa
/-
  The laws of layer 5: what is asked of the program's calls; all, works.
-/
namespace Go.Proofs.Ytoejegndbcbkmaa
open Go.RowKit

/-- What is asked of one of the program's calls: it tells of each tree what the table says. -/
def ShpAt (f : FuncId) (c : Int) : Prop := ∀ (o : Option Tr), szO o ≤ 60000 → okSO o → ∀ (W w : World) (v : Value), B.Nx W → HasT W v o → Up W w → Calls Try.prog f #[v] w (InP (chk B.nck B.long o c) W)
structure ShpAll : Prop where
  h1 : ShpAt 21 1
  h2 : ShpAt 13 2
  h3 : ShpAt 22 3
  h4 : ShpAt 23 4
  h5 : ShpAt 24 5
  h6 : ShpAt 25 6
  h7 : ShpAt 14 7
theorem Nx.up {W w : World} (h : B.Nx W) (u : Up W w) : B.Nx w := B.Nx.below h u
/-- Seven answers. -/
def AllP (F : Int → Int) (W : World) (e : Ending) (w' : World) : Prop := ∃ g, e = .returned (.slice (some ⟨g, 0, none⟩) 7 7) ∧ (∀ j : Nat, j < 7 → w'.cell? ⟨g, j, none⟩ = some (.int .i64 (F ((j : Int) + 1)))) ∧ Up W w'
set_option maxHeartbeats 3200000 in
set_option maxRecDepth 100000 in
theorem all_gen (F : Int → Int) (W w : World) (v : Value) (c1 : ∀ w', Up W w' → Calls Try.prog 21 #[v] w' (InP (F 1) W)) (c2 : ∀ w', Up W w' → Calls Try.prog 13 #[v] w' (InP (F 2) W)) (c3 : ∀ w', Up W w' → Calls Try.prog 22 #[v] w' (InP (F 3) W))
    (c4 : ∀ w', Up W w' → Calls Try.prog 23 #[v] w' (InP (F 4) W)) (c5 : ∀ w', Up W w' → Calls Try.prog 24 #[v] w' (InP (F 5) W)) (c6 : ∀ w', Up W w' → Calls Try.prog 25 #[v] w' (InP (F 6) W)) (c7 : ∀ w', Up W w' → Calls Try.prog 14 #[v] w' (InP (F 7) W)) (hu : Up W w) :
    Calls Try.prog 10 #[v] w (AllP F W) := by
  go_enter Try.func10, Try.ntmps10
  go_wp2_with fail
  refine (c1 _ hu).mono ?_
  rintro e w1 ⟨rfl, u1⟩
  go_wp2_with fail
  refine (c2 _ u1).mono ?_
  rintro e w2 ⟨rfl, u2⟩
  go_wp2_with fail
  refine (c3 _ u2).mono ?_
  rintro e w3 ⟨rfl, u3⟩
  go_wp2_with fail
  refine (c4 _ u3).mono ?_
  rintro e w4 ⟨rfl, u4⟩
  go_wp2_with fail
  refine (c5 _ u4).mono ?_
  rintro e w5 ⟨rfl, u5⟩
  go_wp2_with fail
  refine (c6 _ u5).mono ?_
  rintro e w6 ⟨rfl, u6⟩
  go_wp2_with fail
  refine (c7 _ u6).mono ?_
  rintro e w7 ⟨rfl, u7⟩
  clear c1 c2 c3 c4 c5 c6 c7
  go_wp2_with fail
  go_ret
  refine ⟨w7.heap.size, rfl, fun j hj => ?_, u7.alloc _⟩
  match j, hj with
  | 0, _ => exact cell_of_row _ w7.heap.size 0 _ _ _ (heap_alloc_new w7 _)
  | 1, _ => exact cell_of_row _ w7.heap.size 1 _ _ _ (heap_alloc_new w7 _)
  | 2, _ => exact cell_of_row _ w7.heap.size 2 _ _ _ (heap_alloc_new w7 _)
  | 3, _ => exact cell_of_row _ w7.heap.size 3 _ _ _ (heap_alloc_new w7 _)
  | 4, _ => exact cell_of_row _ w7.heap.size 4 _ _ _ (heap_alloc_new w7 _)
  | 5, _ => exact cell_of_row _ w7.heap.size 5 _ _ _ (heap_alloc_new w7 _)
  | 6, _ => exact cell_of_row _ w7.heap.size 6 _ _ _ (heap_alloc_new w7 _)

theorem all_any (S : ShpAll) (o : Option Tr) (hz : szO o ≤ 60000) (hs : okSO o) (W w : World) (v : Value) (hx : B.Nx W) (hv : HasT W v o) (hu : Up W w) :
    Calls Try.prog 10 #[v] w (AllP (chk B.nck B.long o) W) :=
  all_gen _ W w v (fun w' h => S.h1 o hz hs W w' v hx hv h) (fun w' h => S.h2 o hz hs W w' v hx hv h) (fun w' h => S.h3 o hz hs W w' v hx hv h) (fun w' h => S.h4 o hz hs W w' v hx hv h) (fun w' h => S.h5 o hz hs W w' v hx hv h) (fun w' h => S.h6 o hz hs W w' v hx hv h) (fun w' h => S.h7 o hz hs W w' v hx hv h) hu

/-! ### works -/
def emp5 : ByteArray := ⟨#[]⟩
/-- A node in a block of its own, over a row of pointers in another one. -/
theorem node5 {w : World} {S : Nat → Prop} {b g n c : Nat} {x : Nod} {f : Fr} (h : w.heap[b]? = some (.cells #[.int .i64 x.k, .int .i64 x.n, .string x.a, .string x.m, .slice (some ⟨g, 0, none⟩) n c] 37 (0, 0))) (hn : f.len = n) (hc : n ≤ c) (hS : S b) (hg : S g) (hf : InF w S f g 0) : InT w S (.pointer (some ⟨b, 0, none⟩)) (x, f) := by
  subst hn
  exact ⟨b, 0, some ⟨g, 0, none⟩, c, rfl, hS, ⟨_, _, h⟩, cell_of_row w b 0 _ _ _ h, cell_of_row w b 1 _ _ _ h, cell_of_row w b 2 _ _ _ h, cell_of_row w b 3 _ _ _ h, cell_of_row w b 4 _ _ _ h, hc, fun _ => ⟨g, 0, rfl, hg, hf⟩⟩
theorem leaf5 {w : World} {S : Nat → Prop} {b : Nat} {x : Nod} (h : w.heap[b]? = some (.cells #[.int .i64 x.k, .int .i64 x.n, .string x.a, .string x.m, .slice none 0 0] 37 (0, 0))) (hS : S b) : InT w S (.pointer (some ⟨b, 0, none⟩)) (x, .nil) :=
  ⟨b, 0, none, 0, rfl, hS, ⟨_, _, h⟩, cell_of_row w b 0 _ _ _ h, cell_of_row w b 1 _ _ _ h, cell_of_row w b 2 _ _ _ h, cell_of_row w b 3 _ _ _ h, cell_of_row w b 4 _ _ _ h, Nat.le_refl _, fun hn => absurd hn (by simp [Fr.len])⟩
def ndk (k : Int) : Nod := ⟨k, 0, emp5, emp5⟩
/-- The chapter's example: a pair of int and bool; a declaration of x. -/
def exP : Tr := (ndk 6, .cons (ndk 1) .nil (.cons (ndk 2) .nil .nil))
def exD : Tr := (⟨70, 0, ⟨#[120]⟩, emp5⟩, .cons (ndk 22) .nil .nil)
theorem exP_is : chk B.nck B.long (some exP) 1 = 0 := by decide
theorem exD_is : chk B.nck B.long (some exD) 6 = 0 := by decide
theorem exD_no : chk B.nck B.long (some exD) 2 = 16 := by decide
theorem at_new (w : World) (o : Obj) {n : Nat} (h : w.heap.size = n) : (w.alloc o).heap[n]? = some o := by rw [← h]; exact heap_alloc_new w o
theorem size_new (w : World) (o : Obj) {n : Nat} (h : w.heap.size = n) : (w.alloc o).heap.size = n + 1 := by simp [h]
theorem old_at {w : World} {o o' : Obj} {n : Nat} (h : w.heap[n]? = some o) : (w.alloc o').heap[n]? = some o := (((Below.refl w.heap.size w).alloc (Nat.le_refl _) o').block n (heap_lt h)).trans h
/-- The example in memory. -/
def exMem (w : World) (H : Nat) : World := ((((((w.alloc (.cells #[.int .i64 1, .int .i64 0, .string ⟨#[]⟩, .string ⟨#[]⟩, .slice none 0 0] 37)).alloc (.cells #[.int .i64 2, .int .i64 0, .string ⟨#[]⟩, .string ⟨#[]⟩, .slice none 0 0] 37)).alloc
  (.cells #[.pointer (some ⟨H, 0, none⟩), .pointer (some ⟨H + 1, 0, none⟩)] 25)).alloc (.cells #[.int .i64 6, .int .i64 0, .string ⟨#[]⟩, .string ⟨#[]⟩, .slice (some ⟨H + 1 + 1, 0, none⟩) 2 2] 37)).alloc (.cells #[.int .i64 22, .int .i64 0, .string ⟨#[]⟩, .string ⟨#[]⟩, .slice none 0 0] 37)).alloc
  (.cells #[.pointer (some ⟨H + 1 + 1 + 1 + 1, 0, none⟩)] 25)).alloc (.cells #[.int .i64 70, .int .i64 0, .string ⟨#[120]⟩, .string ⟨#[]⟩, .slice (some ⟨H + 1 + 1 + 1 + 1 + 1, 0, none⟩) 1 1] 37)
theorem exMem_has (w : World) {H : Nat} (hH : w.heap.size = H) : HasT (exMem w H) (.pointer (some ⟨H + 1 + 1 + 1, 0, none⟩)) (some exP) ∧ HasT (exMem w H) (.pointer (some ⟨H + 1 + 1 + 1 + 1 + 1 + 1, 0, none⟩)) (some exD) ∧ Up w (exMem w H) := by
  unfold exMem
  obtain ⟨w1, e1⟩ : ∃ w1, w.alloc (.cells #[.int .i64 1, .int .i64 0, .string ⟨#[]⟩, .string ⟨#[]⟩, .slice none 0 0] 37) = w1 := ⟨_, rfl⟩
  have u1 : Up w w1 := e1 ▸ (Up.refl w).alloc _
  have s1 : w1.heap.size = H + 1 := e1 ▸ size_new w _ hH
  have a1 := e1 ▸ at_new w (.cells #[.int .i64 1, .int .i64 0, .string ⟨#[]⟩, .string ⟨#[]⟩, .slice none 0 0] 37) hH
  rw [e1]
  obtain ⟨w2, e2⟩ : ∃ w2, w1.alloc (.cells #[.int .i64 2, .int .i64 0, .string ⟨#[]⟩, .string ⟨#[]⟩, .slice none 0 0] 37) = w2 := ⟨_, rfl⟩
  have u2 : Up w w2 := e2 ▸ u1.alloc _
  have s2 : w2.heap.size = H + 1 + 1 := e2 ▸ size_new w1 _ s1
  have a2 := e2 ▸ at_new w1 (.cells #[.int .i64 2, .int .i64 0, .string ⟨#[]⟩, .string ⟨#[]⟩, .slice none 0 0] 37) s1
  have a1 : w2.heap[H]? = _ := e2 ▸ old_at a1
  rw [e2]
  obtain ⟨w3, e3⟩ : ∃ w3, w2.alloc (.cells #[.pointer (some ⟨H, 0, none⟩), .pointer (some ⟨H + 1, 0, none⟩)] 25) = w3 := ⟨_, rfl⟩
  have u3 : Up w w3 := e3 ▸ u2.alloc _
  have s3 : w3.heap.size = H + 1 + 1 + 1 := e3 ▸ size_new w2 _ s2
  have a3 := e3 ▸ at_new w2 (.cells #[.pointer (some ⟨H, 0, none⟩), .pointer (some ⟨H + 1, 0, none⟩)] 25) s2
  have a1 : w3.heap[H]? = _ := e3 ▸ old_at a1
  have a2 : w3.heap[H + 1]? = _ := e3 ▸ old_at a2
  rw [e3]
  obtain ⟨w4, e4⟩ : ∃ w4, w3.alloc (.cells #[.int .i64 6, .int .i64 0, .string ⟨#[]⟩, .string ⟨#[]⟩, .slice (some ⟨H + 1 + 1, 0, none⟩) 2 2] 37) = w4 := ⟨_, rfl⟩
  have u4 : Up w w4 := e4 ▸ u3.alloc _
  have s4 : w4.heap.size = H + 1 + 1 + 1 + 1 := e4 ▸ size_new w3 _ s3
  have a4 := e4 ▸ at_new w3 (.cells #[.int .i64 6, .int .i64 0, .string ⟨#[]⟩, .string ⟨#[]⟩, .slice (some ⟨H + 1 + 1, 0, none⟩) 2 2] 37) s3
  have a1 : w4.heap[H]? = _ := e4 ▸ old_at a1
  have a2 : w4.heap[H + 1]? = _ := e4 ▸ old_at a2
  have a3 : w4.heap[H + 1 + 1]? = _ := e4 ▸ old_at a3
  have hP : HasT w4 (.pointer (some ⟨H + 1 + 1 + 1, 0, none⟩)) (some exP) :=
    node5 (x := ndk 6) a4 rfl (Nat.le_refl _) (by omega) (by omega) ⟨⟨_, cell_of_row w4 (H + 1 + 1) 0 _ _ _ a3, leaf5 (x := ndk 1) a1 (by omega)⟩, ⟨_, cell_of_row w4 (H + 1 + 1) 1 _ _ _ a3, leaf5 (x := ndk 2) a2 (by omega)⟩, trivial⟩
  rw [e4]
  obtain ⟨w5, e5⟩ : ∃ w5, w4.alloc (.cells #[.int .i64 22, .int .i64 0, .string ⟨#[]⟩, .string ⟨#[]⟩, .slice none 0 0] 37) = w5 := ⟨_, rfl⟩
  have v5 : Up w4 w5 := e5 ▸ (Up.refl w4).alloc _
  have s5 : w5.heap.size = H + 1 + 1 + 1 + 1 + 1 := e5 ▸ size_new w4 _ s4
  have b1 := e5 ▸ at_new w4 (.cells #[.int .i64 22, .int .i64 0, .string ⟨#[]⟩, .string ⟨#[]⟩, .slice none 0 0] 37) s4
  rw [e5]
  obtain ⟨w6, e6⟩ : ∃ w6, w5.alloc (.cells #[.pointer (some ⟨H + 1 + 1 + 1 + 1, 0, none⟩)] 25) = w6 := ⟨_, rfl⟩
  have v6 : Up w4 w6 := e6 ▸ v5.alloc _
  have s6 : w6.heap.size = H + 1 + 1 + 1 + 1 + 1 + 1 := e6 ▸ size_new w5 _ s5
  have b2 := e6 ▸ at_new w5 (.cells #[.pointer (some ⟨H + 1 + 1 + 1 + 1, 0, none⟩)] 25) s5
  have b1 : w6.heap[H + 1 + 1 + 1 + 1]? = _ := e6 ▸ old_at b1
  rw [e6]
  obtain ⟨w7, e7⟩ : ∃ w7, w6.alloc (.cells #[.int .i64 70, .int .i64 0, .string ⟨#[120]⟩, .string ⟨#[]⟩, .slice (some ⟨H + 1 + 1 + 1 + 1 + 1, 0, none⟩) 1 1] 37) = w7 := ⟨_, rfl⟩
  have v7 : Up w4 w7 := e7 ▸ v6.alloc _
  have s7 : w7.heap.size = H + 1 + 1 + 1 + 1 + 1 + 1 + 1 := e7 ▸ size_new w6 _ s6
  have b3 := e7 ▸ at_new w6 (.cells #[.int .i64 70, .int .i64 0, .string ⟨#[120]⟩, .string ⟨#[]⟩, .slice (some ⟨H + 1 + 1 + 1 + 1 + 1, 0, none⟩) 1 1] 37) s6
  have b1 : w7.heap[H + 1 + 1 + 1 + 1]? = _ := e7 ▸ old_at b1
  have b2 : w7.heap[H + 1 + 1 + 1 + 1 + 1]? = _ := e7 ▸ old_at b2
  have hD : HasT w7 (.pointer (some ⟨H + 1 + 1 + 1 + 1 + 1 + 1, 0, none⟩)) (some exD) :=
    node5 (x := ⟨70, 0, ⟨#[120]⟩, emp5⟩) b3 rfl (Nat.le_refl _) (by omega) (by omega) ⟨⟨_, cell_of_row w7 (H + 1 + 1 + 1 + 1 + 1) 0 _ _ _ b2, leaf5 (x := ndk 22) b1 (by omega)⟩, trivial⟩
  rw [e7]
  exact ⟨hP.up v7, hD, u4.trans v7⟩
theorem exP_ok : okSO (some exP) := fun t h => by injection h with h; subst h; exact ⟨by decide, by decide, by decide, by decide, trivial, by decide, by decide, trivial, trivial⟩
theorem exD_ok : okSO (some exD) := fun t h => by injection h with h; subst h; exact ⟨by decide, by decide, by decide, by decide, trivial, trivial⟩
set_option maxHeartbeats 6400000 in
set_option maxRecDepth 100000 in
theorem works5 (S : ShpAll) (W w : World) (hx : B.Nx W) (hu : Up W w) : Calls Try.prog 12 #[] w (BoP true W) := by
  obtain ⟨H, hH⟩ : ∃ H, w.heap.size = H := ⟨_, rfl⟩
  obtain ⟨hP, hD, u7⟩ := exMem_has w hH
  obtain ⟨W7, hW7⟩ : ∃ W7, exMem w H = W7 := ⟨_, rfl⟩
  rw [hW7] at hP hD u7
  have hx7 := Nx.up hx (hu.trans u7)
  have c1 := S.h1 (some exP) (by decide) exP_ok W7 W7 _ hx7 hP (Up.refl _)
  have c2 := fun w' (h : Up W7 w') => S.h6 (some exD) (by decide) exD_ok W7 w' _ hx7 hD h
  have c3 := fun w' (h : Up W7 w') => S.h2 (some exD) (by decide) exD_ok W7 w' _ hx7 hD h
  rw [exP_is] at c1
  rw [exD_is] at c2
  rw [exD_no] at c3
  have c1 : Calls Try.prog 21 #[Value.pointer (some ⟨H + 1 + 1 + 1, 0, none⟩)] (exMem w H) (InP 0 W7) := by rw [hW7]; exact c1
  unfold exMem at c1
  have HU := Lib.hid (hu.trans u7)
  clear hP hD u7 hW7 hx hx7 hu
  go_enter Try.func12, Try.ntmps12
  go_wp2_with fail
  refine c1.mono ?_
  rintro e w1 ⟨rfl, u1⟩
  go_wp2_with fail
  refine (c2 _ u1).mono ?_
  rintro e w2 ⟨rfl, u2⟩
  go_wp2_with fail
  refine (c3 _ u2).mono ?_
  rintro e w3 ⟨rfl, u3⟩
  go_wp2_with fail
  go_ret
  exact bop_ret rfl (HU.out.trans u3)
end Go.Proofs.Ytoejegndbcbkmaa
