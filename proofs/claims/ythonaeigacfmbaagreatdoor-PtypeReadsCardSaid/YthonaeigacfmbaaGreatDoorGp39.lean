/-
  Layer 6, the program's Type and Cons: what they tell of any tokens at any place.
-/
import Derived.Test.YthonaeigacfmbaaGreatDoorGp14
import Derived.Test.YthonaeigacfmbaaGreatDoorGp15
import Derived.Test.YthonaeigacfmbaaGreatDoorGp38
import Derived.Deep.Fields
import Derived.Deep.Slices
namespace Go.Proofs.YthonaeigacfmbaaGreatDoor
open Go.RowKit

set_option maxHeartbeats 1600000 in
set_option maxRecDepth 100000 in
theorem tyLit (b : Nat) (P : Option Addr → World → Prop) (w : World) (cA : Calls Tryz.prog 48 #[.agg #[.pointer (some ⟨b, 0, none⟩)]] w fun e w' => ∃ A, e = .returned (.pointer A) ∧ P A w') :
    Calls Tryz.prog 47 #[.pointer (some ⟨b, 0, none⟩)] w fun e w' => ∃ A, e = .returned (.pointer A) ∧ P A w' := by
  go_enter Tryz.func47, Tryz.ntmps47
  go_wp2_with fail
  refine cA.mono ?_
  rintro en w1 ⟨A, rfl, h⟩
  have H := Lib.hid h
  clear h
  go_wp2_with fail
  go_ret
  exact ⟨A, rfl, H.out⟩
set_option maxHeartbeats 1600000 in
set_option maxRecDepth 100000 in
theorem coLit (b : Nat) (P : Value → World → Prop) (w : World) (cA : Calls Tryz.prog 52 #[.agg #[.pointer (some ⟨b, 0, none⟩)]] w fun e w' => ∃ v, e = .returned v ∧ P v w') :
    Calls Tryz.prog 51 #[.pointer (some ⟨b, 0, none⟩)] w fun e w' => ∃ v, e = .returned v ∧ P v w' := by
  go_enter Tryz.func51, Tryz.ntmps51
  go_wp2_with fail
  refine cA.mono ?_
  rintro en w1 ⟨v, rfl, h⟩
  have H := Lib.hid h
  clear h
  go_wp2_with fail
  go_ret
  exact ⟨v, rfl, H.out⟩
def parW (w : World) (v : Value) (i : Nat) : World := w.alloc (.cells #[v, .int .i64 (i : Int), .int .i64 0] 114)
theorem parW_up (w : World) (v : Value) (i : Nat) : Up w (parW w v i) := (Up.refl w).alloc _
theorem parW_psr (w : World) (v : Value) (i : Nat) : Psr (parW w v i) w.heap.size v i 0 := heap_alloc_new w _
set_option maxHeartbeats 6400000 in
set_option maxRecDepth 100000 in
theorem parsed_argT (A : Option Addr) (n c : Nat) (i : Int) (F : Value) (w : World) (h : i < 0 ∨ (n : Int) < i) :
    Calls Tryz.prog 46 #[.slice A n c, .int .i64 i, F] w fun e w' => e = .returned (.tuple #[.pointer none, .int .i64 0, .int .i64 2]) ∧ Up w w' := by
  by_cases h0 : i < 0
  · go_enter Tryz.func46, Tryz.ntmps46
    go_wp2_with fail
    go_ret3
    exact ⟨rfl, Up.refl _⟩
  · have h1 : (n : Int) < i := by omega
    clear h
    go_enter Tryz.func46, Tryz.ntmps46
    go_wp2_with fail
    go_ret3
    exact ⟨rfl, Up.refl _⟩
set_option maxHeartbeats 6400000 in
set_option maxRecDepth 100000 in
theorem parsed_badT (A : Option Addr) (n c : Nat) (i p : Nat) (r : Int) (k : FuncId) (hE : EntF k) (w : World) (hi : i ≤ n) (hr : ¬ r = 0)
    (cR : Calls Tryz.prog k #[.pointer (some ⟨w.heap.size, 0, none⟩)] (parW w (.slice A n c) i) fun e w' => (∃ u, e = .returned u) ∧ Up w w' ∧ Psr w' w.heap.size (.slice A n c) p r) :
    Calls Tryz.prog 46 #[.slice A n c, .int .i64 (i : Int), .func (.func k) #[] #[]] w fun e w' => e = .returned (.tuple #[.pointer none, .int .i64 (p : Int), .int .i64 r]) ∧ Up w w' := by
  have h0 : ¬ (i : Int) < 0 := by omega
  have h1 : ¬ (n : Int) < (i : Int) := by omega
  have HE := Lib.hid hE
  have HW : Hid (parW w (.slice A n c) i = w.alloc (.cells #[.slice A n c, .int .i64 (i : Int), .int .i64 0] 114)) := Lib.hid rfl
  have HC := Lib.hid cR
  clear cR hE
  go_enter Tryz.func46, Tryz.ntmps46
  go_wp2_with fail
  rw [HE.out, Oper.upon_enter]
  refine Calls.mono HC.out ?_
  rintro en w1 ⟨⟨u, rfl⟩, u1, h⟩
  obtain ⟨c0, c1, c2, f1, f2⟩ := h.cells
  have U1 := Lib.hid u1
  clear u1 h HC
  go_wp2_with fail
  go_quiet (fail)
  go_wp2_with fail
  go_ret3
  exact ⟨rfl, U1.out.drewN _⟩
set_option maxHeartbeats 6400000 in
set_option maxRecDepth 100000 in
theorem parsed_okT (A : Option Addr) (n c : Nat) (i j : Nat) (k : FuncId) (hE : EntF k) (P : Value → World → Prop) (w : World) (hi : i ≤ n)
    (cR : Calls Tryz.prog k #[.pointer (some ⟨w.heap.size, 0, none⟩)] (parW w (.slice A n c) i) fun e w' => (∃ u, e = .returned u ∧ P u w') ∧ Up w w' ∧ Psr w' w.heap.size (.slice A n c) j 0)
    (hP : ∀ u w' q, P u w' → P u (w'.drewN q)) :
    Calls Tryz.prog 46 #[.slice A n c, .int .i64 (i : Int), .func (.func k) #[] #[]] w fun e w' => ∃ u, e = .returned (.tuple #[u, .int .i64 (j : Int), .int .i64 0]) ∧ P u w' ∧ Up w w' := by
  have h0 : ¬ (i : Int) < 0 := by omega
  have h1 : ¬ (n : Int) < (i : Int) := by omega
  have HE := Lib.hid hE
  have HPD := Lib.hid hP
  have HC := Lib.hid cR
  clear cR hE hP
  go_enter Tryz.func46, Tryz.ntmps46
  go_wp2_with fail
  rw [HE.out, Oper.upon_enter]
  refine Calls.mono HC.out ?_
  rintro en w1 ⟨⟨u, rfl, hu⟩, u1, h⟩
  obtain ⟨c0, c1, c2, f1, f2⟩ := h.cells
  have U1 := Lib.hid u1
  have HU := Lib.hid hu
  clear u1 h HC hu
  go_wp2_with fail
  go_quiet (fail)
  go_wp2_with fail
  go_ret3
  exact ⟨_, rfl, HPD.out _ _ _ HU.out, U1.out.drewN _⟩
set_option maxHeartbeats 6400000 in
set_option maxRecDepth 100000 in
theorem parsed_argC (A : Option Addr) (n c : Nat) (i : Int) (F : Value) (w : World) (h : i < 0 ∨ (n : Int) < i) :
    Calls Tryz.prog 50 #[.slice A n c, .int .i64 i, F] w fun e w' => e = .returned (.tuple #[.slice none 0 0, .int .i64 0, .int .i64 2]) ∧ Up w w' := by
  by_cases h0 : i < 0
  · go_enter Tryz.func50, Tryz.ntmps50
    go_wp2_with fail
    go_ret3
    exact ⟨rfl, Up.refl _⟩
  · have h1 : (n : Int) < i := by omega
    clear h
    go_enter Tryz.func50, Tryz.ntmps50
    go_wp2_with fail
    go_ret3
    exact ⟨rfl, Up.refl _⟩
set_option maxHeartbeats 6400000 in
set_option maxRecDepth 100000 in
theorem parsed_badC (A : Option Addr) (n c : Nat) (i p : Nat) (r : Int) (k : FuncId) (hE : EntF k) (w : World) (hi : i ≤ n) (hr : ¬ r = 0)
    (cR : Calls Tryz.prog k #[.pointer (some ⟨w.heap.size, 0, none⟩)] (parW w (.slice A n c) i) fun e w' => (∃ u, e = .returned u) ∧ Up w w' ∧ Psr w' w.heap.size (.slice A n c) p r) :
    Calls Tryz.prog 50 #[.slice A n c, .int .i64 (i : Int), .func (.func k) #[] #[]] w fun e w' => e = .returned (.tuple #[.slice none 0 0, .int .i64 (p : Int), .int .i64 r]) ∧ Up w w' := by
  have h0 : ¬ (i : Int) < 0 := by omega
  have h1 : ¬ (n : Int) < (i : Int) := by omega
  have HE := Lib.hid hE
  have HW : Hid (parW w (.slice A n c) i = w.alloc (.cells #[.slice A n c, .int .i64 (i : Int), .int .i64 0] 114)) := Lib.hid rfl
  have HC := Lib.hid cR
  clear cR hE
  go_enter Tryz.func50, Tryz.ntmps50
  go_wp2_with fail
  rw [HE.out, Oper.upon_enter]
  refine Calls.mono HC.out ?_
  rintro en w1 ⟨⟨u, rfl⟩, u1, h⟩
  obtain ⟨c0, c1, c2, f1, f2⟩ := h.cells
  have U1 := Lib.hid u1
  clear u1 h HC
  go_wp2_with fail
  go_quiet (fail)
  go_wp2_with fail
  go_ret3
  exact ⟨rfl, U1.out.drewN _⟩
set_option maxHeartbeats 6400000 in
set_option maxRecDepth 100000 in
theorem parsed_okC (A : Option Addr) (n c : Nat) (i j : Nat) (k : FuncId) (hE : EntF k) (P : Value → World → Prop) (w : World) (hi : i ≤ n)
    (cR : Calls Tryz.prog k #[.pointer (some ⟨w.heap.size, 0, none⟩)] (parW w (.slice A n c) i) fun e w' => (∃ u, e = .returned u ∧ P u w') ∧ Up w w' ∧ Psr w' w.heap.size (.slice A n c) j 0)
    (hP : ∀ u w' q, P u w' → P u (w'.drewN q)) :
    Calls Tryz.prog 50 #[.slice A n c, .int .i64 (i : Int), .func (.func k) #[] #[]] w fun e w' => ∃ u, e = .returned (.tuple #[u, .int .i64 (j : Int), .int .i64 0]) ∧ P u w' ∧ Up w w' := by
  have h0 : ¬ (i : Int) < 0 := by omega
  have h1 : ¬ (n : Int) < (i : Int) := by omega
  have HE := Lib.hid hE
  have HPD := Lib.hid hP
  have HC := Lib.hid cR
  clear cR hE hP
  go_enter Tryz.func50, Tryz.ntmps50
  go_wp2_with fail
  rw [HE.out, Oper.upon_enter]
  refine Calls.mono HC.out ?_
  rintro en w1 ⟨⟨u, rfl, hu⟩, u1, h⟩
  obtain ⟨c0, c1, c2, f1, f2⟩ := h.cells
  have U1 := Lib.hid u1
  have HU := Lib.hid hu
  clear u1 h HC hu
  go_wp2_with fail
  go_quiet (fail)
  go_wp2_with fail
  go_ret3
  exact ⟨_, rfl, HPD.out _ _ _ HU.out, U1.out.drewN _⟩
end Go.Proofs.YthonaeigacfmbaaGreatDoor
namespace Go.Proofs.YthonaeigacfmbaaGreatDoor
open Go.RowKit

theorem NewT.drewN {W w : World} {v : Value} {t : Tr} (h : NewT W w v t) (q : Nat) : NewT W (w.drewN q) v t := InT.keep h (fun _ h => h) fun _ _ => rfl
set_option maxHeartbeats 1600000 in
set_option maxRecDepth 100000 in
theorem type_walk (v : Value) (i : Int) (P : Value → Int → Int → World → Prop) (w : World) (cP : Calls Tryz.prog 46 #[v, .int .i64 i, .func (.func 47) #[] #[]] w fun e w' => ∃ u j r, e = .returned (.tuple #[u, .int .i64 j, .int .i64 r]) ∧ P u j r w') :
    Calls Tryz.prog 16 #[v, .int .i64 i] w fun e w' => ∃ u j r, e = .returned (.tuple #[u, .int .i64 j, .int .i64 r]) ∧ P u j r w' := by
  go_enter Tryz.func16, Tryz.ntmps16
  go_wp2_with fail
  refine cP.mono ?_
  rintro en w1 ⟨u, j, r, rfl, h⟩
  have H := Lib.hid h
  clear h
  go_wp2_with fail
  go_ret3
  exact ⟨u, j, r, rfl, H.out⟩
set_option maxHeartbeats 1600000 in
set_option maxRecDepth 100000 in
theorem cons_call (v : Value) (i : Int) (P : Value → Int → Int → World → Prop) (w : World) (cP : Calls Tryz.prog 50 #[v, .int .i64 i, .func (.func 51) #[] #[]] w fun e w' => ∃ u j r, e = .returned (.tuple #[u, .int .i64 j, .int .i64 r]) ∧ P u j r w') :
    Calls Tryz.prog 18 #[v, .int .i64 i] w fun e w' => ∃ u j r, e = .returned (.tuple #[u, .int .i64 j, .int .i64 r]) ∧ P u j r w' := by
  go_enter Tryz.func18, Tryz.ntmps18
  go_wp2_with fail
  refine cP.mono ?_
  rintro en w1 ⟨u, j, r, rfl, h⟩
  have H := Lib.hid h
  clear h
  go_wp2_with fail
  go_ret3
  exact ⟨u, j, r, rfl, H.out⟩
theorem pType (l : List Tk) (i : Int) (hl : l.length ≤ 100000) (hz : ∀ t ∈ l, t.s.size ≤ 1000000000) (w : World) (v : Value) (hv : Tkm w v l) (hx : B.Nx w) (hp : Pl w) :
    Calls Tryz.prog 16 #[v, .int .i64 i] w (RtPost (typZ B.nck B.long l i) w) := by
  have hv0 := hv
  obtain ⟨A, c, rfl, -⟩ := hv
  have key : Calls Tryz.prog 16 #[.slice A l.length c, .int .i64 i] w fun e w' => ∃ u j r, e = .returned (.tuple #[u, .int .i64 j, .int .i64 r]) ∧ RtV (typZ B.nck B.long l i) w w' u j r ∧ Up w w' := by
    refine type_walk _ i (fun u j r w' => RtV (typZ B.nck B.long l i) w w' u j r ∧ Up w w') w ?_
    by_cases h : i < 0 ∨ (l.length : Int) < i
    · unfold typZ
      rw [if_pos h]
      exact (parsed_argT A l.length c i _ w h).mono fun e w' ⟨h1, h2⟩ => ⟨_, _, _, h1, ⟨rfl, rfl, rfl⟩, h2⟩
    · have he : typZ B.nck B.long l i = typL B.nck B.long l i.toNat := if_neg h
      rw [he]
      obtain ⟨k, rfl⟩ := Int.eq_ofNat_of_zero_le (by omega : 0 ≤ i)
      have hk : k ≤ l.length := by omega
      rw [Int.toNat_natCast]
      have Q : Prs B.nck B.long w (.slice A l.length c) l w.heap.size := ⟨toks_of hv0 hz hx, hp, Nat.le_refl _, hl, hz⟩
      have up := parW_up w (.slice A l.length c) k
      have cA := (all_good Q _ k (Nat.le_refl _) hk).1 _ up (parW_psr w _ k)
      have hle := typL_le (nk := B.nck) (lg := B.long) l k hk
      have gu : ∀ w', Gs (On w.heap.size) (parW w (.slice A l.length c) k) w' → Up w w' := fun w' g => g.up up fun q hq => by rw [hq]; exact Nat.le_refl _
      cases hT : typL B.nck B.long l k with
      | inr e =>
        obtain ⟨p, r⟩ := e
        rw [hT] at cA hle
        have hr : ¬ r = 0 := hle.2 p r rfl
        refine (parsed_badT A l.length c k p r 47 (fun _ _ => by kernel_rfl) w hk hr ?_).mono fun e w' ⟨h1, h2⟩ => ⟨_, _, _, h1, ⟨rfl, rfl, rfl⟩, h2⟩
        refine (tyLit w.heap.size (fun _ w' => Up w w' ∧ Psr w' w.heap.size (.slice A l.length c) p r) _ (cA.mono fun e w' ⟨B, h1, g, h2⟩ => ⟨B, h1, gu w' g, h2⟩)).mono fun e w' ⟨B, h1, h2, h3⟩ => ⟨⟨_, h1⟩, h2, h3⟩
      | inl e =>
        obtain ⟨t, j⟩ := e
        rw [hT] at cA
        refine (parsed_okT A l.length c k j 47 (fun _ _ => by kernel_rfl) (fun u w' => NewT w w' u t) w hk ?_ (fun u w' q h => h.drewN q)).mono fun e w' ⟨u, h1, h2, h3⟩ => ⟨_, _, _, h1, ⟨h2, rfl, rfl⟩, h3⟩
        refine (tyLit w.heap.size (fun B w' => NewT w w' (.pointer B) t ∧ Up w w' ∧ Psr w' w.heap.size (.slice A l.length c) j 0) _ (cA.mono fun e w' ⟨B, h1, g, h2, h3, _⟩ => ⟨B, h1, h2.base up.size, gu w' g, h3⟩)).mono fun e w' ⟨B, h1, h2, h3, h4⟩ => ⟨⟨_, h1, h2⟩, h3, h4⟩
  exact key.mono fun e w' ⟨u, j, r, h1, h2, h3⟩ => ⟨u, j, r, h1, h2, h3⟩
def CoV (w w' : World) (u : Value) (f : Fr) : Prop := ∃ g c, u = .slice (some ⟨g, 0, none⟩) f.len c ∧ f.len ≤ c ∧ NewS w w' g ∧ 0 < f.len ∧ InF w' (NewS w w') f g 0
theorem pCons (l : List Tk) (i : Int) (hl : l.length ≤ 100000) (hz : ∀ t ∈ l, t.s.size ≤ 1000000000) (w : World) (v : Value) (hv : Tkm w v l) (hx : B.Nx w) (hp : Pl w) :
    Calls Tryz.prog 18 #[v, .int .i64 i] w (RcPost (consZ B.nck B.long l i) w) := by
  have hv0 := hv
  obtain ⟨A, c, rfl, -⟩ := hv
  have key : Calls Tryz.prog 18 #[.slice A l.length c, .int .i64 i] w fun e w' => ∃ u j r, e = .returned (.tuple #[u, .int .i64 j, .int .i64 r]) ∧ RcV (consZ B.nck B.long l i) w w' u j r ∧ Up w w' := by
    refine cons_call _ i (fun u j r w' => RcV (consZ B.nck B.long l i) w w' u j r ∧ Up w w') w ?_
    by_cases h : i < 0 ∨ (l.length : Int) < i
    · unfold consZ
      rw [if_pos h]
      exact (parsed_argC A l.length c i _ w h).mono fun e w' ⟨h1, h2⟩ => ⟨_, _, _, h1, ⟨rfl, rfl, rfl⟩, h2⟩
    · have he : consZ B.nck B.long l i = consL B.nck B.long l i.toNat .nil := if_neg h
      rw [he]
      obtain ⟨k, rfl⟩ := Int.eq_ofNat_of_zero_le (by omega : 0 ≤ i)
      have hk : k ≤ l.length := by omega
      rw [Int.toNat_natCast]
      have Q : Prs B.nck B.long w (.slice A l.length c) l w.heap.size := ⟨toks_of hv0 hz hx, hp, Nat.le_refl _, hl, hz⟩
      have up := parW_up w (.slice A l.length c) k
      have cA := (all_good Q _ k (Nat.le_refl _) hk).2.2.2 _ up (parW_psr w _ k)
      have hle := consL_le (nk := B.nck) (lg := B.long) l k .nil hk
      have gu : ∀ w', Gs (On w.heap.size) (parW w (.slice A l.length c) k) w' → Up w w' := fun w' g => g.up up fun q hq => by rw [hq]; exact Nat.le_refl _
      cases hT : consL B.nck B.long l k .nil with
      | inr e =>
        obtain ⟨p, r⟩ := e
        rw [hT] at cA hle
        have hr : ¬ r = 0 := hle.2 p r rfl
        refine (parsed_badC A l.length c k p r 51 (fun _ _ => by kernel_rfl) w hk hr ?_).mono fun e w' ⟨h1, h2⟩ => ⟨_, _, _, h1, ⟨rfl, rfl, rfl⟩, h2⟩
        refine (coLit w.heap.size (fun _ w' => Up w w' ∧ Psr w' w.heap.size (.slice A l.length c) p r) _ (cA.mono fun e w' ⟨vo, ps, h1, _, _, _, g, h2⟩ => ⟨vo, h1, gu w' g, h2⟩)).mono fun e w' ⟨B, h1, h2, h3⟩ => ⟨⟨_, h1⟩, h2, h3⟩
      | inl e =>
        obtain ⟨f, j⟩ := e
        rw [hT] at cA
        refine (parsed_okC A l.length c k j 51 (fun _ _ => by kernel_rfl) (fun u w' => CoV w w' u f) w hk ?_ (fun u w' q h => by
          obtain ⟨g, c, h1, h2, h3, h4, h5⟩ := h
          exact ⟨g, c, h1, h2, h3, h4, InF.keep (w := w') (w' := w'.drewN q) (S := NewS w w') (S' := NewS w (w'.drewN q)) (fun _ h => h) (fun _ _ => rfl) h3 h5⟩)).mono fun e w' ⟨u, h1, h2, h3⟩ => ⟨_, _, _, h1, ⟨h2, rfl, rfl⟩, h3⟩
        refine (coLit w.heap.size (fun u w' => CoV w w' u f ∧ Up w w' ∧ Psr w' w.heap.size (.slice A l.length c) j 0) _ (cA.mono fun e w' hh => ?_)).mono fun e w' ⟨B, h1, h2, h3, h4⟩ => ⟨⟨_, h1, h2⟩, h3, h4⟩
        obtain ⟨vo, ps, h1, ho, h0, _, g, hT2, h3, _⟩ := hh
        refine ⟨vo, h1, ?_, gu w' g, h3⟩
        have hlen := hT2.len
        obtain ⟨gb, cap, hvo, hbg, hlt⟩ := ho.own.form h0
        have hcap : f.len ≤ cap := by rw [← hlen]; have h := ho.own; rw [hvo] at h; exact own_capP h
        subst hvo
        have hzp := up.size
        have hnew : NewS w w' gb := ⟨by omega, hlt⟩
        refine ⟨gb, cap, by rw [hlen], hcap, hnew, by omega, ?_⟩
        refine PtF.row (PtF.keep (fun q hq => ⟨by have := hq.1.1; omega, hq.1.2⟩) (fun _ _ => rfl) hT2) fun jj u hj => ?_
        have h9 := ho.own.cells (g := gb) rfl jj u hj
        have e1 : (⟨gb, 0, none⟩ : Addr).add jj = ⟨gb, 0 + jj, none⟩ := by unfold Addr.add; split <;> simp_all
        rwa [e1] at h9
  exact key.mono fun e w' ⟨u, j, r, h1, h2, h3⟩ => ⟨u, j, r, h1, h2, h3⟩
end Go.Proofs.YthonaeigacfmbaaGreatDoor
namespace Go.Proofs.YthonaeigacfmbaaGreatDoor
open Go.RowKit

theorem wpList_app {ops : Array Oper} {rest : List Oper} {o : Oper} {a : Act} {w w' : World} {v v1 v2 : Value} {Q : Exit → Act → World → Prop} (s x : Operand) (t : TypeId)
    (hw : Region.wanted o (yielded ops a.tmps) = true) (ho : o.op = .call { callee := .builtin .append, args := #[s, x], argTypes := #[t, t] }) (h1 : a.eval s = v1) (h2 : a.eval x = v2)
    (hr : (Builtin.append_ #[t, t] o.type #[v1, v2]).run Tryz.prog w = .ok v w') (h : wpList Tryz.prog ops Q rest (a.put o.dst v) w') : wpList Tryz.prog ops Q (o :: rest) a w := by
  refine wpList_step fun K hK => ?_
  rw [if_pos hw]
  unfold Oper.wp execOp
  simp only [ho, resolve, invoke, builtin, Sem.run_bind, Sem.run_pure, Result.andThen_ok, List.map_toArray, List.map_cons, List.map_nil, h1, h2, hr]
  exact hK _ _ h
end Go.Proofs.YthonaeigacfmbaaGreatDoor
namespace Go.Proofs.YthonaeigacfmbaaGreatDoor
open Go.ChangeShapes Go.WideShapes Go.Deep Go.RowKit

def w5 (w : World) (a : Addr) (c : Cel) (kv : Value) : Prop := w.cell? (a.add 0) = some (.int .i64 c.x.k) ∧ w.cell? (a.add 1) = some (.int .i64 c.x.n) ∧ w.cell? (a.add 2) = some (.string c.x.a) ∧ w.cell? (a.add 3) = some (.string c.x.m) ∧ w.cell? (a.add 4) = some kv
end Go.Proofs.YthonaeigacfmbaaGreatDoor
namespace Go.Proofs.YthonaeigacfmbaaGreatDoor
open Go.RowKit

structure Vx (w : World) : Prop where
  lx : B.Lx w
  pl : Pl w
theorem Vx.up {W w : World} (h : Vx W) (u : Up W w) : Vx w := ⟨B.Lx.below h.lx u, h.pl.up u⟩
theorem Vx.nx {w : World} (h : Vx w) : B.Nx w := ⟨h.lx.2.1, h.lx.2.2.1⟩
def tkq (t : B.Tok × Nat) : Tk := ⟨t.1.k, B.T t.1.x⟩
theorem tkm_of {w : World} {v : Value} {l : List (B.Tok × Nat)} (h : B.Tks w w.heap.size v l) : Tkm w v (l.map tkq) := by
  obtain ⟨A, c, hv, hc⟩ := h
  refine ⟨A, c, by rw [hv, List.length_map], fun j t ht => ?_⟩
  rw [List.getElem?_map] at ht
  obtain ⟨x, hx, rfl⟩ := Option.map_eq_some_iff.1 ht
  obtain ⟨ad, hA, hlt, hcell⟩ := hc j x hx
  have hj : j < l.length := (List.getElem?_eq_some_iff.1 hx).1
  obtain ⟨x0, hx0⟩ : ∃ x0, l[0]? = some x0 := ⟨_, List.getElem?_eq_getElem (by omega)⟩
  obtain ⟨ad0, hA0, _, hcell0⟩ := hc 0 x0 hx0
  have e0 : ad0 = ad := by rw [hA] at hA0; exact (Option.some.inj hA0).symm
  subst e0
  have h0 := hcell0 0 _ rfl
  have hsp : ad0.spot = none := by
    have e : ad0.add (0 * 4 + 0) = ad0 := by simp [Addr.add]
    rw [e] at h0
    unfold World.cell? at h0
    cases hs : ad0.spot with
    | none => rfl
    | some z =>
      rw [hs] at h0
      cases hh : w.heap[ad0.block]? with
      | none => rw [hh] at h0; cases h0
      | some ob => rw [hh] at h0; cases ob <;> simp at h0
  have ha : ∀ i, ad0.add i = ⟨ad0.block, ad0.off + i, none⟩ := fun i => by
    unfold Addr.add
    split
    · rename_i hi
      subst hi
      rw [← hsp]
      rfl
    · rfl
  have c0 := hcell 0 _ rfl
  have c1 := hcell 1 _ rfl
  rw [ha] at c0 c1
  refine ⟨ad0.block, ad0.off, ?_, hlt, ?_, ?_⟩
  · rw [hA, ← hsp]
  · rw [Nat.add_zero] at c0; exact c0
  · rw [← Nat.add_assoc] at c1; exact c1
def exS : ByteArray := ⟨#[105, 110, 116, 32, 42, 32, 98, 111, 111, 108, 32, 45, 62, 32, 116, 46, 117]⟩
def exL6 : List (B.Tok × Nat) := [(⟨3, [105, 110, 116], 0⟩, 0), (⟨3, [42], 0⟩, 4), (⟨3, [98, 111, 111, 108], 0⟩, 6), (⟨3, [45, 62], 0⟩, 11), (⟨1, [116, 46, 117], 0⟩, 14)]
def tU : ByteArray := ⟨#[116, 46, 117]⟩
def exT6 : Tr := nd 5 nob (fr2 (nd 6 nob (fr2 (nd 1 nob .nil) (nd 2 nob .nil))) (nd 4 tU .nil))
theorem ex6_lex : B.lexR exS = (exL6, 0, 0) := by kernel_rfl
theorem ex6_typ : typZ B.nck B.long (exL6.map tkq) 0 = .inl (exT6, 5) := by kernel_rfl
theorem ex6_chk : chk B.nck B.long (some exT6) 1 = 0 := by kernel_rfl
theorem ex6_txt : wrT (some exT6) = exS := by kernel_rfl
theorem ex6_sz : ∀ t ∈ exL6.map tkq, t.s.size ≤ 1000000000 := by decide
theorem ex6_ok : okSO (some exT6) := fun t h => by
  have h := Option.some.inj h
  subst h
  unfold okST
  simp only [exT6, nd, fr2, fr1, okS]
  decide
theorem ex6_in {W w : World} {v : Value} (h : InT w (fun q => W.heap.size ≤ q ∧ q < w.heap.size) v exT6) : ∃ q p kb ko c q6 p6 q4 p4, v = .pointer (some ⟨q, p, none⟩) ∧ w.cell? ⟨q, p, none⟩ = some (.int .i64 5) ∧ w.cell? ⟨q, p + 4, none⟩ = some (.slice (some ⟨kb, ko, none⟩) 2 c) ∧
    w.cell? ⟨kb, ko, none⟩ = some (.pointer (some ⟨q6, p6, none⟩)) ∧ w.cell? ⟨kb, ko + 1, none⟩ = some (.pointer (some ⟨q4, p4, none⟩)) ∧ w.cell? ⟨q6, p6, none⟩ = some (.int .i64 6) ∧ w.cell? ⟨q4, p4 + 2, none⟩ = some (.string tU) := by
  obtain ⟨q, p, A, c, rfl, hq, c0, c1, c2, c3, c4, hc, hkid⟩ := InT.open h
  obtain ⟨kb, ko, rfl, hkb, ⟨va, ca, ia⟩, ⟨vb, cb, ib⟩, -⟩ := hkid (by show 0 < 2; omega)
  obtain ⟨q6, p6, A6, c6, rfl, hq6, d0, -⟩ := InT.open (x := ⟨6, 0, nob, nob⟩) (ks := fr2 (nd 1 nob .nil) (nd 2 nob .nil)) ia
  obtain ⟨q4, p4, A4, c4', rfl, hq4, f0, f1, f2, -⟩ := InT.open (x := ⟨4, 0, tU, nob⟩) (ks := .nil) ib
  exact ⟨q, p, kb, ko, c, q6, p6, q4, p4, rfl, c0, c4, ca, cb, d0, f2⟩
set_option maxHeartbeats 12800000 in
set_option maxRecDepth 100000 in
theorem works6 {W w : World} (hx : Vx W) (hu : Up W w) : Calls Tryz.prog 28 #[] w (BoP true W) := by
  have cL := B.lex_any exS (by decide) w (B.Lx.below hx.lx hu)
  rw [ex6_lex] at cL
  have HX := Lib.hid hx
  have HU := Lib.hid hu
  clear hx hu
  go_enter Tryz.func28, Tryz.ntmps28
  go_wp2_with fail
  refine Calls.mono cL ?_
  rintro e w1 ⟨v, rfl, ht, hb1⟩
  have u1 : Up W w1 := HU.out.trans hb1
  have cT := pType (exL6.map tkq) 0 (by decide) ex6_sz w1 v (tkm_of ht) (HX.out.up u1).nx (HX.out.up u1).pl
  rw [ex6_typ] at cT
  have U1 := Lib.hid u1
  clear ht hb1 u1 cL
  go_wp2_with fail
  refine cT.mono ?_
  rintro e w2 ⟨v2, j2, e2, rfl, ⟨hn, rfl, rfl⟩, u2⟩
  have u02 : Up W w2 := U1.out.trans u2
  obtain ⟨q, p, kb, ko, c, q6, p6, q4, p4, rfl, c0, c4, ca, cb, d0, f2⟩ := ex6_in hn
  have cW := pWrite (some exT6) (by decide) ex6_ok w2 w2 (.pointer (some ⟨q, p, none⟩)) (HX.out.up u02).nx (HX.out.up u02).pl hn.has (Up.refl _)
  unfold WtP at cW
  rw [ex6_chk, if_pos rfl, ex6_txt] at cW
  have hnil : ∀ W, (binOp .eql 24 (.pointer (some ⟨q, p, none⟩)) (.pointer none)).run Tryz.prog W = .ok (.bool false) W := fun W => ptr_nil2 W _
  have U2 := Lib.hid u02
  have CA := Lib.hid ca
  have CB := Lib.hid cb
  have C4 := Lib.hid c4
  have D0 := Lib.hid d0
  have F2 := Lib.hid f2
  clear hn u2 u02 cT ca cb d0 f2
  go_wp2_with fail
  refine cW.mono ?_
  rintro e w3 ⟨rfl, u3⟩
  have k4 := u3.cell C4.out
  have ka := u3.cell CA.out
  have kb' := u3.cell CB.out
  have k6 := u3.cell D0.out
  have kf := u3.cell F2.out
  have U3 := Lib.hid (Up.trans U2.out u3)
  have hU1 : tU.toList = [116, 46, 117] := by rw [Lib.toList_data]; rfl
  have hE1 : exS.toList = [105, 110, 116, 32, 42, 32, 98, 111, 111, 108, 32, 45, 62, 32, 116, 46, 117] := by rw [Lib.toList_data]; rfl
  clear u3 c0 c4 cW
  go_wp2_with fail
  go_ret
  exact bop_ret rfl U3.out
end Go.Proofs.YthonaeigacfmbaaGreatDoor
namespace Go.Proofs.YthonaeigacfmbaaGreatDoor
open Go.RowKit

/-! ### how long a type's text is, if it has few nodes -/
def wS : List Tk → Nat
  | [] => 0
  | a :: r => a.s.size + 1 + wS r
theorem wS_app : ∀ (a b : List Tk), wS (a ++ b) = wS a + wS b
  | [], b => by show wS b = 0 + wS b; omega
  | x :: a, b => by show x.s.size + 1 + wS (a ++ b) = x.s.size + 1 + wS a + wS b; rw [wS_app a b]; omega
theorem jT_wS : ∀ (ts : List Tk), (jT ts).length ≤ wS ts
  | [] => Nat.le_refl _
  | [a] => by
    have e : a.s.data.toList.length = a.s.size := Array.length_toList
    show a.s.data.toList.length ≤ a.s.size + 1 + 0
    omega
  | a :: b :: r => by
    have ih := jT_wS (b :: r)
    have e : a.s.data.toList.length = a.s.size := Array.length_toList
    show (a.s.data.toList ++ 32 :: jT (b :: r)).length ≤ a.s.size + 1 + wS (b :: r)
    rw [List.length_append, List.length_cons]
    omega
theorem wS_wi (b : Bool) (ts : List Tk) : wS (wi b ts) ≤ wS ts + 4 := by
  cases b with
  | false => show wS ts ≤ _; omega
  | true =>
    show wS (ky kOpen :: (ts ++ [ky kShut])) ≤ _
    have e : wS (ky kOpen :: (ts ++ [ky kShut])) = 1 + 1 + wS (ts ++ [ky kShut]) := rfl
    rw [e, wS_app]
    show 1 + 1 + (wS ts + (1 + 1 + 0)) ≤ _
    omega
theorem wS_bars : ∀ (f : Fr), (∀ (j : Nat) t, f.get j = some t → wS (tkT t) + 2 ≤ 150 * szT t) → wS (bars (segF f)) ≤ 150 * f.sz
  | .nil, _ => Nat.zero_le _
  | .cons x k .nil, h => by
    have h0 := h 0 (x, k) rfl
    have hz : szT (x, k) = 1 + k.sz := rfl
    show wS (tkT (x, k)) ≤ 150 * (1 + k.sz + 0)
    omega
  | .cons x k (.cons y m q), h => by
    have h0 := h 0 (x, k) rfl
    have hz : szT (x, k) = 1 + k.sz := rfl
    have ih := wS_bars (.cons y m q) fun j t hj => h (j + 1) t hj
    have e : bars (segF (.cons x k (.cons y m q))) = tkT (x, k) ++ ky kBar :: bars (segF (.cons y m q)) := rfl
    rw [e, wS_app]
    show wS (tkT (x, k)) + (1 + 1 + wS (bars (segF (.cons y m q)))) ≤ 150 * (1 + k.sz + (Fr.cons y m q).sz)
    omega
theorem wS_all : ∀ (n : Nat) (t : Tr), szT t ≤ n → isT B.nck B.long t 1 = true → wS (tkT t) ≤ 150 * szT t
  | 0, t, h, _ => absurd h (by unfold szT; omega)
  | n + 1, t, h, ht => by
    have ih := wS_all n
    cases ty_form ht with
    | leaf k hk => rcases hk with rfl | rfl | rfl <;> decide
    | name s hs =>
      have h1 := long128 s hs
      show s.size + 1 + 0 ≤ 150 * (1 + 0)
      omega
    | two k hk a b hA hB =>
      have hz : szT (nd k nob (fr2 a b)) = 1 + (szT a + szT b) := by unfold szT; simp only [nd, fr2, fr1, Fr.sz]; omega
      have iA := ih a (by omega) hA
      have iB := ih b (by omega) hB
      rcases hk with rfl | rfl
      · rw [tk_two5, wS_app]
        have w1 := wS_wi (is5 a.1) (tkT a)
        show _ + (2 + 1 + wS (tkT b)) ≤ _
        omega
      · rw [tk_two6, wS_app]
        have w1 := wS_wi (is56 a.1) (tkT a)
        have w2 := wS_wi (is5 b.1) (tkT b)
        show _ + (1 + 1 + wS (wi (is5 b.1) (tkT b))) ≤ _
        omega
    | mu s hs c hc h0 =>
      have hz : szT (nd 7 s c) = 1 + c.sz := rfl
      have h1 := nck128 s hs
      have hb := wS_bars c fun j t' hj => by
        obtain ⟨s', u, rfl, hs', hu⟩ := con_form (all8_get hc.1 hj)
        have hg := Fr.get_sz hj
        have hz2 : szT (nd 8 s' (fr1 u)) = 1 + szT u := by unfold szT; simp only [nd, fr1, Fr.sz]; omega
        have iu := ih u (by omega) hu
        have h2 := nck128 s' hs'
        rw [tk_con]
        show s'.size + 1 + (2 + 1 + wS (tkT u)) + 2 ≤ _
        omega
      rw [tk_mu]
      show 2 + 1 + (s.size + 1 + (1 + 1 + wS (bars (segF c) ++ [ky kRight]))) ≤ _
      rw [wS_app]
      show 2 + 1 + (s.size + 1 + (1 + 1 + (wS (bars (segF c)) + (1 + 1 + 0)))) ≤ _
      omega
/-! ### each token of a type is one of the lexer's -/
structure TkOk (k : Tk) : Prop where
  ex : ∃ t : B.Tok, t.k = k.k ∧ B.T t.x = k.s ∧ B.Made t ∧ B.okl t.x ∧ ∀ r ∈ t.x, B.rdb (r : Int) = true
theorem ok_key (x : List Nat) (hx : x ∈ B.TKEYS) : TkOk (ky (B.T x)) := ⟨⟨⟨3, x, 0⟩, rfl, rfl, ⟨x, _, B.keys_tok x hx⟩, B.ok_ascii (by revert x; decide), fun r hr => by
  have h : ∀ x ∈ B.TKEYS, ∀ r ∈ x, 33 ≤ r ∧ r ≤ 126 := by decide
  exact B.rdb_plain (h x hx r hr)⟩⟩
theorem ok_long {s : ByteArray} (h : B.long s = true) : TkOk (nmT s) := by
  obtain ⟨x, h1, h2, h3, h4⟩ := B.long_tok h
  exact ⟨⟨⟨1, x, 0⟩, rfl, h1, ⟨x, _, h3⟩, h2, h4⟩⟩
theorem nck_long {s : ByteArray} (h : B.nck s = true) : B.long s = true := by
  have h1 := B.long_jb (l := [s]) (by simp) (by simp [h])
  rw [B.jb_one] at h1
  rw [h1]
  exact decide_eq_true (nck128 s h)
theorem okI : TkOk (ky kInt) := ok_key [105, 110, 116] (by decide)
theorem okBo : TkOk (ky kBool) := ok_key [98, 111, 111, 108] (by decide)
theorem okU : TkOk (ky kUnit) := ok_key [117, 110, 105, 116] (by decide)
theorem okOp : TkOk (ky kOpen) := ok_key [40] (by decide)
theorem okSh : TkOk (ky kShut) := ok_key [41] (by decide)
theorem okMu : TkOk (ky kMu) := ok_key [109, 117] (by decide)
theorem okLe : TkOk (ky kLeft) := ok_key [123] (by decide)
theorem okRi : TkOk (ky kRight) := ok_key [125] (by decide)
theorem okOf : TkOk (ky kOf) := ok_key [111, 102] (by decide)
theorem okBa : TkOk (ky kBar) := ok_key [124] (by decide)
theorem okAr : TkOk (ky kArrow) := ok_key [45, 62] (by decide)
theorem okSt : TkOk (ky kStar) := ok_key [42] (by decide)
theorem ok_wi {b : Bool} {ts : List Tk} (h : ∀ x ∈ ts, TkOk x) : ∀ x ∈ wi b ts, TkOk x := fun x hx => by
  rcases wi_mem hx with h1 | rfl | rfl
  · exact h x h1
  · exact okOp
  · exact okSh
theorem ok_bars : ∀ (f : Fr), (∀ (j : Nat) t, f.get j = some t → ∀ x ∈ tkT t, TkOk x) → ∀ x ∈ bars (segF f), TkOk x
  | .nil, _, x, hx => by cases hx
  | .cons y k .nil, h, x, hx => h 0 (y, k) rfl x hx
  | .cons y k (.cons z m q), h, x, hx => by
    have e : bars (segF (.cons y k (.cons z m q))) = tkT (y, k) ++ ky kBar :: bars (segF (.cons z m q)) := rfl
    rw [e] at hx
    rcases List.mem_append.1 hx with hx | hx
    · exact h 0 (y, k) rfl x hx
    · rcases List.mem_cons.1 hx with rfl | hx
      · exact okBa
      · exact ok_bars (.cons z m q) (fun j t hj => h (j + 1) t hj) x hx
theorem ok_all : ∀ (n : Nat) (t : Tr), szT t ≤ n → isT B.nck B.long t 1 = true → ∀ x ∈ tkT t, TkOk x
  | 0, t, h, _ => absurd h (by unfold szT; omega)
  | n + 1, t, h, ht => by
    have ih := ok_all n
    cases ty_form ht with
    | leaf k hk =>
      rcases hk with rfl | rfl | rfl <;> intro x hx
      · rw [List.mem_singleton.1 (show x ∈ [ky kInt] from hx)]; exact okI
      · rw [List.mem_singleton.1 (show x ∈ [ky kBool] from hx)]; exact okBo
      · rw [List.mem_singleton.1 (show x ∈ [ky kUnit] from hx)]; exact okU
    | name s hs =>
      intro x hx
      rw [List.mem_singleton.1 (show x ∈ [nmT s] from hx)]
      exact ok_long hs
    | two k hk a b hA hB =>
      have hz : szT (nd k nob (fr2 a b)) = 1 + (szT a + szT b) := by unfold szT; simp only [nd, fr2, fr1, Fr.sz]; omega
      have iA := ih a (by omega) hA
      have iB := ih b (by omega) hB
      rcases hk with rfl | rfl
      · rw [tk_two5]
        intro x hx
        rcases List.mem_append.1 hx with hx | hx
        · exact ok_wi iA x hx
        · rcases List.mem_cons.1 hx with rfl | hx
          · exact okAr
          · exact iB x hx
      · rw [tk_two6]
        intro x hx
        rcases List.mem_append.1 hx with hx | hx
        · exact ok_wi iA x hx
        · rcases List.mem_cons.1 hx with rfl | hx
          · exact okSt
          · exact ok_wi iB x hx
    | mu s hs c hc h0 =>
      have hz : szT (nd 7 s c) = 1 + c.sz := rfl
      have hb := ok_bars c fun j t' hj => by
        obtain ⟨s', u, rfl, hs', hu⟩ := con_form (all8_get hc.1 hj)
        have hg := Fr.get_sz hj
        have hz2 : szT (nd 8 s' (fr1 u)) = 1 + szT u := by unfold szT; simp only [nd, fr1, Fr.sz]; omega
        have iu := ih u (by omega) hu
        rw [tk_con]
        intro x hx
        rcases List.mem_cons.1 hx with rfl | hx
        · exact ok_long (nck_long hs')
        · rcases List.mem_cons.1 hx with rfl | hx
          · exact okOf
          · exact iu x hx
      rw [tk_mu]
      intro x hx
      rcases List.mem_cons.1 hx with rfl | hx
      · exact okMu
      · rcases List.mem_cons.1 hx with rfl | hx
        · exact ok_long (nck_long hs)
        · rcases List.mem_cons.1 hx with rfl | hx
          · exact okLe
          · rcases List.mem_append.1 hx with hx | hx
            · exact hb x hx
            · rw [List.mem_singleton.1 hx]; exact okRi
/-! ### read, they are the tokens -/
theorem toks_ex : ∀ (ts : List Tk), (∀ x ∈ ts, TkOk x) → ∃ us : List B.Tok, us.map (fun u => (⟨u.k, B.T u.x⟩ : Tk)) = ts ∧ (∀ u ∈ us, B.Made u) ∧ (∀ u ∈ us, B.okl u.x ∧ ∀ r ∈ u.x, B.rdb (r : Int) = true)
  | [], _ => ⟨[], rfl, (fun u h => by cases h), (fun u h => by cases h)⟩
  | k :: ts, h => by
    obtain ⟨us, h1, h2, h3⟩ := toks_ex ts fun x hx => h x (List.mem_cons_of_mem _ hx)
    obtain ⟨u, e1, e2, e3, e4, e5⟩ := (h k (List.mem_cons_self ..)).ex
    refine ⟨u :: us, ?_, ?_, ?_⟩
    · rw [List.map_cons, h1, e1, e2]
    · intro x hx
      rcases List.mem_cons.1 hx with rfl | hx
      · exact e3
      · exact h2 x hx
    · intro x hx
      rcases List.mem_cons.1 hx with rfl | hx
      · exact ⟨e4, e5⟩
      · exact h3 x hx
theorem lex_text {ts : List Tk} (h : ∀ x ∈ ts, TkOk x) (hz : wS ts ≤ 16384) : ∃ r, B.lexR (tB ts) = (r, 0, 0) ∧ r.map tkq = ts := by
  obtain ⟨us, h1, h2, h3⟩ := toks_ex ts h
  obtain ⟨r, h4, h5⟩ := B.lex_jn us 0 h2
  have hT : tB ts = B.T (B.jnL (us.map (·.x))) := by
    unfold tB B.T
    rw [B.jn_enc, ← join_txt, ← h1]
    have e : (txt (us.map fun u => (⟨u.k, B.T u.x⟩ : Tk))).map (fun x => x.data.toList) = (us.map (·.x)).map B.enc := by
      simp [txt, B.T_list]
    rw [e]
  have hok : ∀ r ∈ B.jnL (us.map (·.x)), B.ok r ∧ B.rdb (r : Int) = true := by
    intro r hr
    rcases B.jn_mem _ r hr with rfl | ⟨x, hx, hrx⟩
    · exact ⟨B.ok_ascii (l := [32]) (by decide) 32 (by simp), by decide⟩
    · obtain ⟨u, hu, rfl⟩ := List.mem_map.1 hx
      exact ⟨(h3 u hu).1 r hrx, (h3 u hu).2 r hrx⟩
  have hs : B.sz (B.jnL (us.map (·.x))) ≤ 16384 := by
    rw [← B.T_size, ← hT]
    have e : (tB ts).size = (jT ts).length := by show (jT ts).toArray.size = _; simp
    rw [e]
    exact Nat.le_trans (jT_wS ts) hz
  refine ⟨r, ?_, ?_⟩
  · rw [hT, B.lexR_T (fun r hr => (hok r hr).1) (fun r hr => (hok r hr).2) hs, h4]
  · have e : r.map tkq = (r.map (·.1)).map fun u => (⟨u.k, B.T u.x⟩ : Tk) := by rw [List.map_map]; rfl
    rw [e, h5, h1]
theorem lexR_few {s : ByteArray} (hs : s.size ≤ 16384) {l : List (B.Tok × Nat)} {a b : Int} (h : B.lexR s = (l, a, b)) : l.length ≤ 16384 ∧ ∀ t ∈ l.map tkq, t.s.size ≤ 1000000000 := by
  rcases B.lexR_out h with ⟨_, _, L, hL, hl⟩ | ⟨_, rfl⟩
  · have h1 := B.lex_len' hL hl
    have h2 := (B.lex_tot _ L 0 l (Nat.le_refl _) hL.ok hL.rd hl).1
    have hsz : B.sz L ≤ 16384 := by rw [← B.T_size, hL.txt]; exact hs
    refine ⟨by omega, fun t ht => ?_⟩
    obtain ⟨x, hx, rfl⟩ := List.mem_map.1 ht
    have h3 : ∀ (xs : List (List Nat)) y, y ∈ xs → B.sz y ≤ B.tot xs := by
      intro xs
      induction xs with
      | nil => intro y hy; cases hy
      | cons z xs ih =>
        intro y hy
        rcases List.mem_cons.1 hy with rfl | hy
        · show _ ≤ B.sz y + 1 + B.tot xs; omega
        · have := ih y hy; show _ ≤ B.sz z + 1 + B.tot xs; omega
    have h4 := h3 (l.map (·.1.x)) x.1.x (List.mem_map.2 ⟨x, hx, rfl⟩)
    show (B.T x.1.x).size ≤ _
    rw [B.T_size]
    omega
  · exact ⟨Nat.zero_le _, fun t ht => by cases ht⟩
end Go.Proofs.YthonaeigacfmbaaGreatDoor
