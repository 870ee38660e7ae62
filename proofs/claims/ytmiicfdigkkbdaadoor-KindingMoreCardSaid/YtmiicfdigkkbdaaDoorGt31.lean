/-
  Layer 10, the program's side: Shift, Subst, Free, Occurs.
-/
import Derived.Test.YtmiicfdigkkbdaaDoorGt30
import Derived.Lib.Join
namespace Go.Proofs.YtmiicfdigkkbdaaDoor
open Go.RowKit

theorem erh_none {R : Option Tr × Int} {W w' : World} {z : Int} (h : R = (none, z)) (u : Up W w') : ErH R W (.returned (.tuple #[.pointer none, .int .i64 z])) w' := ⟨_, by rw [h], by rw [h]; rfl, u⟩
theorem erh_some {R : Option Tr × Int} {W w' : World} {v : Value} {t : Tr} (h : R = (some t, 0)) (u : Up W w') (hv : HasT w' v (some t)) : ErH R W (.returned (.tuple #[v, .int .i64 0])) w' := ⟨v, by rw [h], by rw [h]; exact hv, u⟩
set_option maxHeartbeats 6400000 in
set_option maxRecDepth 100000 in
theorem pFree (o : Option Tr) (w : World) (v : Value) (h : HasT w v o) (hz : szO o ≤ 65536) : Calls Tryd.prog 15 #[v] w (InP (frR o) w) := by
  have cC := pCheck o w v h hz
  by_cases h0 : ckE o = 0
  · obtain ⟨t, rfl, hz1, hc1⟩ := ckE_ok h0
    have cR := fun W (u : Up w W) => reach_any t (co_tvok hc1) (by omega) W (fun q => q < w.heap.size) v (fun q hq => Nat.lt_of_lt_of_le hq u.size) (InT.keep (t := t) h (fun _ h => h) fun b hb => u.block b hb)
    have e : frR (some t) = fvT 0 t := if_pos h0
    rw [e]
    rw [h0] at cC
    obtain ⟨T, hT⟩ : ∃ T, fvT 0 t = T := ⟨_, rfl⟩
    rw [hT] at cR ⊢
    have CR := Lib.hid cR
    clear hT cR e hz1 hc1 hz h h0
    go_enter Tryd.func15, Tryd.ntmps15
    go_wp2_with fail
    refine cC.mono ?_
    rintro e w1 ⟨rfl, u1⟩
    go_wp2_with fail
    refine (CR.out w1 u1).mono ?_
    rintro e w2 ⟨rfl, u2⟩
    go_wp2_with fail
    go_ret
    exact ⟨rfl, u1.trans u2⟩
  · have e : frR o = 0 := by
      cases o with
      | none => rfl
      | some t => exact if_neg h0
    rw [e]
    obtain ⟨E, hE⟩ : ∃ E, ckE o = E := ⟨_, rfl⟩
    rw [hE] at cC h0
    have h2 : (E != 0) = true := by rw [bne_iff_ne]; exact h0
    clear hE hz h e h0
    go_enter Tryd.func15, Tryd.ntmps15
    go_wp2_with fail
    refine cC.mono ?_
    rintro e w1 ⟨rfl, u1⟩
    go_wp2_with fail
    go_ret
    exact ⟨rfl, u1⟩
theorem wrap_mul (C D : Nat) (h : C * D ≤ 5000000000) : wrap64 ((C : Int) * (D : Int)) = ((C * D : Nat) : Int) := by
  have e : (C : Int) * (D : Int) = ((C * D : Nat) : Int) := (Int.natCast_mul C D).symm
  rw [e]
  generalize C * D = P at h ⊢
  unfold wrap64
  omega
theorem wrap_mulI (C D : Nat) (h : C * D ≤ 5000000000) : IntKind.i64.wrap ((C : Int) * (D : Int)) = ((C * D : Nat) : Int) := by
  have e : (C : Int) * (D : Int) = ((C * D : Nat) : Int) := (Int.natCast_mul C D).symm
  rw [e, IntKind.wrap_i64]
  generalize C * D = P at h ⊢
  omega
theorem mul_small {C D : Nat} (hc : C ≤ 65536) (hd : D ≤ 65536) : C * D ≤ 5000000000 := Nat.le_trans (Nat.mul_le_mul hc hd) (by decide)
theorem sb_size {s c u : Nat} (hc : c ≤ s) (hu : 1 ≤ u) : (65536 < s - c + c * u) ↔ 65536 < s + c * (u - 1) := by
  obtain ⟨k, rfl⟩ : ∃ k, u = k + 1 := ⟨u - 1, by omega⟩
  rw [Nat.add_sub_cancel, Nat.mul_succ]
  omega
set_option maxHeartbeats 6400000 in
set_option maxRecDepth 100000 in
theorem pSubst (o p : Option Tr) (w : World) (v vu : Value) (i : Int) (h : HasT w v o) (hz : szO o ≤ 65536) (h' : HasT w vu p) (hz' : szO p ≤ 65536) : Calls Tryd.prog 16 #[v, .int .i64 i, vu] w (ErH (sbR i o p) w) := by
  have cC := pCheck o w v h hz
  have cD := fun W (u : Up w W) => pCheck p W vu (h'.up u) hz'
  by_cases h0 : ckE o = 0
  · rw [h0] at cC
    by_cases h1 : ckE p = 0
    · obtain ⟨t, rfl, hz1, hc1⟩ := ckE_ok h0
      obtain ⟨u, rfl, hz2, hc2⟩ := ckE_ok h1
      rw [h1] at cD
      have hct := ctT_le i 0 t
      have hu1 : 1 ≤ szT u := by unfold szT; omega
      have cS := fun W (q : Up w W) => uSize (some t) h hz q
      have cU := fun W (q : Up w W) => uSize (some u) h' hz' q
      have cP := fun W (q : Up w W) => places_any i t (co_tvok hc1) (by omega) W (fun q => q < w.heap.size) v (fun q' hq => Nat.lt_of_lt_of_le hq q.size) (InT.keep (t := t) h (fun _ h => h) fun b hb => q.block b hb)
      have cR := fun W (q : Up w W) => replaced_any i u t (co_tvok hc2) (by omega) (co_tvok hc1) (by omega) W (fun q => q < w.heap.size) v vu (fun q' hq => Nat.lt_of_lt_of_le hq q.size) (InT.keep (t := t) h (fun _ h => h) fun b hb => q.block b hb) (InT.keep (t := u) h' (fun _ h => h) fun b hb => q.block b hb)
      have hm := (fdT_pt i u (co_tvok hc2) (t := t) 0 true (co_tvok hc1)).2
      have hs3 := sb_size hct hu1
      have e : sbR i (some t) (some u) = if i < 0 then (none, 2) else if 65536 < szT t - ctT i 0 t + ctT i 0 t * szT u then (none, 3) else errO 3 (ptT i u 0 t) := by unfold sbR; rw [if_pos h0, if_pos h1]
      rw [e]
      have eS : szO (some t) = szT t := rfl
      have eU : szO (some u) = szT u := rfl
      rw [eS] at cS
      rw [eU] at cU
      obtain ⟨S, hS⟩ : ∃ S, szT t = S := ⟨_, rfl⟩
      obtain ⟨U, hU⟩ : ∃ S, szT u = S := ⟨_, rfl⟩
      obtain ⟨C, hC⟩ : ∃ S, ctT i 0 t = S := ⟨_, rfl⟩
      obtain ⟨R, hR⟩ : ∃ R, ptT i u 0 t = R := ⟨_, rfl⟩
      obtain ⟨T, hT⟩ : ∃ R, mpT (trP i u) 0 t = R := ⟨_, rfl⟩
      rw [hS] at cS hs3 hct hz1 ⊢
      rw [hU] at cU hs3 hu1 hz2 ⊢
      rw [hC] at cP hs3 hct ⊢
      rw [hR] at cR hm ⊢
      rw [hT] at cR hm
      obtain ⟨D, hD⟩ : ∃ D, U = D + 1 := ⟨U - 1, by omega⟩
      subst hD
      rw [Nat.add_sub_cancel] at hs3
      have hCD : C * D ≤ 5000000000 := mul_small (by omega) (by omega)
      have hwD : wrap64 (((D + 1 : Nat) : Int) - 1) = (D : Int) := by unfold wrap64; omega
      obtain ⟨P, hP⟩ : ∃ P, C * D = P := ⟨_, rfl⟩
      have hwP : wrap64 ((C : Int) * (D : Int)) = (P : Int) := by rw [wrap_mul C D hCD, hP]
      have hwP' : IntKind.i64.wrap ((C : Int) * (D : Int)) = (P : Int) := by rw [wrap_mulI C D hCD, hP]
      have hPs : P ≤ 5000000000 := by rw [← hP]; exact hCD
      have hwS : wrap64 ((S : Int) + (P : Int)) = ((S + P : Nat) : Int) := by clear hCD hP hwP hwP' hs3; unfold wrap64; omega
      rw [hP] at hs3
      have HS3 := Lib.hid hs3
      clear hs3 hCD hP
      have CS := Lib.hid cS
      have CU := Lib.hid cU
      have CP := Lib.hid cP
      have CR := Lib.hid cR
      have CD := Lib.hid cD
      have HM := Lib.hid hm
      obtain ⟨b1, hb1⟩ : ∃ b, R.isSome = b := ⟨_, rfl⟩
      have CR1 : Hid (∀ W, Up w W → Calls Tryd.prog 34 #[v, .int .i64 i, vu] W (fun e w' => ∃ v' t', e = .returned (.tuple #[v', .bool b1]) ∧ Up W w' ∧ InT w' (Sin (fun q => q < w.heap.size) W w') v' t' ∧ t' = T)) := Lib.hid (by rw [← hb1]; exact CR.out)
      clear hT hR cR cS cU cP cD e hz1 hc1 hc2 hz hz' h h' h0 h1 hm hS hU hC eS eU
      by_cases hin : i < 0
      · rw [if_pos hin]
        go_enter Tryd.func16, Tryd.ntmps16
        go_wp2_with fail
        refine cC.mono ?_
        rintro e w1 ⟨rfl, u1⟩
        go_wp2_with fail
        refine (CD.out w1 u1).mono ?_
        rintro e w2 ⟨rfl, u2⟩
        go_wp2_with fail
        go_ret2
        exact erh_none rfl (u1.trans u2)
      · rw [if_neg hin]
        by_cases hbig : 65536 < S - C + C * (D + 1)
        · rw [if_pos hbig]
          have hb2 : (65536 : Int) < (S : Int) + (P : Int) := by have := HS3.out.1 hbig; omega
          go_enter Tryd.func16, Tryd.ntmps16
          go_wp2_with fail
          refine cC.mono ?_
          rintro e w1 ⟨rfl, u1⟩
          go_wp2_with fail
          refine (CD.out w1 u1).mono ?_
          rintro e w2 ⟨rfl, u2⟩
          go_wp2_with fail
          refine (CS.out w2 (u1.trans u2)).mono ?_
          rintro e w3 ⟨rfl, u3⟩
          go_wp2_with fail
          refine (CP.out w3 u3).mono ?_
          rintro e w4 ⟨rfl, u4⟩
          go_wp2_with fail
          refine (CU.out w4 (u3.trans u4)).mono ?_
          rintro e w5 ⟨rfl, u5⟩
          go_wp2_with fail
          go_ret2
          exact erh_none rfl u5
        · rw [if_neg hbig]
          have hb2 : ¬ (65536 : Int) < (S : Int) + (P : Int) := fun h => hbig (HS3.out.2 (by omega))
          cases R with
          | none =>
            have hb1 : false = b1 := hb1
            subst hb1
            go_enter Tryd.func16, Tryd.ntmps16
            go_wp2_with fail
            refine cC.mono ?_
            rintro e w1 ⟨rfl, u1⟩
            go_wp2_with fail
            refine (CD.out w1 u1).mono ?_
            rintro e w2 ⟨rfl, u2⟩
            go_wp2_with fail
            refine (CS.out w2 (u1.trans u2)).mono ?_
            rintro e w3 ⟨rfl, u3⟩
            go_wp2_with fail
            refine (CP.out w3 u3).mono ?_
            rintro e w4 ⟨rfl, u4⟩
            go_wp2_with fail
            refine (CU.out w4 (u3.trans u4)).mono ?_
            rintro e w5 ⟨rfl, u5⟩
            go_wp2_with fail
            refine (CR1.out w5 u5).mono ?_
            rintro e w6 ⟨v', t', rfl, u6, h6, rfl⟩
            go_wp2_with fail
            go_ret2
            exact erh_none rfl (u5.trans u6)
          | some m =>
            have hb1 : true = b1 := hb1
            subst hb1
            go_enter Tryd.func16, Tryd.ntmps16
            go_wp2_with fail
            refine cC.mono ?_
            rintro e w1 ⟨rfl, u1⟩
            go_wp2_with fail
            refine (CD.out w1 u1).mono ?_
            rintro e w2 ⟨rfl, u2⟩
            go_wp2_with fail
            refine (CS.out w2 (u1.trans u2)).mono ?_
            rintro e w3 ⟨rfl, u3⟩
            go_wp2_with fail
            refine (CP.out w3 u3).mono ?_
            rintro e w4 ⟨rfl, u4⟩
            go_wp2_with fail
            refine (CU.out w4 (u3.trans u4)).mono ?_
            rintro e w5 ⟨rfl, u5⟩
            go_wp2_with fail
            refine (CR1.out w5 u5).mono ?_
            rintro e w6 ⟨v', t', rfl, u6, h6, ht⟩
            have ht2 : t' = m := ht.trans (HM.out m rfl)
            go_wp2_with fail
            go_ret2
            refine erh_some rfl (u5.trans u6) ?_
            rw [← ht2]
            exact InT.keep (t := t') h6 (fun q hq => by
              rcases hq with h | h
              · exact Nat.lt_of_lt_of_le h (u5.trans u6).size
              · exact h.2) fun _ _ => rfl
    · have e : sbR i o p = (none, ckE p) := by unfold sbR; rw [if_pos h0, if_neg h1]
      rw [e]
      obtain ⟨E, hE⟩ : ∃ E, ckE p = E := ⟨_, rfl⟩
      rw [hE] at cD h1 ⊢
      have h2 : (E != 0) = true := by rw [bne_iff_ne]; exact h1
      have CD := Lib.hid cD
      clear hE hz hz' h h' e h0 h1 cD
      go_enter Tryd.func16, Tryd.ntmps16
      go_wp2_with fail
      refine cC.mono ?_
      rintro e w1 ⟨rfl, u1⟩
      go_wp2_with fail
      refine (CD.out w1 u1).mono ?_
      rintro e w2 ⟨rfl, u2⟩
      go_wp2_with fail
      go_ret2
      exact erh_none rfl (u1.trans u2)
  · have e : sbR i o p = (none, ckE o) := by unfold sbR; rw [if_neg h0]
    rw [e]
    obtain ⟨E, hE⟩ : ∃ E, ckE o = E := ⟨_, rfl⟩
    rw [hE] at cC h0 ⊢
    have h2 : (E != 0) = true := by rw [bne_iff_ne]; exact h0
    clear hE hz hz' h h' e h0 cD
    go_enter Tryd.func16, Tryd.ntmps16
    go_wp2_with fail
    refine cC.mono ?_
    rintro e w1 ⟨rfl, u1⟩
    go_wp2_with fail
    go_ret2
    exact erh_none rfl u1
end Go.Proofs.YtmiicfdigkkbdaaDoor
namespace Go.Proofs.YtmiicfdigkkbdaaDoor

def jL (ts : List ByteArray) : List UInt8 := Lib.join (ts.map fun b => b.data.toList) [32]
theorem jL_one (x : ByteArray) : jL [x] = x.data.toList := Lib.join_one _ _
theorem jL_app {x y : List ByteArray} (hx : x ≠ []) (hy : y ≠ []) : jL (x ++ y) = jL x ++ 32 :: jL y := by
  cases x with
  | nil => exact absurd rfl hx
  | cons a x =>
    cases y with
    | nil => exact absurd rfl hy
    | cons b y =>
      show Lib.join (a.data.toList :: (x ++ b :: y).map fun b => b.data.toList) [32] = Lib.join (a.data.toList :: x.map fun b => b.data.toList) [32] ++ 32 :: Lib.join (b.data.toList :: y.map fun b => b.data.toList) [32]
      rw [Lib.join_cons, Lib.join_cons, Lib.join_cons]
      unfold Lib.joinTail
      simp
theorem jL_two (x y : ByteArray) : jL [x, y] = x.data.toList ++ 32 :: y.data.toList := by
  have := jL_app (x := [x]) (y := [y]) (by simp) (by simp)
  rw [jL_one, jL_one] at this
  exact this
theorem bl_app (a b : ByteArray) : (a ++ b).data.toList = a.data.toList ++ b.data.toList := by simp
def tkG (sep : List ByteArray) : Bool → List (List ByteArray) → List ByteArray
  | _, [] => []
  | f, t :: r => (if f then [] else sep) ++ t ++ tkG sep false r
theorem tkG_snoc (sep : List ByteArray) (t : List ByteArray) : ∀ (l : List (List ByteArray)) (f : Bool), tkG sep f (l ++ [t]) = tkG sep f l ++ (if f && l.isEmpty then [] else sep) ++ t
  | [], f => by cases f <;> simp [tkG]
  | a :: l, f => by
    show (if f then [] else sep) ++ a ++ tkG sep false (l ++ [t]) = (if f then [] else sep) ++ a ++ tkG sep false l ++ _ ++ t
    rw [tkG_snoc sep t l false]
    simp
def ndK (x : Nod) (ts : List (List ByteArray)) : List ByteArray :=
  if x.k = 100 then [⟨#[42]⟩]
  else if x.k = 110 then [⟨#[36]⟩ ++ ⟨(Lib.itoa x.n).toArray⟩]
  else if x.k = 111 then [⟨#[105, 110, 116]⟩]
  else if x.k = 112 then [⟨#[98, 111, 111, 108]⟩]
  else if x.k = 113 then [⟨#[117, 110, 105, 116]⟩]
  else if x.k = 101 ∨ x.k = 114 then [⟨#[40]⟩] ++ tkG [⟨#[45, 62]⟩] true ts ++ [⟨#[41]⟩]
  else if x.k = 120 then [⟨#[40]⟩] ++ tkG [] true ts ++ [⟨#[41]⟩]
  else if x.k = 115 then [⟨#[123]⟩] ++ tkG [⟨#[44]⟩] true ts ++ [⟨#[125]⟩]
  else if x.k = 116 then [x.a, ⟨#[61]⟩] ++ tkG [] true ts
  else if x.k = 117 then [⟨#[40]⟩, ⟨#[97, 108, 108]⟩] ++ tkG [⟨#[46]⟩] true ts ++ [⟨#[41]⟩]
  else if x.k = 118 then [⟨#[40]⟩, ⟨#[101, 120]⟩] ++ tkG [⟨#[46]⟩] true ts ++ [⟨#[41]⟩]
  else if x.k = 119 then [⟨#[40]⟩, ⟨#[102, 110]⟩] ++ tkG [⟨#[46]⟩] true ts ++ [⟨#[41]⟩]
  else if x.k = 121 then [⟨#[109, 117]⟩, ⟨#[123]⟩] ++ tkG [⟨#[124]⟩] true ts ++ [⟨#[125]⟩]
  else if x.k = 122 then [x.a, ⟨#[111, 102]⟩] ++ tkG [] true ts
  else []
def Fr.tk : Fr → List (List ByteArray)
  | .nil => []
  | .cons x k r => ndK x k.tk :: r.tk
def tkT (t : Tr) : List ByteArray := ndK t.1 t.2.tk
theorem Fr.tk_app (a b : Fr) : (a.app b).tk = a.tk ++ b.tk := by
  induction a with
  | nil => rfl
  | cons x k r _ ih => show _ :: (r.app b).tk = _; rw [ih]; rfl
theorem Fr.tk_empty (a : Fr) : a.tk.isEmpty = (a.len == 0) := by cases a <;> rfl
/-! ### how many -/
def wkX : List (List ByteArray) → Nat
  | [] => 0
  | t :: r => t.length + 1 + wkX r
theorem tkG_len {sep : List ByteArray} (hs : sep.length ≤ 1) : ∀ (ts : List (List ByteArray)) (f : Bool), (tkG sep f ts).length ≤ wkX ts
  | [], _ => Nat.zero_le _
  | t :: r, f => by
    have ih := tkG_len hs r false
    show ((if f then [] else sep) ++ t ++ tkG sep false r).length ≤ t.length + 1 + wkX r
    rw [List.length_append, List.length_append]
    have : (if f then [] else sep : List ByteArray).length ≤ 1 := by cases f <;> simp [hs]
    omega
theorem ite_len {p : Prop} [Decidable p] {a b : List ByteArray} {n : Nat} (h1 : a.length ≤ n) (h2 : b.length ≤ n) : (if p then a else b).length ≤ n := by split; exact h1; exact h2
theorem ndK_len (x : Nod) (ts : List (List ByteArray)) : (ndK x ts).length ≤ 4 + wkX ts := by
  have h0 := tkG_len (sep := []) (by simp) ts true
  have h1 := fun s => tkG_len (sep := [s]) (by simp) ts true
  have h2 := h1 ⟨#[45, 62]⟩
  have h3 := h1 ⟨#[44]⟩
  have h4 := h1 ⟨#[46]⟩
  have h5 := h1 ⟨#[124]⟩
  unfold ndK
  repeat' apply ite_len
  all_goals try simp only [List.length_append, List.length_cons, List.length_nil]
  all_goals omega
theorem Fr.tk_len (f : Fr) : wkX f.tk ≤ 5 * f.sz := by
  induction f with
  | nil => exact Nat.le_refl _
  | cons x k r ihk ihr =>
    have h := ndK_len x k.tk
    show (ndK x k.tk).length + 1 + wkX r.tk ≤ 5 * (1 + k.sz + r.sz)
    omega
theorem tkT_len (t : Tr) : (tkT t).length ≤ 5 * szT t := by
  have h := ndK_len t.1 t.2.tk
  have h1 := t.2.tk_len
  unfold tkT szT
  omega
/-! ### tokens and text -/
def rlP (m : Nat) (n : ByteArray) : List UInt8 := if m = 2 then n.data.toList ++ [32, 61, 32] else if m = 3 then n.data.toList ++ [32, 111, 102, 32] else []
def rlE (m : Nat) (tk : List ByteArray) (e : ByteArray × ByteArray) : Prop := tk ≠ [] ∧ jL tk = rlP m e.1 ++ e.2.data.toList
def rlF (m : Nat) : List (List ByteArray) → List (ByteArray × ByteArray) → Prop
  | [], [] => True
  | t :: ts, e :: es => rlE m t e ∧ rlF m ts es
  | _, _ => False
theorem rec_tk (k : Int) (m : Nat) (sep : ByteArray) (hk : (k = 115 ∧ m = 2 ∧ sep = ⟨#[44]⟩) ∨ (k = 121 ∧ m = 3 ∧ sep = ⟨#[124]⟩)) : ∀ (ts : List (List ByteArray)) (es : List (ByteArray × ByteArray)) (f : Bool) (A : List ByteArray) (s : ByteArray), A ≠ [] → jL A = s.data.toList → rlF m ts es → jL (A ++ tkG [sep] f ts) = (rcR k f s es).data.toList ∧ A ++ tkG [sep] f ts ≠ []
  | [], [], f, A, s, hA, hs, _ => by
    show jL (A ++ []) = s.data.toList ∧ A ++ [] ≠ []
    rw [List.append_nil]
    exact ⟨hs, hA⟩
  | [], _ :: _, _, _, _, _, _, h => h.elim
  | _ :: _, [], _, _, _, _, _, h => h.elim
  | t :: ts, (n, x) :: es, f, A, s, hA, hs, ⟨⟨h1, h2⟩, h3⟩ => by
    have e : A ++ tkG [sep] f (t :: ts) = (A ++ ((if f then [] else [sep]) ++ t)) ++ tkG [sep] false ts := by
      show A ++ ((if f then [] else [sep]) ++ t ++ tkG [sep] false ts) = _
      rw [List.append_assoc, List.append_assoc, List.append_assoc]
    rw [e]
    refine rec_tk k m sep hk ts es false _ (itS k f s n x) (by simp [hA]) ?_ h3
    have h2 : jL t = rlP m n ++ x.data.toList := h2
    unfold itS
    rcases hk with ⟨rfl, rfl, rfl⟩ | ⟨rfl, rfl, rfl⟩
    · cases f
      · show jL (A ++ ([_] ++ t)) = _
        rw [jL_app hA (by simp), jL_app (by simp) h1, jL_one, h2, hs]
        unfold rlP
        simp only [bl_app, if_pos, Bool.false_eq_true, if_false]
        simp
      · show jL (A ++ ([] ++ t)) = _
        rw [List.nil_append, jL_app hA h1, h2, hs]
        unfold rlP
        simp only [bl_app, if_pos]
        simp
    · cases f
      · show jL (A ++ ([_] ++ t)) = _
        rw [jL_app hA (by simp), jL_app (by simp) h1, jL_one, h2, hs]
        unfold rlP
        rw [if_neg (by decide), if_pos rfl, if_neg (by decide), if_neg (by decide), if_neg (by decide)]
        simp only [bl_app]
        simp
      · show jL (A ++ ([] ++ t)) = _
        rw [List.nil_append, jL_app hA h1, h2, hs]
        unfold rlP
        rw [if_neg (by decide), if_pos rfl, if_pos rfl, if_neg (by decide)]
        simp only [bl_app]
        simp
theorem two_tk (f : Fr) (hl : f.len = 2) (h : rlF 0 f.tk f.tx) (pre post sep : List ByteArray) (hp : pre ≠ []) (hq : post ≠ []) (a b c : ByteArray) (ha : a.data.toList = jL pre ++ [32]) (hb : b.data.toList = if sep = [] then [32] else 32 :: (jL sep ++ [32])) (hc : c.data.toList = 32 :: jL post) :
    jL (pre ++ tkG sep true f.tk ++ post) = (twX a b c f.tx).data.toList ∧ pre ++ tkG sep true f.tk ++ post ≠ [] := by
  cases f with
  | nil => cases hl
  | cons x k r =>
    cases r with
    | nil => cases hl
    | cons y l r =>
      cases r with
      | cons _ _ _ => simp [Fr.len] at hl
      | nil =>
        obtain ⟨⟨h1, h2⟩, ⟨h3, h4⟩, _⟩ := h
        refine ⟨?_, by simp [hp]⟩
        show jL (pre ++ ([] ++ tkT (x, k) ++ (sep ++ tkT (y, l) ++ [])) ++ post) = (a ++ txT (x, k) ++ b ++ txT (y, l) ++ c).data.toList
        have h1 : tkT (x, k) ≠ [] := h1
        have h3 : tkT (y, l) ≠ [] := h3
        have h2 : jL (tkT (x, k)) = (txT (x, k)).data.toList := h2
        have h4 : jL (tkT (y, l)) = (txT (y, l)).data.toList := h4
        rw [List.append_nil, List.nil_append, jL_app (by simp [hp]) hq, jL_app hp (by simp [h1])]
        simp only [bl_app]
        rw [ha, hb, hc]
        by_cases hs : sep = []
        · subst hs
          rw [List.nil_append, jL_app h1 h3, h2, h4, if_pos rfl]
          simp
        · rw [jL_app h1 (by simp [hs]), jL_app hs h3, h2, h4, if_neg hs]
          simp
theorem one_tk (f : Fr) (hl : f.len = 1) (h : rlF 0 f.tk f.tx) (pre : List ByteArray) (hp : pre ≠ []) : ∃ n s, f.tx = [(n, s)] ∧ jL (pre ++ tkG [] true f.tk) = jL pre ++ 32 :: s.data.toList ∧ pre ++ tkG [] true f.tk ≠ [] := by
  cases f with
  | nil => cases hl
  | cons x k r =>
    cases r with
    | cons _ _ _ => simp [Fr.len] at hl
    | nil =>
      obtain ⟨⟨h1, h2⟩, _⟩ := h
      refine ⟨x.a, txT (x, k), rfl, ?_, by simp [hp]⟩
      show jL (pre ++ ([] ++ tkT (x, k) ++ [])) = _
      have h1 : tkT (x, k) ≠ [] := h1
      have h2 : jL (tkT (x, k)) = (txT (x, k)).data.toList := h2
      rw [List.append_nil, List.nil_append, jL_app hp h1, h2]
theorem itoa_numb {n : Int} (h : 0 ≤ n) : (Lib.itoa n) = B.enc (B.numb n) := by
  rw [B.enc_numb]
  unfold Lib.itoa
  rw [if_neg (by omega), if_neg (by omega)]
theorem num_tk {n : Int} (h : 0 ≤ n) : (⟨(Lib.itoa n).toArray⟩ : ByteArray) = B.T (B.numb n) := by rw [itoa_numb h]; rfl
theorem kd_rel {f : Fr} (h : kdF f = true) : rlF 0 f.tk f.tx := by
  induction f with
  | nil => trivial
  | cons x k r ihk ihr =>
    rw [kdF_cons, Bool.and_eq_true] at h
    obtain ⟨h1, h2⟩ := h
    refine ⟨?_, ihr h2⟩
    unfold kdT at h1
    rw [Bool.and_eq_true] at h1
    obtain ⟨_, h4⟩ := h1
    split at h4
    · rename_i hk
      have hk : x.k = 100 := hk
      refine ⟨?_, ?_⟩
      · unfold ndK; rw [if_pos hk]; simp
      · show jL (ndK x k.tk) = [] ++ (ndX x k.tx).data.toList
        unfold ndK ndX
        rw [if_pos hk, if_pos hk, jL_one]
        rfl
    · rename_i hk0
      simp only [Bool.and_eq_true, beq_iff_eq] at h4
      obtain ⟨hk, hl, hd⟩ := h4
      have := two_tk k hl (ihk hd) [⟨#[40]⟩] [⟨#[41]⟩] [⟨#[45, 62]⟩] (by simp) (by simp) ⟨#[40, 32]⟩ ⟨#[32, 45, 62, 32]⟩ ⟨#[32, 41]⟩ rfl rfl rfl
      have e1 : ndK x k.tk = [⟨#[40]⟩] ++ tkG [⟨#[45, 62]⟩] true k.tk ++ [⟨#[41]⟩] := by unfold ndK; rw [hk]; rfl
      have e2 : ndX x k.tx = twX ⟨#[40, 32]⟩ ⟨#[32, 45, 62, 32]⟩ ⟨#[32, 41]⟩ k.tx := by unfold ndX; rw [hk]; rfl
      exact ⟨by rw [e1]; exact this.2, by rw [e1]; show _ = [] ++ _; rw [e2, List.nil_append]; exact this.1⟩
def md (m : Nat) : Nat := if m = 1 then 0 else m
theorem co_rel {f : Fr} : ∀ {m : Nat}, m ≤ 3 → coF m f = true → rlF (md m) f.tk f.tx := by
  induction f with
  | nil => intro m _ _; trivial
  | cons x k r ihk ihr =>
    intro m hm h
    have hv := (co_vok h).1.2
    have hr : coF (if m = 1 then 0 else m) r = true := by
      unfold coF at h
      rw [Bool.and_eq_true] at h
      exact h.2
    have hmd : md (if m = 1 then 0 else m) = md m := by unfold md; split <;> rfl
    have ir := ihr (m := if m = 1 then 0 else m) (by split <;> omega) hr
    rw [hmd] at ir
    refine ⟨?_, ir⟩
    show rlE (md m) (ndK x k.tk) (x.a, ndX x k.tx)
    by_cases hm1 : m = 1
    · subst hm1
      rw [coF_1, Bool.and_eq_true] at h
      have := kd_rel (f := .cons x k .nil) (by rw [kdF_cons, h.1]; rfl)
      exact this.1
    · by_cases hm0 : m = 0
      · subst hm0
        have h0 : coT (x, k) = true := by
          rw [coF_0, Bool.and_eq_true] at h
          exact h.1
        show rlE 0 _ _
        have E : ∀ (A : List ByteArray) (X : ByteArray), ndK x k.tk = A → ndX x k.tx = X → jL A = X.data.toList ∧ A ≠ [] → rlE 0 (ndK x k.tk) (x.a, ndX x k.tx) := fun A X h1 h2 h3 => by
          rw [h1, h2]
          exact ⟨h3.2, h3.1⟩
        unfold coT at h0
        split at h0
        · rename_i hk
          have hk : x.k = 110 := hk
          have hn := (hv hk).1
          refine E [⟨#[36]⟩ ++ ⟨(Lib.itoa x.n).toArray⟩] (⟨#[36]⟩ ++ B.T (B.numb x.n)) (by unfold ndK; rw [hk]; rfl) (by unfold ndX; rw [hk]; rfl) ⟨?_, by simp⟩
          rw [jL_one, num_tk hn]
        · rw [Bool.and_eq_true] at h0
          have h1 := h0.2
          split at h1
          · rename_i hk
            have hk : 111 ≤ x.k ∧ x.k ≤ 113 := hk
            have : x.k = 111 ∨ x.k = 112 ∨ x.k = 113 := by omega
            rcases this with hk | hk | hk
            · exact E [⟨#[105, 110, 116]⟩] ⟨#[105, 110, 116]⟩ (by unfold ndK; rw [hk]; rfl) (by unfold ndX; rw [hk]; rfl) ⟨jL_one _, by simp⟩
            · exact E [⟨#[98, 111, 111, 108]⟩] ⟨#[98, 111, 111, 108]⟩ (by unfold ndK; rw [hk]; rfl) (by unfold ndX; rw [hk]; rfl) ⟨jL_one _, by simp⟩
            · exact E [⟨#[117, 110, 105, 116]⟩] ⟨#[117, 110, 105, 116]⟩ (by unfold ndK; rw [hk]; rfl) (by unfold ndX; rw [hk]; rfl) ⟨jL_one _, by simp⟩
          · split at h1
            · rename_i hk
              have hk : x.k = 114 ∨ x.k = 120 := hk
              simp only [Bool.and_eq_true, beq_iff_eq] at h1
              have ik := ihk (m := 0) (by omega) h1.2
              rcases hk with hk | hk
              · exact E _ _ (by unfold ndK; rw [hk]; rfl) (by unfold ndX; rw [hk]; rfl) (two_tk k h1.1 ik [⟨#[40]⟩] [⟨#[41]⟩] [⟨#[45, 62]⟩] (by simp) (by simp) ⟨#[40, 32]⟩ ⟨#[32, 45, 62, 32]⟩ ⟨#[32, 41]⟩ rfl rfl rfl)
              · exact E _ _ (by unfold ndK; rw [hk]; rfl) (by unfold ndX; rw [hk]; rfl) (two_tk k h1.1 ik [⟨#[40]⟩] [⟨#[41]⟩] [] (by simp) (by simp) ⟨#[40, 32]⟩ ⟨#[32]⟩ ⟨#[32, 41]⟩ rfl rfl rfl)
            · split at h1
              · rename_i hk
                have hk : x.k = 115 := hk
                rw [Bool.and_eq_true] at h1
                have ik := ihk (m := 2) (by omega) h1.2
                obtain ⟨r1, r2⟩ := rec_tk 115 2 ⟨#[44]⟩ (.inl ⟨rfl, rfl, rfl⟩) k.tk k.tx true [⟨#[123]⟩] ⟨#[123]⟩ (by simp) (jL_one _) ik
                refine E ([⟨#[123]⟩] ++ tkG [⟨#[44]⟩] true k.tk ++ [⟨#[125]⟩]) (rcR 115 true ⟨#[123]⟩ k.tx ++ ⟨#[32, 125]⟩) (by unfold ndK; rw [hk]; rfl) (by unfold ndX; rw [hk]; rfl) ⟨?_, by simp⟩
                rw [jL_app r2 (by simp), r1, jL_one, bl_app]
              · split at h1
                · rename_i hk
                  have hk : 117 ≤ x.k ∧ x.k ≤ 119 := hk
                  simp only [Bool.and_eq_true, beq_iff_eq] at h1
                  have ik := ihk (m := 1) (by omega) h1.2
                  have : x.k = 117 ∨ x.k = 118 ∨ x.k = 119 := by omega
                  rcases this with hk | hk | hk
                  · exact E _ _ (by unfold ndK; rw [hk]; rfl) (by unfold ndX; rw [hk]; rfl) (two_tk k h1.1 ik [⟨#[40]⟩, ⟨#[97, 108, 108]⟩] [⟨#[41]⟩] [⟨#[46]⟩] (by simp) (by simp) ⟨#[40, 32, 97, 108, 108, 32]⟩ ⟨#[32, 46, 32]⟩ ⟨#[32, 41]⟩ rfl rfl rfl)
                  · exact E _ _ (by unfold ndK; rw [hk]; rfl) (by unfold ndX; rw [hk]; rfl) (two_tk k h1.1 ik [⟨#[40]⟩, ⟨#[101, 120]⟩] [⟨#[41]⟩] [⟨#[46]⟩] (by simp) (by simp) ⟨#[40, 32, 101, 120, 32]⟩ ⟨#[32, 46, 32]⟩ ⟨#[32, 41]⟩ rfl rfl rfl)
                  · exact E _ _ (by unfold ndK; rw [hk]; rfl) (by unfold ndX; rw [hk]; rfl) (two_tk k h1.1 ik [⟨#[40]⟩, ⟨#[102, 110]⟩] [⟨#[41]⟩] [⟨#[46]⟩] (by simp) (by simp) ⟨#[40, 32, 102, 110, 32]⟩ ⟨#[32, 46, 32]⟩ ⟨#[32, 41]⟩ rfl rfl rfl)
                · split at h1
                  · rename_i hk
                    have hk : x.k = 121 := hk
                    simp only [Bool.and_eq_true] at h1
                    have ik := ihk (m := 3) (by omega) h1.2.2
                    obtain ⟨r1, r2⟩ := rec_tk 121 3 ⟨#[124]⟩ (.inr ⟨rfl, rfl, rfl⟩) k.tk k.tx true [⟨#[123]⟩] ⟨#[123]⟩ (by simp) (jL_one _) ik
                    refine E ([⟨#[109, 117]⟩] ++ ([⟨#[123]⟩] ++ tkG [⟨#[124]⟩] true k.tk) ++ [⟨#[125]⟩]) (⟨#[109, 117, 32]⟩ ++ rcR 121 true ⟨#[123]⟩ k.tx ++ ⟨#[32, 125]⟩) (by unfold ndK; rw [hk]; rfl) (by unfold ndX; rw [hk]; rfl) ⟨?_, by simp⟩
                    rw [jL_app (by simp) (by simp), jL_app (by simp) r2, r1, jL_one, jL_one, bl_app, bl_app]
                    simp
                  · cases h1
      · have hm23 : m = 2 ∨ m = 3 := by omega
        rcases hm23 with rfl | rfl
        · rw [coF_2, Bool.and_eq_true] at h
          have h1 := h.1
          unfold fdT at h1
          simp only [Bool.and_eq_true, beq_iff_eq] at h1
          obtain ⟨hk, _, _, hl, hc⟩ := h1
          have hk : x.k = 116 := hk
          have ik := ihk (m := 0) (by omega) hc
          obtain ⟨n, s, e1, e2, e3⟩ := one_tk k hl ik [x.a, ⟨#[61]⟩] (by simp)
          have d1 : ndK x k.tk = [x.a, ⟨#[61]⟩] ++ tkG [] true k.tk := by unfold ndK; rw [hk]; rfl
          have d2 : ndX x k.tx = s := by unfold ndX; rw [hk, e1]; rfl
          refine ⟨by rw [d1]; exact e3, ?_⟩
          rw [d1, e2, jL_two, d2]
          unfold rlP md
          simp
        · rw [coF_3, Bool.and_eq_true] at h
          have h1 := h.1
          unfold fdT at h1
          simp only [Bool.and_eq_true, beq_iff_eq] at h1
          obtain ⟨hk, _, _, hl, hc⟩ := h1
          have hk : x.k = 122 := hk
          have ik := ihk (m := 0) (by omega) hc
          obtain ⟨n, s, e1, e2, e3⟩ := one_tk k hl ik [x.a, ⟨#[111, 102]⟩] (by simp)
          have d1 : ndK x k.tk = [x.a, ⟨#[111, 102]⟩] ++ tkG [] true k.tk := by unfold ndK; rw [hk]; rfl
          have d2 : ndX x k.tx = s := by unfold ndX; rw [hk, e1]; rfl
          refine ⟨by rw [d1]; exact e3, ?_⟩
          rw [d1, e2, jL_two, d2]
          unfold rlP md
          simp
theorem tkT_text {t : Tr} (h : coT t = true ∨ kdT t = true) : jL (tkT t) = (txT t).data.toList ∧ tkT t ≠ [] := by
  have : rlF 0 (Fr.cons t.1 t.2 .nil).tk (Fr.cons t.1 t.2 .nil).tx := by
    rcases h with h | h
    · exact co_rel (m := 0) (by omega) (by rw [coF_0]; exact (Bool.and_true _).trans h)
    · exact kd_rel (by rw [kdF_cons]; exact (Bool.and_true _).trans h)
  exact ⟨this.1.2, this.1.1⟩
end Go.Proofs.YtmiicfdigkkbdaaDoor
