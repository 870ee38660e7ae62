/-
  Layer 12, the program's side: strays: a set of all nodes whose own variable stands astray in them.
-/
import Derived.Test.YtmiicfdigkkbdaaDoorGt37
import Derived.Test.YtmiicfdigkkbdaaDoorGt39
namespace Go.Proofs.YtmiicfdigkkbdaaDoor
open Go.RowKit

def SyP (t : Tr) (Sq : Nat → Prop) (v : Value) (w : World) (e : Ending) (w' : World) : Prop := ∃ mb es ck, e = .returned (.map (some mb)) ∧ w'.heap[mb]? = some (.map es ck) ∧ Kys w' Sq es ∧ CovT w' (InK es) v t ∧ Up w w'
theorem four_up (w : World) (o1 o2 o3 o4 : Obj) {H : Nat} (hH : w.heap.size = H) : ((((w.alloc o1).alloc o2).alloc o3).alloc o4).heap[H]? = some o1 ∧ ((((w.alloc o1).alloc o2).alloc o3).alloc o4).heap[H + 1]? = some o2 ∧ ((((w.alloc o1).alloc o2).alloc o3).alloc o4).heap[H + 2]? = some o3 ∧ ((((w.alloc o1).alloc o2).alloc o3).alloc o4).heap[H + 3]? = some o4 ∧ Up w ((((w.alloc o1).alloc o2).alloc o3).alloc o4) ∧ ((((w.alloc o1).alloc o2).alloc o3).alloc o4).heap.size = H + 4 := by
  have h1 := heap_alloc_new w o1
  have h2 := heap_alloc_new (w.alloc o1) o2
  have h3 := heap_alloc_new ((w.alloc o1).alloc o2) o3
  have h4 := heap_alloc_new (((w.alloc o1).alloc o2).alloc o3) o4
  simp only [World.size_alloc, hH] at h1 h2 h3 h4
  exact ⟨block_alloc _ (block_alloc _ (block_alloc _ h1)), block_alloc _ (block_alloc _ h2), block_alloc _ h3, h4, ((((Up.refl w).alloc _).alloc _).alloc _).alloc _, by simp only [World.size_alloc, hH]⟩
set_option maxHeartbeats 6400000 in
set_option maxRecDepth 100000 in
theorem pStrays (t : Tr) (hz : szT t ≤ 1000000) (hvok : tvok t) {w : World} {Sq : Nat → Prop} {v : Value} (hS : Bel Sq w.heap.size) (hin : InT w Sq v t) :
    Calls Tryd.prog 20 #[v] w (SyP t Sq v w) := by
  obtain ⟨q, p, rfl⟩ := hin.ptr
  obtain ⟨H, hH⟩ : ∃ H, w.heap.size = H := ⟨_, rfl⟩
  have HIN := Lib.hid hin
  have HS := Lib.hid hS
  have HZ := Lib.hid hz
  have HV := Lib.hid hvok
  have HH := Lib.hid hH
  clear hin hS hz hvok hH
  have hmm : ∀ W : World, (Instr.makeMap 52 none).run Tryd.prog W = .ok (.map (some W.heap.size)) (W.alloc (.map #[] 0)) := fun W => by kernel_rfl
  go_enter Tryd.func20, Tryd.ntmps20
  go_wp2_with fail
  rw [HH.out, show H + 1 + 1 = H + 2 from rfl, show H + 2 + 1 = H + 3 from rfl]
  have four := four_up w (.map #[] 0) (.cells #[.map (some H)] 52) (.cells #[.slice none 0 0] 33) (.cells #[.func (.func 39) #[] #[.pointer (some ⟨H + 2, 0, none⟩), .pointer (some ⟨H + 1, 0, none⟩), .pointer (some ⟨H + 3, 0, none⟩)]] 74) HH.out
  obtain ⟨W4, hW4⟩ : ∃ W, (((w.alloc (.map #[] 0)).alloc (.cells #[.map (some H)] 52)).alloc (.cells #[.slice none 0 0] 33)).alloc (.cells #[.func (.func 39) #[] #[.pointer (some ⟨H + 2, 0, none⟩), .pointer (some ⟨H + 1, 0, none⟩), .pointer (some ⟨H + 3, 0, none⟩)]] 74) = W := ⟨_, rfl⟩
  rw [hW4] at four ⊢
  obtain ⟨f1, f2, f3, f4, fu, fs⟩ := four
  have hSH : Bel Sq H := fun q hq => by have := HS.out q hq; rw [HH.out] at this; exact this
  have hin4 : InT W4 Sq (.pointer (some ⟨q, p, none⟩)) t := HIN.out.keep (fun _ h => h) fun b hb => fu.block b (HS.out b hb)
  have cW := wk_all 1000000 (Nat.le_refl _) t HZ.out HV.out W4 Sq (.pointer (some ⟨q, p, none⟩)) H (H + 1) (H + 2) (H + 3) H (H + 4) (.slice none 0 0) [] #[] false
    ⟨⟨by omega, by omega, by omega, by omega⟩, ⟨by omega, by omega, by omega, by omega⟩, by omega, by omega, by omega, by omega, by omega⟩ (by omega) hSH hin4 ⟨⟨0, f1⟩, f2, f3, f4, World.ownsRow_nil _ _ _ _⟩ (Kys.nil _ _) (fun i a h => absurd h.1 (Nat.not_lt_zero _)) (by have := HZ.out; simp only [List.length_nil]; omega)
  have FU := Lib.hid fu
  clear hW4 f1 f2 f3 f4 fu fs hSH hin4 hmm
  refine cW.mono ?_
  rintro e w5 ⟨rfl, va5, es5, ⟨⟨ck5, hm5⟩, hf5, _, _, _⟩, hky5, _, _, hcv5, hb5⟩
  have cf5 : w5.cell? ⟨H + 1, 0, none⟩ = some (.map (some H)) := cell_of_row w5 (H + 1) 0 _ _ _ hf5
  have hup : Up w w5 := by
    show Below w.heap.size w w5
    have h1 : Below w.heap.size w W4 := FU.out
    rw [HH.out] at h1 ⊢
    exact h1.trans hb5
  have HFIN := Lib.hid (⟨hm5, hky5, hcv5, hup⟩ : w5.heap[H]? = some (.map es5 ck5) ∧ Kys w5 Sq es5 ∧ CovT w5 (InK es5) (.pointer (some ⟨q, p, none⟩)) t ∧ Up w w5)
  clear hm5 hky5 hcv5 cW hf5 hb5 hup
  go_wp2_with fail
  go_ret
  exact ⟨H, es5, ck5, rfl, HFIN.out.1, HFIN.out.2.1, HFIN.out.2.2.1, HFIN.out.2.2.2⟩
end Go.Proofs.YtmiicfdigkkbdaaDoor
namespace Go.Proofs.YtmiicfdigkkbdaaDoor
open Go.RowKit

def rfE (C : List (Option Tr)) (o : Option Tr) : Int := if cxN C = true then 1 else if ckE o ≠ 0 then ckE o else if cxB C = true then 2 else 0
def rfS (C : List (Option Tr)) (o : Option Tr) : Int := if ckE o ≠ 0 then ckE o else if cxB C = true then 2 else 0
theorem rfS_snoc {C : List (Option Tr)} {o t : Option Tr} : rfS (C ++ [t]) o = if kkE t = 0 then rfS C o else if rfS C o = 0 then 2 else rfS C o := by
  unfold rfS cxB
  rw [List.any_append]
  by_cases h : ckE o ≠ 0
  · rw [if_pos h, if_pos h]
    by_cases h2 : kkE t = 0
    · rw [if_pos h2]
    · rw [if_neg h2, if_neg h]
  · rw [if_neg h, if_neg h]
    by_cases h2 : kkE t = 0
    · rw [if_pos h2]
      simp [h2]
    · rw [if_neg h2]
      cases h3 : C.any fun o => decide (kkE o ≠ 0)
      · simp [h2]
      · simp
theorem rf_three (C : List (Option Tr)) (o : Option Tr) (h : cxN C = false) : rfE C o = rfS C o := by
  unfold rfE rfS
  rw [if_neg (by rw [h]; decide)]
set_option maxHeartbeats 6400000 in
set_option maxRecDepth 100000 in
theorem pRefused (C : List (Option Tr)) (o : Option Tr) {w : World} {cv v : Value} (hcv : Cxo w cv C) (hcl : C.length ≤ 1000) (hcz : ∀ t ∈ C, szO t ≤ 65536) (hv : HasT w v o) (hz : szO o ≤ 65536) :
    Calls Tryd.prog 25 #[cv, v] w (InP (rfE C o) w) := by
  obtain ⟨A, n, rfl⟩ := hcv.form
  have cC := pCheck o w v hv hz
  obtain ⟨oq, rfl⟩ := InO.one hv
  obtain ⟨N, hN⟩ : ∃ N, C.length = N := ⟨_, rfl⟩
  obtain ⟨E0, hE0⟩ : ∃ E, ckE o = E := ⟨_, rfl⟩
  obtain ⟨R, hR⟩ : ∃ R, rfE C o = R := ⟨_, rfl⟩
  have HE0 : Hid (rfS [] o = E0) := Lib.hid (by
    unfold rfS
    rw [hE0]
    by_cases h : E0 ≠ 0
    · rw [if_pos h]
    · rw [if_neg h]
      have h0 : E0 = 0 := by omega
      rw [h0]; rfl)
  rw [hE0] at cC
  rw [hN] at hcl ⊢
  rw [hR]
  have HC := Lib.hid hcv
  have HCZ := Lib.hid hcz
  have HN := Lib.hid hN
  have HR := Lib.hid hR
  clear hcv hcz hv hz hN hE0 hR
  go_enter Tryd.func25, Tryd.ntmps25
  go_wp2_with fail
  refine cC.mono ?_
  rintro e w1 ⟨rfl, u1⟩
  have U1 := Lib.hid u1
  clear u1 cC
  go_wp2_with fail
  go_loopw [5, 7, 12] (fun ev _ j wr => ∃ (k : Nat), j = .int .i64 k ∧ k ≤ N ∧ ev = .int .i64 (rfS (C.take k) o) ∧ cxN (C.take k) = false ∧ Up w wr) (fun _ _ j _ => N - (intOf j).toNat)
  case atStart => exact ⟨0, rfl, Nat.zero_le _, by rw [List.take_zero, HE0.out], rfl, U1.out⟩
  case round =>
    obtain ⟨k, rfl, hk, rfl, hn, hu⟩ := hrel
    obtain ⟨E, hE⟩ : ∃ E, rfS (C.take k) o = E := ⟨_, rfl⟩
    rw [hE]
    have HE := Lib.hid hE
    have HNN := Lib.hid hn
    have HU := Lib.hid hu
    clear hn hu hE
    by_cases hlt : k < N
    · obtain ⟨t, ht⟩ : ∃ t, C[k]? = some t := ⟨_, List.getElem?_eq_getElem (by rw [HN.out]; exact hlt)⟩
      have hc := HC.out
      rw [HN.out] at hc
      obtain ⟨b, o', u, rfl, hcell, hu⟩ := hc.at ht
      have hcell := HU.out.cell hcell
      have hkz : (k : Int) < (N : Int) := by omega
      have cK := pKind t _ u (hu.up HU.out) (HCZ.out t (List.mem_of_getElem? ht))
      have hT : C.take (k + 1) = C.take k ++ [t] := by rw [List.take_add_one, ht]; rfl
      have HT := Lib.hid hT
      have HM := Lib.hid (List.mem_of_getElem? ht)
      obtain ⟨uq, rfl⟩ := InO.one hu
      clear hu ht hc hT
      cases t with
      | none =>
        have HX : Hid (R = 1) := Lib.hid (by
          rw [← HR.out]
          unfold rfE
          rw [if_pos]
          exact List.any_eq_true.2 ⟨none, HM.out, rfl⟩)
        have cK : Calls Tryd.prog 13 #[.pointer uq] _ (InP 1 _) := cK
        go_wp2_with fail
        refine cK.mono ?_
        rintro e w3 ⟨rfl, u3⟩
        have U3 := Lib.hid (HU.out.trans u3)
        clear u3 cK
        go_wp2_with fail
        go_ret
        exact ⟨by rw [HX.out]; rfl, U3.out⟩
      | some t =>
        have HNX : Hid (cxN (C.take (k + 1)) = false) := Lib.hid (by unfold cxN; rw [HT.out, List.any_append]; have := HNN.out; unfold cxN at this; rw [this]; rfl)
        have hsn := rfS_snoc (C := C.take k) (o := o) (t := some t)
        rw [← HT.out, HE.out] at hsn
        have HSN := Lib.hid hsn
        clear hsn
        rcases kk_three t with h | h | h
        · rw [h] at cK
          have HX : Hid (rfS (C.take (k + 1)) o = E) := Lib.hid (by rw [HSN.out, if_pos h])
          clear h
          go_wp2_with fail
          refine cK.mono ?_
          rintro e w3 ⟨rfl, u3⟩
          have U3 := Lib.hid (HU.out.trans u3)
          clear u3 cK
          go_wp2_with fail
          go_roundw
          case rel => exact ⟨k + 1, by go_num, hlt, by rw [HX.out], HNX.out, U3.out⟩
          case measure => simp [intOf]; omega
        all_goals
          rw [h] at cK
          by_cases h0 : E = 0
          · have HX : Hid (rfS (C.take (k + 1)) o = 2) := Lib.hid (by rw [HSN.out, if_neg (by rw [h]; decide), if_pos h0])
            subst h0
            clear h
            go_wp2_with fail
            refine cK.mono ?_
            rintro e w3 ⟨rfl, u3⟩
            have U3 := Lib.hid (HU.out.trans u3)
            clear u3 cK
            go_wp2_with fail
            go_roundw
            case rel => exact ⟨k + 1, by go_num, hlt, by rw [HX.out], HNX.out, U3.out⟩
            case measure => simp [intOf]; omega
          · have HX : Hid (rfS (C.take (k + 1)) o = E) := Lib.hid (by rw [HSN.out, if_neg (by rw [h]; decide), if_neg h0])
            have h9 : (E == 0) = false := by rw [beq_eq_false_iff_ne]; exact h0
            clear h h0
            go_wp2_with fail
            refine cK.mono ?_
            rintro e w3 ⟨rfl, u3⟩
            have U3 := Lib.hid (HU.out.trans u3)
            clear u3 cK
            go_wp2_with fail
            go_roundw
            case rel => exact ⟨k + 1, by go_num, hlt, by rw [HX.out], HNX.out, U3.out⟩
            case measure => simp [intOf]; omega
    · have hkz : ¬ (k : Int) < (N : Int) := by omega
      have htk : C.take k = C := List.take_of_length_le (by rw [HN.out]; omega)
      have he := HE.out
      have hnn := HNN.out
      rw [htk] at he hnn
      have HX : Hid (R = E) := Lib.hid (by rw [← HR.out, rf_three C o hnn, he])
      clear htk he hnn
      go_wp2_with fail
      go_ret
      exact ⟨by rw [HX.out]; rfl, HU.out⟩
theorem kn_ref {C : List (Option Tr)} {o : Option Tr} (h0 : rfE C o ≠ 0) : knR C o = (none, rfE C o) := by
  by_cases h1 : cxN C = true
  · unfold knR rfE
    rw [if_pos h1, if_pos h1]
  · by_cases h2 : ckE o = 0
    · by_cases h3 : cxB C = true
      · have e : rfE C o = 2 := by unfold rfE; rw [if_neg h1, if_neg (fun h => h h2), if_pos h3]
        rw [e]
        unfold knR
        rw [if_neg h1, if_pos h2, if_pos h3]
      · exact absurd (by unfold rfE; rw [if_neg h1, if_neg (fun h => h h2), if_neg h3]) h0
    · have e : rfE C o = ckE o := by unfold rfE; rw [if_neg h1, if_pos h2]
      rw [e]
      unfold knR
      rw [if_neg h1, if_neg h2]
theorem te_of_kxq {Q : Kx} {C : List (Option Tr)} {o : Option Tr} {W0 W w' : World} {e : Ending} (hK : knR C o = match Q with
    | .ok k => (some k, 0)
    | .error e => (none, ((e + 1 : Nat) : Int))) (k : KxQ Q W e w') (u : Up W0 w') : TeP (knR C o) W0 e w' := by
  rw [hK]
  cases Q with
  | error z => exact ⟨.pointer none, k.1 z rfl, rfl, u⟩
  | ok t =>
    obtain ⟨v, h1, h2⟩ := k.2.1 t rfl
    exact ⟨v, h1, h2, u⟩
set_option maxHeartbeats 6400000 in
set_option maxRecDepth 100000 in
theorem pKind12 (C : List (Option Tr)) (o : Option Tr) {w : World} {cv v : Value} (hcv : Cxo w cv C) (hcl : C.length ≤ 1000) (hcz : ∀ t ∈ C, szO t ≤ 65536) (hv : HasT w v o) (hz : szO o ≤ 65536) (hap : ApO C o) :
    Calls Tryd.prog 12 #[cv, v] w (TeP (knR C o) w) := by
  obtain ⟨A, n, rfl⟩ := hcv.form
  have cR := pRefused C o hcv hcl hcz hv hz
  by_cases h0 : rfE C o = 0
  · have hN : cxN C = false := by
      cases h : cxN C with
      | false => rfl
      | true => unfold rfE at h0; rw [if_pos h] at h0; cases h0
    rw [h0] at cR
    rw [rf_three C o hN] at h0
    have hck : ckE o = 0 := by
      apply Classical.byContradiction
      intro h
      unfold rfS at h0
      rw [if_pos h] at h0
      exact h h0
    have hB : cxB C = false := by
      cases h : cxB C with
      | false => rfl
      | true =>
        unfold rfS at h0
        rw [if_neg (by rw [hck]; exact fun h => h rfl), if_pos h] at h0
        cases h0
    obtain ⟨t, rfl, hz1, hco⟩ := ckE_ok hck
    obtain ⟨c', e1, e2, e3⟩ := cx_all hN hB
    have hK : knR C (some t) = match ofT true c' t with
        | .ok k => (some k, 0)
        | .error e => (none, ((e + 1 : Nat) : Int)) := by
      unfold knR
      rw [if_neg (by rw [hN]; decide), if_pos hck, if_neg (by rw [hB]; decide)]
      simp only
      rw [e2]
      cases ofT true c' t <;> rfl
    have hcx : Cx w (.slice A C.length n) c' := Cxo.all (by rw [← e1]; exact hcv)
    have hapt := hap t c' rfl e1 hco e3
    obtain ⟨q, p, rfl⟩ := InT.ptr (t := t) hv
    have CS := Lib.hid (fun (W : World) (hu : Up w W) => pStrays t (by omega) (co_tvok hco) (w := W) (Sq := fun q => q < w.heap.size) (v := .pointer (some ⟨q, p, none⟩)) (fun q hq => Nat.lt_of_lt_of_le hq hu.size) (InT.keep (t := t) hv (fun _ h => h) fun b hb => hu.block b hb))
    have CK := Lib.hid (fun (W : World) (hu : Up w W) (es : Array MapEntry) (mb : Nat) (sv : Value) (hm : Mp W (fun q => q < w.heap.size) mb es) (hs : Sc W sv c') (hcov : CovT W (InK es) (.pointer (some ⟨q, p, none⟩)) t) => KxQ.one (kd_all 1000000 (Nat.le_refl _) t (by omega) c' 65536 e3 W (fun q => q < w.heap.size) es mb sv _ (fun q hq => Nat.lt_of_lt_of_le hq hu.size) hm hs ⟨InT.keep (t := t) hv (fun _ h => h) fun b hb => hu.block b hb, hcov, .inl hco, hapt⟩))
    have HI := Lib.hid (fun (W : World) (hu : Up w W) => InT.keep (t := t) (w' := W) hv (fun _ h => h) fun b hb => hu.block b hb)
    have CX := Lib.hid hcx
    obtain ⟨Q, hQ⟩ : ∃ Q, ofT true c' t = Q := ⟨_, rfl⟩
    rw [hQ] at CK hK
    have HK := Lib.hid hK
    obtain ⟨N, hNN⟩ : ∃ N, C.length = N := ⟨_, rfl⟩
    rw [hNN] at CX cR ⊢
    clear hcv hcl hcz hv hz hap h0 hN hck hB e1 e2 e3 hK hcx hapt hz1 hco hNN hQ
    go_enter Tryd.func12, Tryd.ntmps12
    go_wp2_with fail
    refine cR.mono ?_
    rintro e w1 ⟨rfl, u1⟩
    have U1 := Lib.hid u1
    clear u1 cR
    go_wp2_with fail
    refine (CS.out w1 U1.out).mono ?_
    rintro e w2 ⟨mb, es, ck, rfl, hm2, hky2, hcv2, u2⟩
    have U2 := Lib.hid (U1.out.trans u2)
    have HM2 := Lib.hid (⟨⟨ck, hm2⟩, hky2⟩ : Mp w2 (fun q => q < w.heap.size) mb es)
    have HCV2 := Lib.hid hcv2
    clear hm2 hky2 hcv2 u2
    go_wp2_with fail
    obtain ⟨F, hF⟩ : ∃ F, w2.heap.size = F := ⟨_, rfl⟩
    obtain ⟨W3, hW3⟩ : ∃ W3, w2.alloc (.cells #[.map (some mb)] 58) = W3 := ⟨_, rfl⟩
    have u3 : Up w2 W3 := by rw [← hW3]; exact (Up.refl w2).alloc _
    have hb3 : W3.heap[F]? = some (.cells #[.map (some mb)] 58 (0, 0)) := by rw [← hW3, ← hF]; exact heap_alloc_new w2 _
    have k3 : W3.cell? ⟨F, 0, none⟩ = some (.map (some mb)) := cell_of_row W3 F 0 _ _ _ hb3
    rw [hW3, hF]
    clear hb3 hF hW3
    go_region_held3 (fun w' => w'.cell? ⟨F, 0, none⟩ = some (.map (some mb))) (first | go_keep | assumption) (first
      | (go_at_call 27; refine Calls.mono (pAhead (c1 := c') (c2 := []) .nil (CX.out.up (U2.out.trans u3.drew))) ?_; rintro e4 w4 ⟨b4, rfl, h4, u4⟩; have uu4 : Up w2 w4 := u3.drew.trans u4; have n4 := (Up.trans (Up.drew1 W3) u4).cell k3)
      | (go_at_call 26; refine Calls.mono (CK.out w4 (U2.out.trans uu4) es mb _ (HM2.out.up (fun q hq => Nat.lt_of_lt_of_le hq U2.out.size) uu4) (by rw [List.append_nil] at h4; exact h4) (HCV2.out.keep (HI.out w2 U2.out) fun b hb => uu4.block b (Nat.lt_of_lt_of_le hb U2.out.size))) ?_; rintro e5 w5 ⟨oq5, y5, rfl, k5⟩; have n5 := k5.2.2.cell n4; have uu5 : Up w2 w5 := uu4.trans k5.2.2; have K5 := Lib.hid k5; clear k5))
    have U5 := Lib.hid (U2.out.trans uu5)
    go_wp2_with fail
    go_ret2
    exact te_of_kxq HK.out K5.out U5.out
  · obtain ⟨E, hE⟩ : ∃ E, rfE C o = E := ⟨_, rfl⟩
    have h9 : (E != 0) = true := by rw [bne_iff_ne, ← hE]; exact h0
    have HX : Hid (knR C o = (none, E)) := Lib.hid (by rw [← hE]; exact kn_ref h0)
    rw [hE] at cR
    obtain ⟨oq, rfl⟩ := InO.one hv
    obtain ⟨N, hNN⟩ : ∃ N, C.length = N := ⟨_, rfl⟩
    rw [hNN] at cR ⊢
    clear hcv hcl hcz hv hz hap h0 hNN hE
    go_enter Tryd.func12, Tryd.ntmps12
    go_wp2_with fail
    refine cR.mono ?_
    rintro e w1 ⟨rfl, u1⟩
    have U1 := Lib.hid u1
    clear u1 cR
    go_wp2_with fail
    go_ret2
    exact tep_any HX.out U1.out
set_option maxHeartbeats 6400000 in
set_option maxRecDepth 100000 in
theorem pFits12 (o : Option Tr) {w : World} {v : Value} (hv : HasT w v o) (hz : szO o ≤ 65536) : Calls Tryd.prog 8 #[v] w (InP (fiE o) w) := by
  have cC := pCheck o w v hv hz
  by_cases h0 : ckE o = 0
  · obtain ⟨t, rfl, hz1, hco⟩ := ckE_ok h0
    obtain ⟨x, ks⟩ := t
    obtain ⟨K, hK⟩ : ∃ K, x.k = K := ⟨_, rfl⟩
    have HR : Hid (fiE (some (x, ks)) = if K = 121 then ((fitE ks : Nat) : Int) else 16) := Lib.hid (by unfold fiE; rw [if_pos h0]; simp only; rw [hK])
    rw [h0] at cC
    obtain ⟨q, p, A, cc, rfl, hq, c0, _⟩ := InT.open (x := x) (ks := ks) hv
    rw [hK] at c0
    obtain ⟨R, hR⟩ : ∃ R, fiE (some (x, ks)) = R := ⟨_, rfl⟩
    rw [hR] at HR ⊢
    by_cases h : K = 121
    · subst h
      have CS := Lib.hid (fun (W : World) (hu : Up w W) => pStrays (x, ks) (by omega) (co_tvok hco) (w := W) (Sq := fun q => q < w.heap.size) (v := .pointer (some ⟨q, p, none⟩)) (fun q hq => Nat.lt_of_lt_of_le hq hu.size) (InT.keep (t := (x, ks)) hv (fun _ h => h) fun b hb => hu.block b hb))
      have HLK := Lib.hid (fun (W : World) (hu : Up w W) (es : Array MapEntry) (mb : Nat) (hm : Mp W (fun q => q < w.heap.size) mb es) (hc : CovT W (InK es) (.pointer (some ⟨q, p, none⟩)) (x, ks)) => stray_at hm (InT.keep (t := (x, ks)) hv (fun _ h => h) fun b hb => hu.block b hb) hc hco hK)
      obtain ⟨LO, hLO⟩ : ∃ LO, loF true ks = LO := ⟨_, rfl⟩
      have HF : Hid (R = if LO = true then 15 else 0) := Lib.hid (by rw [HR.out, if_pos rfl]; unfold fitE; rw [hLO]; cases LO <;> rfl)
      rw [hLO] at HLK
      clear hv hz h0 hco hK hz1 hR HR hLO
      go_enter Tryd.func8, Tryd.ntmps8
      go_wp2_with fail
      refine cC.mono ?_
      rintro e w1 ⟨rfl, u1⟩
      have U1 := Lib.hid u1
      have c0 := u1.cell c0
      clear u1 cC
      go_wp2_with fail
      refine (CS.out w1 U1.out).mono ?_
      rintro e w2 ⟨mb, es, ck, rfl, hm2, hky2, hcv2, u2⟩
      have U2 := Lib.hid (U1.out.trans u2)
      have hlk := HLK.out w2 U2.out es mb ⟨⟨ck, hm2⟩, hky2⟩ hcv2
      clear hm2 hky2 hcv2 u2
      cases LO with
      | true =>
        have HX : Hid (R = 15) := Lib.hid (by rw [HF.out]; rfl)
        go_wp2_with fail
        go_ret
        exact ⟨by rw [HX.out]; rfl, Up.trans U2.out (by repeat (first | exact Up.refl _ | refine Up.alloc ?_ _))⟩
      | false =>
        have HX : Hid (R = 0) := Lib.hid (by rw [HF.out]; rfl)
        go_wp2_with fail
        go_ret
        exact ⟨by rw [HX.out]; rfl, Up.trans U2.out (by repeat (first | exact Up.refl _ | refine Up.alloc ?_ _))⟩
    · have h9 : (K != 121) = true := by rw [bne_iff_ne]; exact h
      have HX : Hid (R = 16) := Lib.hid (by rw [HR.out, if_neg h])
      clear hv hz h0 hco hK hz1 hR HR
      go_enter Tryd.func8, Tryd.ntmps8
      go_wp2_with fail
      refine cC.mono ?_
      rintro e w1 ⟨rfl, u1⟩
      have U1 := Lib.hid u1
      have c0 := u1.cell c0
      clear u1 cC
      go_wp2_with fail
      go_ret
      exact ⟨by rw [HX.out]; rfl, U1.out⟩
  · have HR : Hid (fiE o = ckE o) := Lib.hid (by unfold fiE; rw [if_neg h0])
    obtain ⟨E, hE⟩ : ∃ E, ckE o = E := ⟨_, rfl⟩
    have h9 : (E != 0) = true := by rw [bne_iff_ne, ← hE]; exact h0
    rw [hE] at cC HR
    obtain ⟨oq, rfl⟩ := InO.one hv
    clear h0 hE hv hz
    go_enter Tryd.func8, Tryd.ntmps8
    go_wp2_with fail
    refine cC.mono ?_
    rintro e w1 ⟨rfl, u1⟩
    have U1 := Lib.hid u1
    clear u1 cC
    go_wp2_with fail
    go_ret
    exact ⟨by rw [HR.out]; rfl, U1.out⟩
theorem kd12 : KdAll := {
  kind := fun _ c o _ _ hcv hcl hcz hv hz hap => pKind12 c o hcv hcl hcz hv hz hap
  fits := fun _ o _ hv hz => pFits12 o hv hz }
end Go.Proofs.YtmiicfdigkkbdaaDoor
namespace Go.Proofs.YtmiicfdigkkbdaaDoor
open Go.RowKit

def Gk (w : World) (gb mb k : Nat) (es : Array MapEntry) (ck : Nat) : Prop := w.heap[gb]? = some (.cells #[.int .i64 (k : Int), .map (some mb)] 131 (0, 0)) ∧ w.heap[mb]? = some (.map es ck)
theorem KeyP.below {w w' : World} {l : List MapEntry} (h : KeyP w l) (hb : Below w.heap.size w w') : KeyP w' l := fun e he => by
  obtain ⟨b, h1, cs, te, h2⟩ := h e he
  exact ⟨b, h1, cs, te, heap_below h2 hb⟩
def KgP (gb mb k : Nat) (es : Array MapEntry) (ck : Nat) (key val : Value) (w : World) (e : Ending) (w' : World) : Prop := e = .returned (.tuple #[]) ∧ ∃ es' ck', (k ≤ 65536 ∧ es' = es ∨ 65536 < k ∧ UpdE es ck key val es') ∧ Gk w' gb mb k es' ck' ∧ w.grownBy w' (some mb)
set_option maxHeartbeats 3200000 in
set_option maxRecDepth 100000 in
theorem keepG (gb mb k : Nat) (es : Array MapEntry) (ck : Nat) (ad : Addr) (x y z : Value) (w : World) (h : Gk w gb mb k es ck) (hne : mb ≠ gb) (ha : Pln w ad.block) (hky : KeyP w es.toList) (hk : k ≤ 1000000000) :
    Calls Tryd.prog 93 #[.pointer (some ⟨gb, 0, none⟩), .pointer (some ad), .agg #[x, y, z]] w (KgP gb mb k es ck (.pointer (some ad)) (.agg #[x, y, z]) w) := by
  have c0 := cell_of_row w gb 0 _ _ _ h.1
  have c1 := cell_of_row w gb 1 _ _ _ h.1
  have hgw := heap_lt h.1
  have HG := Lib.hid h
  by_cases hk1 : 65536 < k
  · have h1 : (65536 : Int) < (k : Int) := by omega
    have u0 : Up w (w.alloc (.cells #[x, y, z] 102)) := (Below.refl _ _).alloc (Nat.le_refl _) _
    have e0 : (w.alloc (.cells #[x, y, z] 102)).heap[w.heap.size]? = some (.cells #[x, y, z] 102 (0, 0)) := heap_alloc_new w _
    have d0 := cell3_0 e0
    have d1 := cell3_1 e0
    have d2 := cell3_2 e0
    have c1' := (Below.cell u0 hgw).trans c1
    have c0' := (Below.cell u0 hgw).trans c0
    have hm1 := heap_below h.2 u0
    have hg1 := heap_below h.1 u0
    have HA : Hid (Pln (w.alloc (.cells #[x, y, z] 102)) ad.block) := Lib.hid (by obtain ⟨cs, te, h2⟩ := ha; exact ⟨cs, te, heap_below h2 u0⟩)
    obtain ⟨W1, hW1⟩ : ∃ W1, w.alloc (.cells #[x, y, z] 102) = W1 := ⟨_, rfl⟩
    have HS1 : Hid (W1.heap.size = w.heap.size + 1) := Lib.hid (by rw [← hW1]; simp)
    rw [hW1] at HA u0 d0 d1 d2 c1' c0' hm1 hg1
    have HM1 := Lib.hid hm1
    have HG1 := Lib.hid hg1
    have HU := Lib.hid u0
    obtain ⟨es', ck', hup, hu⟩ := upd_ptr (w := W1.drew) (.agg #[x, y, z]) hm1 HA.out (hky.below (w' := W1.drew) u0.drew)
    have HUP := Lib.hid hu
    have HK1 := Lib.hid hk1
    clear h ha hky hk hk1 u0 hm1 hg1 e0 hu HA
    go_enter Tryd.func93, Tryd.ntmps93
    go_wp2_with fail
    go_region
    go_end0
    have h1 : W1.drew.heap.setIfInBounds mb (.map es' ck') = W1.heap.setIfInBounds mb (.map es' ck') := rfl
    have hlt := heap_lt HM1.out
    refine ⟨rfl, es', ck', .inr ⟨HK1.out, HUP.out⟩, ⟨?_, ?_⟩, ?_⟩
    · show (W1.heap.setIfInBounds mb _)[gb]? = _
      rw [Array.getElem?_setIfInBounds_ne hne]
      exact HG1.out
    · show (W1.heap.setIfInBounds mb _)[mb]? = _
      rw [Array.getElem?_setIfInBounds_self_of_lt hlt]
    · refine gb_trans (gb_below HU.out (Nat.le_refl _)) ⟨rfl, rfl, rfl, by simp, fun b hb' hne => ?_⟩
      show (W1.heap.setIfInBounds mb _)[b]? = _
      rw [Array.getElem?_setIfInBounds_ne (fun e => hne (by rw [e]))]
  · have h1 : ¬ (65536 : Int) < (k : Int) := by omega
    have HK1 := Lib.hid hk1
    clear h ha hky hk hk1
    go_enter Tryd.func93, Tryd.ntmps93
    go_wp2_with fail
    go_end0
    have u0 : Below w.heap.size w (w.alloc (.cells #[x, y, z] 102)) := (Below.refl _ _).alloc (Nat.le_refl _) _
    exact ⟨rfl, es, ck, .inl ⟨by have := HK1.out; omega, rfl⟩, ⟨heap_below HG.out.1 u0, heap_below HG.out.2 u0⟩, gb_below u0 (Nat.le_refl _)⟩
end Go.Proofs.YtmiicfdigkkbdaaDoor
