/-
  The document's cons: what it makes of tokens from a place on, given what typ makes.
-/
import Derived.Test.YthonaeigacfmbaaGreatDoorGp36
import Derived.Test.YthonaeigacfmbaaGreatDoorGp37
namespace Go.Proofs.YthonaeigacfmbaaGreatDoor
open Go.RowKit

theorem hasN_yes : ∀ {f : Fr} {j : Nat} {t : Tr} {s : ByteArray}, f.get j = some t → t.1.a = s → hasN f s = true
  | .nil, j, t, s, h, _ => by cases j <;> cases h
  | .cons x k r, 0, t, s, h, e => by injection h with h; subst h; unfold hasN; rw [decide_eq_true e]; rfl
  | .cons x k r, j + 1, t, s, h, e => by
    have h : r.get j = some t := h
    unfold hasN
    rw [hasN_yes h e, Bool.or_true]
theorem hasN_not : ∀ {f : Fr} {s : ByteArray}, (∀ (j : Nat) (t : Tr), f.get j = some t → ¬ t.1.a = s) → hasN f s = false
  | .nil, _, _ => rfl
  | .cons x k r, s, h => by
    unfold hasN
    rw [decide_eq_false (h 0 (x, k) rfl), hasN_not fun j t hj => h (j + 1) t hj]
    rfl
structure CoSt (W wr : World) (vo : Value) (acc : Fr) (ps : List Value) : Prop where
  own : wr.ownsRow W.heap.size 24 1 vo acc.len ps
  kids : PtF wr (fun q => NewS W wr q ∧ vo.ownBlock ≠ some q) ps acc
theorem own_up {W a b : World} {v : Value} {n : Nat} {xs : List Value} {e : TypeId} (h : a.ownsRow W.heap.size e 1 v n xs) (u : Up a b) : b.ownsRow W.heap.size e 1 v n xs := by
  obtain ⟨h1, h2⟩ := h
  refine ⟨h1, ?_⟩
  rcases h2 with h2 | ⟨g, cap, cur, h3, h4, h5, h6⟩
  · exact .inl h2
  · exact .inr ⟨g, cap, cur, h3, h4, u.row h5, h6⟩
theorem CoSt.up {W a b : World} {vo : Value} {acc : Fr} {ps : List Value} (h : CoSt W a vo acc ps) (u : Up a b) : CoSt W b vo acc ps :=
  ⟨own_up h.own u, PtF.keep (fun _ hq => ⟨⟨hq.1.1, Nat.lt_of_lt_of_le hq.1.2 u.size⟩, hq.2⟩) (fun q hq => Below.block u q hq.1.2) h.kids⟩
theorem CoSt.start (W wr : World) : CoSt W wr (.slice none 0 0) .nil [] := ⟨World.ownsRow_nil _ _ _ _, trivial⟩
theorem CoSt.form {W wr : World} {vo : Value} {acc : Fr} {ps : List Value} (h : CoSt W wr vo acc ps) : ∃ A c, vo = .slice A acc.len c ∧ acc.len ≤ c ∧ (∀ g, vo.ownBlock = some g → W.heap.size ≤ g ∧ g < wr.heap.size) ∧ (0 < acc.len → ∃ g, A = some ⟨g, 0, none⟩ ∧ ∀ (j : Nat) u, ps[j]? = some u → wr.cell? ⟨g, 0 + j, none⟩ = some u) := by
  have hlt := World.ownsRow.lt h.own
  rcases h.own.2 with ⟨h1, h2⟩ | ⟨g, cap, cur, h3, h4, h5, h6, _, h7, h8⟩
  · exact ⟨none, 0, by rw [h1, h2], by omega, hlt, fun h => by omega⟩
  · refine ⟨some ⟨g, 0, none⟩, cap, h3, h6, hlt, fun _ => ⟨g, rfl, fun j u hj => ?_⟩⟩
    rw [Nat.zero_add, cell_of_row wr g j _ _ _ h5]
    rw [← h8, List.getElem?_take] at hj
    split at hj
    · rw [← hj, Array.getElem?_toList]
    · cases hj
theorem con_has {W w : World} {vt : Value} {t : Tr} {s : ByteArray} (hW : W.heap.size ≤ w.heap.size) (ht : NewT W w vt t) :
    NewT W ((w.alloc (.cells #[vt] 24)).alloc (.cells #[.int .i64 8, .int .i64 0, .string s, .string ⟨#[]⟩, .slice (some ⟨w.heap.size, 0, none⟩) 1 1] 66)) (.pointer (some ⟨w.heap.size + 1, 0, none⟩)) (nd 8 s (fr1 t)) := by
  have e1 : (w.alloc (.cells #[vt] 24)).heap.size = w.heap.size + 1 := by simp
  rw [← e1]
  obtain ⟨W1, hW1⟩ : ∃ W1, w.alloc (.cells #[vt] 24) = W1 := ⟨_, rfl⟩
  have s1 : W1.heap[w.heap.size]? = some (.cells #[vt] 24 (0, 0)) := by rw [← hW1]; exact heap_alloc_new w _
  have u1 : Up w W1 := by rw [← hW1]; exact (Up.refl w).alloc _
  have z1 := u1.size
  rw [hW1]
  obtain ⟨W2, hW2⟩ : ∃ W2, W1.alloc (.cells #[.int .i64 8, .int .i64 0, .string s, .string ⟨#[]⟩, .slice (some ⟨w.heap.size, 0, none⟩) 1 1] 66) = W2 := ⟨_, rfl⟩
  have s2 : W2.heap[W1.heap.size]? = some (.cells #[.int .i64 8, .int .i64 0, .string s, .string ⟨#[]⟩, .slice (some ⟨w.heap.size, 0, none⟩) 1 1] 66 (0, 0)) := by rw [← hW2]; exact heap_alloc_new W1 _
  have u2 : Up W1 W2 := by rw [← hW2]; exact (Up.refl W1).alloc _
  have s3 : W2.heap[w.heap.size]? = some (.cells #[vt] 24 (0, 0)) := u2.row s1
  rw [hW2]
  exact node_has (x := ⟨8, 0, s, nob⟩) (f := fr1 t) s2 rfl (Nat.le_refl _) ⟨by omega, heap_lt s2⟩ ⟨hW, heap_lt s3⟩ ⟨⟨_, cell_of_row W2 w.heap.size 0 _ _ _ s3, ht.up (u1.trans u2)⟩, trivial⟩
theorem CoSt.more {W wr w5 w6 : World} {vo v6 vc : Value} {acc : Fr} {ps : List Value} {t : Tr} {g cap n : Nat} (h : CoSt W wr vo acc ps) (u : Up wr w5) (hn : acc.len = n) (hlt : ∀ g, vo.ownBlock = some g → W.heap.size ≤ g ∧ g < wr.heap.size) (hW : W.heap.size ≤ wr.heap.size)
    (ht : NewT wr w5 vc t) (hv : v6 = .slice (some ⟨g, 0, none⟩) (n + 1) cap) (ho : w6.ownsRow W.heap.size 24 1 v6 (n + 1) (ps ++ [vc])) (hg : w5.grownBy w6 vo.ownBlock) (hat : vo.ownBlock = some g ∨ g = w5.heap.size) :
    CoSt W w6 v6 (acc.app (fr1 t)) (ps ++ [vc]) := by
  have hz := hg.size
  have hu := u.size
  have hob : v6.ownBlock = some g := by rw [hv]; rfl
  have hgn : ∀ q, q < w5.heap.size → vo.ownBlock ≠ some q → v6.ownBlock ≠ some q := fun q hq hne e => by
    rw [hob] at e
    injection e with e
    rcases hat with h1 | h1
    · rw [e] at h1; exact hne h1
    · omega
  have kp : ∀ q, q < w5.heap.size → vo.ownBlock ≠ some q → w6.heap[q]? = w5.heap[q]? := fun q hq hne => hg.block q hq fun e => hne e.symm
  refine ⟨?_, ?_⟩
  · rw [Fr.len_app]
    show w6.ownsRow _ _ 1 v6 (acc.len + 1) _
    rw [hn]
    exact ho
  · refine PtF.snoc (t := t) ?_ (PtF.keep (fun q hq => ⟨⟨hq.1.1, by have := hq.1.2; omega⟩, hgn q (by have := hq.1.2; omega) hq.2⟩) (fun q hq => (kp q (by have := hq.1.2; omega) hq.2).trans (Below.block u q hq.1.2)) h.kids)
    have hne : ∀ q, NewS wr w5 q → vo.ownBlock ≠ some q := fun q hq e => by have := (hlt q e).2; have := hq.1; omega
    exact InT.keep ht (fun q hq => ⟨⟨by have := hq.1; omega, by have := hq.2; omega⟩, hgn q hq.2 (hne q hq)⟩) fun q hq => kp q hq.2 (hne q hq)
theorem CoSt.done {W wr : World} {vo : Value} {acc : Fr} {ps : List Value} (h : CoSt W wr vo acc ps) (h0 : 0 < acc.len) : ∃ g c, vo = .slice (some ⟨g, 0, none⟩) acc.len c ∧ acc.len ≤ c ∧ NewS W wr g ∧ 0 < acc.len ∧ InF wr (NewS W wr) acc g 0 := by
  obtain ⟨A, c, hv, hc, hlt, hcell⟩ := h.form
  obtain ⟨g, rfl, hcs⟩ := hcell h0
  refine ⟨g, c, hv, hc, hlt g (by rw [hv]; rfl), h0, ?_⟩
  exact PtF.row (PtF.keep (fun _ hq => hq.1) (fun _ _ => rfl) h.kids) hcs
theorem PtF.kidC {w : World} {S : Nat → Prop} : ∀ {vs : List Value} {f : Fr} {m : Nat} {t : Tr}, PtF w S vs f → f.get m = some t → ∃ v, vs[m]? = some v ∧ InT w S v t
  | [], .nil, m, _, _, hg => by cases m <;> cases hg
  | v :: _, .cons _ _ _, 0, _, h, hg => by injection hg with hg; subst hg; exact ⟨v, rfl, h.1⟩
  | _ :: vs, .cons _ _ r, m + 1, _, h, hg => PtF.kidC (vs := vs) (f := r) (m := m) h.2 hg
def conW (w4 : World) (vt : Value) (s : ByteArray) : World := ((w4.alloc (.cells #[vt] 24)).alloc (.cells #[.int .i64 8, .int .i64 0, .string s, .string ⟨#[]⟩, .slice (some ⟨w4.heap.size, 0, none⟩) 1 1] 66)).alloc (.cells #[.pointer (some ⟨w4.heap.size + 1, 0, none⟩)] 24)
theorem conW_up (w4 : World) (vt : Value) (s : ByteArray) : Up w4 (conW w4 vt s) := (((Up.refl w4).alloc _).alloc _).alloc _
theorem conW_size (w4 : World) (vt : Value) (s : ByteArray) : (conW w4 vt s).heap.size = w4.heap.size + 3 := by unfold conW; simp
theorem conW_new {wr w4 : World} {vt : Value} {s : ByteArray} {t : Tr} (h : NewT wr w4 vt t) (hw : wr.heap.size ≤ w4.heap.size) : NewT wr (conW w4 vt s) (.pointer (some ⟨w4.heap.size + 1, 0, none⟩)) (nd 8 s (fr1 t)) :=
  (con_has hw h).up ((Up.refl _).alloc _)
theorem conW_cell (w4 : World) (vt : Value) (s : ByteArray) : ∀ j u, [Value.pointer (some ⟨w4.heap.size + 1, 0, none⟩)][j]? = some u → (conW w4 vt s).cell? ((⟨w4.heap.size + 2, 0, none⟩ : Addr).add j) = some u := by
  intro j u hj
  have e : ((w4.alloc (.cells #[vt] 24)).alloc (.cells #[.int .i64 8, .int .i64 0, .string s, .string ⟨#[]⟩, .slice (some ⟨w4.heap.size, 0, none⟩) 1 1] 66)).heap.size = w4.heap.size + 2 := by simp
  have h := cell_one_new ((w4.alloc (.cells #[vt] 24)).alloc (.cells #[.int .i64 8, .int .i64 0, .string s, .string ⟨#[]⟩, .slice (some ⟨w4.heap.size, 0, none⟩) 1 1] 66)) (.pointer (some ⟨w4.heap.size + 1, 0, none⟩)) 24 j u hj
  rw [e] at h
  exact h
set_option maxHeartbeats 12800000 in
set_option maxRecDepth 100000 in
theorem ref_cons (l : List Tk) (i : Nat) (hi : i ≤ l.length) (hl : l.length ≤ 1000000) (hz : ∀ t ∈ l, t.s.size ≤ 1000000000) (w : World) (v : Value) (hv : Tkm w v l)
    (cT : ∀ j, i < j → j ≤ l.length → ∀ w', Up w w' → Calls Tryz.prog 49 #[v, .int .i64 (j : Int)] w' (RsPost (typL B.nck B.long l j) w')) :
    Calls Tryz.prog 53 #[v, .int .i64 (i : Int)] w (RcPost (consL B.nck B.long l i .nil) w) := by
  have HV := Lib.hid hv
  have HT := Lib.hid cT
  have cN : ∀ (k : Nat) W, Up w W → Calls Tryz.prog 21 #[v, .int .i64 (k : Int)] W (NaP (nam B.nck l k) W) := fun k W u => by rw [← namZ_nat]; exact refName l k W v (hv.up u) hz
  have cK : ∀ (k : Nat) (x : ByteArray) W, Up w W → Calls Tryz.prog 27 #[v, .int .i64 (k : Int), .string x] W (BoU (key l k x) W) := fun k x W u => by rw [← keyZ_nat]; exact refKey l k x W v (hv.up u)
  have CN := Lib.hid cN
  have CK := Lib.hid cK
  clear hv cT hz cN cK
  go_enter Tryz.func53, Tryz.ntmps53
  go_wp2_with fail
  go_loopw [1, 7, 8, 9, 10, 11, 12, 13] (fun iv vo _ _ _ _ _ _ wr => ∃ (k : Nat) (acc : Fr) (ps : List Value), iv = .int .i64 (k : Int) ∧ i ≤ k ∧ k ≤ l.length ∧ consL B.nck B.long l i .nil = consL B.nck B.long l k acc ∧ acc.len ≤ k ∧ CoSt w wr vo acc ps ∧ Up w wr) (fun iv _ _ _ _ _ _ _ _ => l.length - (intOf iv).toNat)
  case atStart => exact ⟨i, .nil, [], rfl, Nat.le_refl _, hi, rfl, Nat.zero_le _, CoSt.start _ _, Up.refl _⟩
  case round =>
    obtain ⟨k, acc, ps, rfl, hik, hkl, hE, hak, hst, hu⟩ := hrel
    obtain ⟨A, c, rfl, hc, hlt, hcell⟩ := hst.form
    have cN1 := CN.out k
    have HST := Lib.hid hst
    have HU := Lib.hid hu
    have HE := Lib.hid hE
    have HC := Lib.hid hcell
    have HLT := Lib.hid hlt
    obtain ⟨n, hn⟩ : ∃ n, acc.len = n := ⟨_, rfl⟩
    rw [hn] at hc hak ⊢
    have HN := Lib.hid hn
    clear hst hE hcell hlt hn
    cases hN : nam B.nck l k with
    | none =>
      rw [hN] at cN1
      have HR : Hid (consL B.nck B.long l i .nil = .inr (k, 6)) := Lib.hid (by rw [HE.out, consL_eq]; unfold consS; rw [hN])
      clear hN
      go_wp2_with fail
      refine (cN1 _ hu).mono ?_
      rintro e w2 ⟨rfl, u2⟩
      go_wp2_with fail
      go_ret3
      rw [HR.out]
      exact ⟨_, _, _, rfl, ⟨rfl, rfl, rfl⟩, Up.trans hu u2⟩
    | some s =>
      rw [hN] at cN1
      have HNM := Lib.hid hN
      clear hN
      go_wp2_with fail
      refine (cN1 _ hu).mono ?_
      rintro e w2 ⟨rfl, u2⟩
      have U2 : Up w w2 := Up.trans hu u2
      have HST2 := Lib.hid (HST.out.up u2)
      have HU12 := Lib.hid u2
      clear cN1 hu u2
      go_wp2_with fail
      go_loopw [10] (fun kv w3 => ∃ j : Nat, j ≤ n ∧ kv = .int .i64 (j : Int) ∧ w3 = w2 ∧ ∀ (j' : Nat) (t : Tr), j' < j → acc.get j' = some t → ¬ t.1.a = s) (fun kv _ => n - (intOf kv).toNat)
      case atStart => exact ⟨0, Nat.zero_le _, rfl, rfl, fun j' t hj => absurd hj (Nat.not_lt_zero _)⟩
      case round =>
        obtain ⟨j, hj, rfl, rfl, hall⟩ := hrel
        have HALL := Lib.hid hall
        clear hall
        by_cases hjn : j < n
        · obtain ⟨⟨x, f⟩, ht⟩ := Fr.get_some (f := acc) (i := j) (by rw [HN.out]; exact hjn)
          obtain ⟨g, rfl, hcs⟩ := HC.out (by rw [HN.out]; omega)
          obtain ⟨pv, hpv, hint⟩ := PtF.kidC HST2.out.kids ht
          obtain ⟨q, p, A', c', rfl, hq, c0, c1, c2, c3, c4, hcc, hkid⟩ := InT.open hint
          have hck := HU12.out.cell (hcs j _ hpv)
          rw [Nat.zero_add] at hck
          have hjz : (j : Int) < (n : Int) := by omega
          clear hint hkid hcs hpv c0 c1 c3 c4 hcc hq
          by_cases e : x.a = s
          · have hb : (x.a.toList == s.toList) = true := by rw [str_eq, decide_eq_true e]
            have HR : Hid (consL B.nck B.long l i .nil = .inr (k, 9)) := Lib.hid (by rw [HE.out, consL_eq]; unfold consS; rw [HNM.out]; simp only [hasN_yes ht e, if_true])
            clear ht
            go_wp2_with fail
            go_ret3
            rw [HR.out]
            exact ⟨_, _, _, rfl, ⟨rfl, rfl, rfl⟩, U2⟩
          · have hb : (x.a.toList == s.toList) = false := by rw [str_eq, decide_eq_false e]
            have HX : Hid (acc.get j = some (x, f)) := Lib.hid ht
            clear ht
            go_wp2_with fail
            go_roundw
            case rel => exact ⟨j + 1, by omega, by go_num, by trivial, fun j' t hj' ht' => by
              rcases Nat.lt_succ_iff_lt_or_eq.1 hj' with h | h
              · exact HALL.out j' t h ht'
              · rw [h, HX.out] at ht'
                injection ht' with ht'
                rw [← ht']
                exact e⟩
            case measure => simp [intOf]; omega
        · have hjn : j = n := by omega
          have hno : hasN acc s = false := hasN_not fun j' t ht => HALL.out j' t (by have := Fr.get_lt ht; rw [HN.out] at this; omega) ht
          have HNO := Lib.hid hno
          subst hjn
          have k1 : ∀ W, Up w W → Calls Tryz.prog 27 #[v, .int .i64 ((k : Int) + 1), .string kOf] W (BoU (key l (k + 1) kOf) W) := fun W u => by
            have h := CK.out (k + 1) kOf W u
            rw [show ((k + 1 : Nat) : Int) = (k : Int) + 1 by omega] at h
            exact h
          clear hno
          cases hO : key l (k + 1) kOf with
          | false =>
            rw [hO] at k1
            have HR : Hid (consL B.nck B.long l i .nil = .inr (k + 1, 6)) := Lib.hid (by rw [HE.out, consL_eq]; unfold consS; rw [HNM.out]; simp only [HNO.out, hO, if_false, Bool.false_eq_true])
            clear hO
            go_wp2_with fail
            refine (k1 _ U2).mono ?_
            rintro e w3 ⟨rfl, u3⟩
            go_wp2_with fail
            go_ret3
            rw [HR.out]
            exact ⟨_, _, _, rfl, ⟨by omega, rfl, rfl⟩, Up.trans U2 u3⟩
          | true =>
            rw [hO] at k1
            have hlt1 := key_lt hO
            have cT1 : ∀ W, Up w W → Calls Tryz.prog 49 #[v, .int .i64 ((k : Int) + 2)] W (RsPost (typL B.nck B.long l (k + 2)) W) := fun W u => by
              have h := HT.out (k + 2) (by omega) (by omega) W u
              rw [show ((k + 2 : Nat) : Int) = (k : Int) + 2 by omega] at h
              exact h
            have hle := typL_le (nk := B.nck) (lg := B.long) l (k + 2) (by omega)
            have hah := typL_ahead (nk := B.nck) (lg := B.long) l (k + 2)
            cases hT : typL B.nck B.long l (k + 2) with
            | inr e =>
              obtain ⟨p, er⟩ := e
              rw [hT] at hle cT1
              have hne : ¬ er = 0 := hle.2 p er rfl
              have HR : Hid (consL B.nck B.long l i .nil = .inr (p, er)) := Lib.hid (by rw [HE.out, consL_eq]; unfold consS; rw [HNM.out]; simp only [HNO.out, hO, hT, if_true, if_false, Bool.false_eq_true])
              clear hO hT hle hah
              go_wp2_with fail
              refine (k1 _ U2).mono ?_
              rintro e w3 ⟨rfl, u3⟩
              go_wp2_with fail
              refine (cT1 _ (Up.trans U2 u3)).mono ?_
              rintro e w4 ⟨va, ja, ea, rfl, ⟨rfl, rfl, A1, rfl⟩, u4⟩
              go_wp2_with fail
              go_ret3
              rw [HR.out]
              exact ⟨_, _, _, rfl, ⟨rfl, rfl, rfl⟩, Up.trans (Up.trans U2 u3) u4⟩
            | inl r =>
              obtain ⟨t, q⟩ := r
              rw [hT] at hle cT1 hah
              have hql : q ≤ l.length := hle.1
              have hkq : k + 2 < q := hah
              have HS : Hid (consL B.nck B.long l i .nil = if key l q kBar then consL B.nck B.long l (q + 1) (acc.app (fr1 (nd 8 s (fr1 t)))) else .inl (acc.app (fr1 (nd 8 s (fr1 t))), q)) := Lib.hid (by rw [HE.out, consL_eq]; unfold consS; rw [HNM.out]; simp only [HNO.out, hO, hT, if_true, if_false, Bool.false_eq_true])
              have kb := CK.out q kBar
              obtain ⟨i0, hi0, hz0, hz1, hz2⟩ := info_parts infoPtr
              clear hO hT hle hah
              go_wp2_with fail
              refine (k1 _ U2).mono ?_
              rintro e w3 ⟨rfl, u3⟩
              go_wp2_with fail
              refine (cT1 _ (Up.trans U2 u3)).mono ?_
              rintro e w4 ⟨va, ja, ea, rfl, ⟨h4, rfl, rfl⟩, u4⟩
              obtain ⟨q1, o1, rfl⟩ := InT.ptr h4
              go_wp2_with fail
              refine (refNode 8 s _ _ _ _).mono ?_
              rintro e w5 ⟨rfl, rfl⟩
              have hst5 := HST2.out.up ((u3.trans u4).trans (conW_up w4 (.pointer (some ⟨q1, o1, none⟩)) s))
              have ho5 := hst5.own
              rw [HN.out] at ho5
              have hc5 := conW_cell w4 (.pointer (some ⟨q1, o1, none⟩)) s
              have hz5 := conW_size w4 (.pointer (some ⟨q1, o1, none⟩)) s
              have HO5 := Lib.hid ho5
              have HC5 := Lib.hid hc5
              have HW5 : Hid (w.heap.size ≤ (conW w4 (.pointer (some ⟨q1, o1, none⟩)) s).heap.size) := Lib.hid (by have h1 := U2.size; have h2 := u3.size; have h3 := u4.size; omega)
              clear ho5 hc5 hst5 k1 cT1
              go_wp2_with (at_builtin; refine wpList_append_lies _ rfl _ _ 30 rfl w.heap.size 24 i0 _ 1 8 Tryz.underlying30 hi0 hz0 hz1 hz2 rfl (by omega) (.slice A j c) j ps rfl HO5.out ⟨w4.heap.size + 2, 0, none⟩ 1 1 [.pointer (some ⟨w4.heap.size + 1, 0, none⟩)] rfl rfl HC5.out (by intro u hu; rw [List.mem_singleton.1 hu]; rfl) (by omega) (by unfold maxLen; omega) (by omega) HW5.out (w4.heap.size + 3) hz5 ?_; intro g6 cap6 w6 ho6 hg6 hat6 hlt6)
              have hst2 := HST2.out
              rw [HN.out] at hst2
              have hlt2 : ∀ g, (Value.slice A j c).ownBlock = some g → w.heap.size ≤ g ∧ g < wr.heap.size := World.ownsRow.lt hst2.own
              have hu5 : Up wr (conW w4 (.pointer (some ⟨q1, o1, none⟩)) s) := (u3.trans u4).trans (conW_up w4 (.pointer (some ⟨q1, o1, none⟩)) s)
              have hst6 := hst2.more hu5 HN.out hlt2 U2.size (conW_new (h4.base u3.size) (u3.trans u4).size) rfl ho6 hg6 (by rw [hz5]; exact hat6)
              have U6 : Up w w6 := (Up.trans U2 hu5).grown hg6 HW5.out fun g hg => (hlt2 g hg).1
              have hln : (acc.app (fr1 (nd 8 s (fr1 t)))).len = j + 1 := by rw [Fr.len_app, HN.out]; rfl
              have HST6 := Lib.hid hst6
              have HLN := Lib.hid hln
              have kb6 := kb w6 U6
              clear hst2 hlt2 hst6 hln ho6 hg6 hat6 kb
              cases hB : key l q kBar with
              | false =>
                rw [hB] at kb6
                have HR : Hid (consL B.nck B.long l i .nil = .inl (acc.app (fr1 (nd 8 s (fr1 t))), q)) := Lib.hid (by rw [HS.out, hB]; rfl)
                clear hB
                refine kb6.mono ?_
                rintro e w7 ⟨rfl, u7⟩
                go_wp2_with fail
                go_ret3
                rw [HR.out]
                exact ⟨_, _, _, rfl, ⟨by have h := (HST6.out.up u7).done (by rw [HLN.out]; omega); rw [HLN.out] at h ⊢; exact h, rfl, rfl⟩, Up.trans U6 u7⟩
              | true =>
                rw [hB] at kb6
                have hq2 := key_lt hB
                have HR : Hid (consL B.nck B.long l i .nil = consL B.nck B.long l (q + 1) (acc.app (fr1 (nd 8 s (fr1 t))))) := Lib.hid (by rw [HS.out, hB]; rfl)
                clear hB
                refine kb6.mono ?_
                rintro e w7 ⟨rfl, u7⟩
                go_wp2_with fail
                exact ⟨⟨q + 1, _, _, i64_eq (by omega), by omega, by omega, HR.out, by rw [HLN.out]; omega, HST6.out.up u7, Up.trans U6 u7⟩, by simp [intOf]; omega⟩
theorem ref_all (l : List Tk) (hl : l.length ≤ 1000000) (hz : ∀ t ∈ l, t.s.size ≤ 1000000000) : ∀ (d i : Nat), l.length - i ≤ d → i ≤ l.length → ∀ (w : World) (v : Value), Tkm w v l →
    Calls Tryz.prog 49 #[v, .int .i64 (i : Int)] w (RsPost (typL B.nck B.long l i) w) ∧ Calls Tryz.prog 53 #[v, .int .i64 (i : Int)] w (RcPost (consL B.nck B.long l i .nil) w)
  | d, i, hd, hi, w, v, hv => by
    have ih : ∀ j, i < j → j ≤ l.length → ∀ (w' : World), Up w w' → Calls Tryz.prog 49 #[v, .int .i64 (j : Int)] w' (RsPost (typL B.nck B.long l j) w') ∧ Calls Tryz.prog 53 #[v, .int .i64 (j : Int)] w' (RcPost (consL B.nck B.long l j .nil) w') := fun j hij hjl w' u => by
      cases d with
      | zero => omega
      | succ d => exact ref_all l hl hz d j (by omega) hjl w' v (hv.up u)
    have cT := fun j hij hjl w' u => (ih j hij hjl w' u).1
    have cC := fun j hij hjl w' u => (ih j hij hjl w' u).2
    have pr : ∀ (e j : Nat), l.length - j ≤ e → i ≤ j → j ≤ l.length → ∀ w', Up w w' → Calls Tryz.prog 87 #[v, .int .i64 (j : Int)] w' (RsPost (prodL B.nck B.long l j) w') := by
      intro e
      induction e with
      | zero =>
        intro j hj hij hjl w' u
        exact ref_product l j hjl hl w' v (hv.up u) (fun w2 u2 => ref_atom l j hjl hl hz w2 v (hv.up (u.trans u2)) (fun j2 h1 h2 w3 u3 => cT j2 (by omega) h2 w3 ((u.trans u2).trans u3)) (fun j2 h1 h2 w3 u3 => cC j2 (by omega) h2 w3 ((u.trans u2).trans u3))) (fun j2 h1 h2 _ _ => by omega)
      | succ e ihe =>
        intro j hj hij hjl w' u
        exact ref_product l j hjl hl w' v (hv.up u) (fun w2 u2 => ref_atom l j hjl hl hz w2 v (hv.up (u.trans u2)) (fun j2 h1 h2 w3 u3 => cT j2 (by omega) h2 w3 ((u.trans u2).trans u3)) (fun j2 h1 h2 w3 u3 => cC j2 (by omega) h2 w3 ((u.trans u2).trans u3))) (fun j2 h1 h2 w3 u3 => ihe j2 (by omega) (by omega) h2 w3 (u.trans u3))
    exact ⟨ref_typ l i hi hl w v hv (fun w' u => pr _ i (Nat.le_refl _) (Nat.le_refl _) hi w' u) cT, ref_cons l i hi hl hz w v hv cT⟩
  termination_by d => d
end Go.Proofs.YthonaeigacfmbaaGreatDoor
namespace Go.Proofs.YthonaeigacfmbaaGreatDoor
open Go.RowKit

section
variable (nk lg : ByteArray → Bool)
def typZ (l : List Tk) (i : Int) : Rs Tr := if i < 0 ∨ (l.length : Int) < i then .inr (0, 2) else typL nk lg l i.toNat
def consZ (l : List Tk) (i : Int) : Rs Fr := if i < 0 ∨ (l.length : Int) < i then .inr (0, 2) else consL nk lg l i.toNat .nil
end
def RtV (R : Rs Tr) (w w' : World) (v : Value) (j e : Int) : Prop := match R with
  | .inl (t, q) => NewT w w' v t ∧ j = (q : Int) ∧ e = 0
  | .inr (p, r) => j = (p : Int) ∧ e = r ∧ v = .pointer none
def RtPost (R : Rs Tr) (w : World) (e : Ending) (w' : World) : Prop := ∃ v j er, e = .returned (.tuple #[v, .int .i64 j, .int .i64 er]) ∧ RtV R w w' v j er ∧ Up w w'
set_option maxHeartbeats 3200000 in
set_option maxRecDepth 100000 in
theorem refType (l : List Tk) (i : Int) (hl : l.length ≤ 1000000) (hz : ∀ t ∈ l, t.s.size ≤ 1000000000) (w : World) (v : Value) (hv : Tkm w v l) :
    Calls Tryz.prog 17 #[v, .int .i64 i] w (RtPost (typZ B.nck B.long l i) w) := by
  have HV := Lib.hid hv
  have HZ := Lib.hid hz
  obtain ⟨A, c, rfl, -⟩ := hv
  obtain ⟨n, hn⟩ : ∃ n, l.length = n := ⟨_, rfl⟩
  have HN := Lib.hid hn
  by_cases h0 : i < 0
  · have HR : Hid (typZ B.nck B.long l i = .inr (0, 2)) := Lib.hid (by unfold typZ; rw [if_pos (.inl h0)])
    rw [HR.out]
    go_enter Tryz.func17, Tryz.ntmps17
    go_wp2_with fail
    go_ret3
    exact ⟨_, _, _, rfl, ⟨rfl, rfl, rfl⟩, Up.refl _⟩
  · by_cases h1 : (n : Int) < i
    · have HR : Hid (typZ B.nck B.long l i = .inr (0, 2)) := Lib.hid (by unfold typZ; rw [if_pos (.inr (by rw [hn]; exact h1))])
      rw [HR.out]
      rw [hn]
      go_enter Tryz.func17, Tryz.ntmps17
      go_wp2_with fail
      go_ret3
      exact ⟨_, _, _, rfl, ⟨rfl, rfl, rfl⟩, Up.refl _⟩
    · obtain ⟨k, rfl⟩ := Int.eq_ofNat_of_zero_le (by omega : 0 ≤ i)
      have hkn : k ≤ l.length := by omega
      have HR : Hid (typZ B.nck B.long l (k : Int) = typL B.nck B.long l k) := Lib.hid (by unfold typZ; rw [if_neg (by rw [hn]; omega), Int.toNat_natCast])
      rw [HR.out]
      have cT := (ref_all l hl HZ.out _ k (Nat.le_refl _) hkn w _ HV.out).1
      have hle := typL_le (nk := B.nck) (lg := B.long) l k hkn
      rw [hn] at cT ⊢
      clear hz hn
      cases hT : typL B.nck B.long l k with
      | inr e =>
        obtain ⟨p, er⟩ := e
        rw [hT] at hle cT
        have hne : ¬ er = 0 := hle.2 p er rfl
        clear hT hle
        go_enter Tryz.func17, Tryz.ntmps17
        go_wp2_with fail
        refine cT.mono ?_
        rintro e w1 ⟨va, ja, ea, rfl, ⟨rfl, rfl, A1, rfl⟩, u1⟩
        go_wp2_with fail
        go_ret3
        exact ⟨_, _, _, rfl, ⟨rfl, rfl, rfl⟩, u1⟩
      | inl r =>
        obtain ⟨t, q⟩ := r
        rw [hT] at cT
        clear hT hle
        go_enter Tryz.func17, Tryz.ntmps17
        go_wp2_with fail
        refine cT.mono ?_
        rintro e w1 ⟨va, ja, ea, rfl, ⟨h1, rfl, rfl⟩, u1⟩
        go_wp2_with fail
        go_ret3
        exact ⟨_, _, _, rfl, ⟨h1, rfl, rfl⟩, u1⟩
set_option maxHeartbeats 3200000 in
set_option maxRecDepth 100000 in
theorem refCons (l : List Tk) (i : Int) (hl : l.length ≤ 1000000) (hz : ∀ t ∈ l, t.s.size ≤ 1000000000) (w : World) (v : Value) (hv : Tkm w v l) :
    Calls Tryz.prog 19 #[v, .int .i64 i] w (RcPost (consZ B.nck B.long l i) w) := by
  have HV := Lib.hid hv
  have HZ := Lib.hid hz
  obtain ⟨A, c, rfl, -⟩ := hv
  obtain ⟨n, hn⟩ : ∃ n, l.length = n := ⟨_, rfl⟩
  by_cases h0 : i < 0
  · have HR : Hid (consZ B.nck B.long l i = .inr (0, 2)) := Lib.hid (by unfold consZ; rw [if_pos (.inl h0)])
    rw [HR.out]
    go_enter Tryz.func19, Tryz.ntmps19
    go_wp2_with fail
    go_ret3
    exact ⟨_, _, _, rfl, ⟨rfl, rfl, rfl⟩, Up.refl _⟩
  · by_cases h1 : (n : Int) < i
    · have HR : Hid (consZ B.nck B.long l i = .inr (0, 2)) := Lib.hid (by unfold consZ; rw [if_pos (.inr (by rw [hn]; exact h1))])
      rw [HR.out]
      rw [hn]
      go_enter Tryz.func19, Tryz.ntmps19
      go_wp2_with fail
      go_ret3
      exact ⟨_, _, _, rfl, ⟨rfl, rfl, rfl⟩, Up.refl _⟩
    · obtain ⟨k, rfl⟩ := Int.eq_ofNat_of_zero_le (by omega : 0 ≤ i)
      have hkn : k ≤ l.length := by omega
      have HR : Hid (consZ B.nck B.long l (k : Int) = consL B.nck B.long l k .nil) := Lib.hid (by unfold consZ; rw [if_neg (by rw [hn]; omega), Int.toNat_natCast])
      rw [HR.out]
      have cC := (ref_all l hl HZ.out _ k (Nat.le_refl _) hkn w _ HV.out).2
      rw [hn] at cC ⊢
      clear hz hn
      go_enter Tryz.func19, Tryz.ntmps19
      go_wp2_with fail
      refine cC.mono ?_
      rintro e w1 ⟨va, ja, ea, rfl, hR, u1⟩
      go_wp2_with fail
      go_ret3
      exact ⟨_, _, _, rfl, hR, u1⟩
end Go.Proofs.YthonaeigacfmbaaGreatDoor
namespace Go.Proofs.YthonaeigacfmbaaGreatDoor
open Go.RowKit

def ber (k : Int) (l : List Tk) (i : Nat) : Option ByteArray := match l[i]? with
  | some t => if t.k = k then some t.s else none
  | none => none
def berZ (k : Int) (l : List Tk) (i : Int) : Option ByteArray := if 0 ≤ i then ber k l i.toNat else none
theorem ber_sz {k : Int} {l : List Tk} {i : Nat} {s : ByteArray} (hz : ∀ t ∈ l, t.s.size ≤ 1000000000) (h : ber k l i = some s) : s.size ≤ 1000000000 := by
  unfold ber at h
  split at h
  · rename_i t ht
    split at h
    · rw [← Option.some.inj h]; exact hz t (List.mem_of_getElem? ht)
    · cases h
  · cases h
theorem nam_ber (p : ByteArray → Bool) (l : List Tk) (i : Int) : namZ p l i = (match berZ 1 l i with
    | some s => if p s then some s else none
    | none => none) := by
  unfold namZ berZ ber nam
  by_cases h : 0 ≤ i
  · rw [if_pos h, if_pos h]
    cases l[i.toNat]? with
    | none => rfl
    | some t =>
      simp only
      by_cases h3 : t.k = 1
      · rw [decide_eq_true h3, if_pos h3, Bool.true_and]
      · rw [decide_eq_false h3, if_neg h3, Bool.false_and]; rfl
  · rw [if_neg h, if_neg h]
set_option maxHeartbeats 6400000 in
set_option maxRecDepth 100000 in
theorem key_any (l : List Tk) (i : Int) (x : ByteArray) (w : World) (v : Value) (hv : Tkm w v l) :
    Calls Tryz.prog 58 #[v, .int .i64 i, .string x] w (BoU (keyZ l i x) w) := by
  obtain ⟨A, c, rfl, hc⟩ := hv
  obtain ⟨n, hn⟩ : ∃ n, l.length = n := ⟨_, rfl⟩
  rw [hn]
  by_cases h0 : 0 ≤ i
  · obtain ⟨k, rfl⟩ := Int.eq_ofNat_of_zero_le h0
    by_cases hk : k < n
    · obtain ⟨t, ht⟩ : ∃ t, l[k]? = some t := ⟨_, List.getElem?_eq_getElem (by rw [hn]; exact hk)⟩
      obtain ⟨b, o, rfl, hb, c0, c1⟩ := hc k t ht
      have hki : (k : Int) < (n : Int) := by omega
      have HE : Hid (keyZ l (k : Int) x = (decide (t.k = 3) && decide (t.s = x))) := Lib.hid (by unfold keyZ; rw [decide_eq_true h0, Int.toNat_natCast]; unfold key; rw [ht]; rfl)
      rw [HE.out]
      clear hc ht hn HE
      by_cases h3 : t.k = 3
      · rw [decide_eq_true h3, Bool.true_and]
        go_enter Tryz.func58, Tryz.ntmps58
        go_wp2_with fail
        go_ret
        exact bou_ret (str_eq _ _).symm (Up.refl _)
      · rw [decide_eq_false h3, Bool.false_and]
        go_enter Tryz.func58, Tryz.ntmps58
        go_wp2_with fail
        go_ret
        exact bou_ret rfl (Up.refl _)
    · have hki : ¬ (k : Int) < (n : Int) := by omega
      have HE : Hid (keyZ l (k : Int) x = false) := Lib.hid (by unfold keyZ; rw [Int.toNat_natCast, key_end (by omega), Bool.and_false])
      rw [HE.out]
      go_enter Tryz.func58, Tryz.ntmps58
      go_wp2_with fail
      go_ret
      exact bou_ret rfl (Up.refl _)
  · have HE : Hid (keyZ l i x = false) := Lib.hid (by unfold keyZ; rw [decide_eq_false h0, Bool.false_and])
    rw [HE.out]
    go_enter Tryz.func58, Tryz.ntmps58
    go_wp2_with fail
    go_ret
    exact bou_ret rfl (Up.refl _)
set_option maxHeartbeats 3200000 in
set_option maxRecDepth 100000 in
theorem pkey_any (l : List Tk) (i : Int) (x : ByteArray) (w : World) (v : Value) (hv : Tkm w v l) :
    Calls Tryz.prog 26 #[v, .int .i64 i, .string x] w (BoU (keyZ l i x) w) := by
  have cB := key_any l i x w v hv
  clear hv
  generalize keyZ l i x = d at cB ⊢
  go_enter Tryz.func26, Tryz.ntmps26
  go_wp2_with fail
  refine cB.mono ?_
  rintro e w1 ⟨rfl, u1⟩
  go_wp2_with fail
  go_ret
  exact bou_ret rfl u1
set_option maxHeartbeats 6400000 in
set_option maxRecDepth 100000 in
theorem plong_any (l : List Tk) (i : Int) (w : World) (v : Value) (hv : Tkm w v l) (hz : ∀ t ∈ l, t.s.size ≤ 1000000000) (hx : B.Nx w) :
    Calls Tryz.prog 22 #[v, .int .i64 i] w (NaP (namZ B.long l i) w) := by
  obtain ⟨A, c, rfl, hc⟩ := hv
  obtain ⟨n, hn⟩ : ∃ n, l.length = n := ⟨_, rfl⟩
  rw [hn]
  by_cases h0 : 0 ≤ i
  · obtain ⟨k, rfl⟩ := Int.eq_ofNat_of_zero_le h0
    have h0' : ¬ (k : Int) < 0 := by omega
    by_cases hk : k < n
    · obtain ⟨t, ht⟩ : ∃ t, l[k]? = some t := ⟨_, List.getElem?_eq_getElem (by rw [hn]; exact hk)⟩
      obtain ⟨b, o, rfl, hb, c0, c1⟩ := hc k t ht
      have hs : t.s.size ≤ 1000000000 := hz t (List.mem_of_getElem? ht)
      have hki : ¬ (n : Int) ≤ (k : Int) := by omega
      have HE : Hid (namZ B.long l (k : Int) = if decide (t.k = 1) && B.long t.s then some t.s else none) := Lib.hid (by unfold namZ; rw [if_pos h0, Int.toNat_natCast]; unfold nam; rw [ht])
      rw [HE.out]
      have HX := Lib.hid hx
      clear hc ht hn HE hz hx
      by_cases h3 : t.k = 1
      · have cC := fun (W : World) (u : Up w W) => B.long_any t.s W hs (Nx.up HX.out u)
        have c0u : ∀ u : Upw w, u.w.cell? ⟨b, o + k * 4, none⟩ = some (.int .i64 t.k) := Upw.cell c0
        have c1u : ∀ u : Upw w, u.w.cell? ⟨b, o + k * 4 + 1, none⟩ = some (.string t.s) := Upw.cell c1
        obtain ⟨p, hp⟩ : ∃ p, B.long t.s = p := ⟨_, rfl⟩
        rw [hp] at cC
        have HE2 : Hid ((if decide (t.k = 1) && B.long t.s then some t.s else none : Option ByteArray) = if p then some t.s else none) := Lib.hid (by rw [hp, decide_eq_true h3, Bool.true_and])
        rw [HE2.out]
        clear hp HE2
        rw [h3] at c0 c0u
        cases p
        · go_enter Tryz.func22, Tryz.ntmps22
          go_wp2_with fail
          refine (cC w (Up.refl w)).mono ?_
          rintro e w2 ⟨rfl, u2⟩
          go_wp2_with fail
          go_ret2
          exact ⟨rfl, u2⟩
        · go_enter Tryz.func22, Tryz.ntmps22
          go_wp2_with fail
          refine (cC w (Up.refl w)).mono ?_
          rintro e w2 ⟨rfl, u2⟩
          have c9 := (show Up w w2 from u2).cell c1
          go_wp2_with fail
          go_ret2
          exact ⟨rfl, u2⟩
      · rw [decide_eq_false h3, Bool.false_and]
        go_enter Tryz.func22, Tryz.ntmps22
        go_wp2_with fail
        go_ret2
        exact ⟨rfl, Up.refl _⟩
    · have hki : (n : Int) ≤ (k : Int) := by omega
      have HE : Hid (namZ B.long l (k : Int) = none) := Lib.hid (by unfold namZ; rw [if_pos h0, Int.toNat_natCast]; unfold nam; rw [List.getElem?_eq_none (by omega)])
      rw [HE.out]
      go_enter Tryz.func22, Tryz.ntmps22
      go_wp2_with fail
      go_ret2
      exact ⟨rfl, Up.refl _⟩
  · have HE : Hid (namZ B.long l i = none) := Lib.hid (by unfold namZ; rw [if_neg h0])
    have h0' : i < 0 := by omega
    rw [HE.out]
    go_enter Tryz.func22, Tryz.ntmps22
    go_wp2_with fail
    go_ret2
    exact ⟨rfl, Up.refl _⟩
/-! ### a name is a long one without a dot -/
theorem index_dot (l : List UInt8) : (0 ≤ Lib.index l [46]) ↔ (46 : UInt8) ∈ l := by
  induction l with
  | nil =>
    have e : Lib.index [] [46] = -1 := rfl
    rw [e]
    constructor
    · intro h; omega
    · intro h; cases h
  | cons b r ih =>
    have hge := Lib.index_ge r [46]
    by_cases hb : (46 : UInt8) = b
    · subst hb
      have e : Lib.index (46 :: r) [46] = 0 := rfl
      rw [e]
      exact ⟨fun _ => List.mem_cons_self, fun _ => Int.le_refl 0⟩
    · have hp : ([46] : List UInt8).isPrefixOf (b :: r) = false := by
        show ((46 : UInt8) == b && ([] : List UInt8).isPrefixOf r) = false
        rw [beq_eq_false_iff_ne.2 hb, Bool.false_and]
      have e : Lib.index (b :: r) [46] = (if Lib.index r [46] == -1 then -1 else Lib.index r [46] + 1) := by
        show (if ([46] : List UInt8).isPrefixOf (b :: r) then 0 else _) = _
        rw [hp]; rfl
      rw [e]
      have hm : (46 : UInt8) ∈ b :: r ↔ (46 : UInt8) ∈ r := by
        rw [List.mem_cons]
        exact ⟨fun h => h.resolve_left hb, Or.inr⟩
      rw [hm, ← ih]
      by_cases h1 : Lib.index r [46] = -1
      · rw [h1]
        simp
      · rw [if_neg (by simpa using h1)]
        omega
theorem cont_dot (s : ByteArray) : Lib.contains s.data.toList (⟨#[46]⟩ : ByteArray).data.toList = decide ((46 : UInt8) ∈ s.data.toList) := by
  unfold Lib.contains
  exact decide_eq_decide.2 (index_dot _)
theorem nck_isLong (s : ByteArray) : B.nck s = (B.long s && !decide ((46 : UInt8) ∈ s.data.toList)) := by
  by_cases hd : (46 : UInt8) ∈ s.data.toList
  · rw [decide_eq_true hd, Bool.not_true, Bool.and_false]
    cases hn : B.nck s with
    | false => rfl
    | true => exact absurd hd (B.nck_dot hn)
  · have hp : B.pc s = [s] := by
      unfold B.pc
      rw [B.pcl_none hd]
      show [B.tx s.data.toList] = [s]
      rw [B.tx_of]
    rw [decide_eq_false hd, Bool.not_false, Bool.and_true]
    cases hn : B.nck s with
    | true =>
      refine (B.long_is.2 ⟨?_, ?_⟩).symm
      · have := (B.nck_size hn).2; omega
      · rw [hp]; simp [hn]
    | false =>
      cases hl : B.long s with
      | false => rfl
      | true =>
        have := (B.long_is.1 hl).2
        rw [hp] at this
        simp [hn] at this
theorem nam_long (l : List Tk) (i : Int) : namZ B.nck l i = (match namZ B.long l i with
    | some s => if decide ((46 : UInt8) ∈ s.data.toList) then none else some s
    | none => none) := by
  rw [nam_ber, nam_ber]
  cases berZ 1 l i with
  | none => rfl
  | some s =>
    simp only
    rw [nck_isLong]
    cases B.long s with
    | false => rfl
    | true =>
      rw [Bool.true_and]
      show (if (!decide ((46 : UInt8) ∈ s.data.toList)) = true then some s else none) = (if decide ((46 : UInt8) ∈ s.data.toList) = true then none else some s)
      cases decide ((46 : UInt8) ∈ s.data.toList) <;> rfl
set_option maxHeartbeats 3200000 in
set_option maxRecDepth 100000 in
theorem pname_any (l : List Tk) (i : Int) (w : World) (v : Value) (hv : Tkm w v l) (hz : ∀ t ∈ l, t.s.size ≤ 1000000000) (hx : B.Nx w) :
    Calls Tryz.prog 20 #[v, .int .i64 i] w (NaP (namZ B.nck l i) w) := by
  have cL := plong_any l i w v hv hz hx
  have HE := Lib.hid (nam_long l i)
  have hsz : ∀ s, namZ B.long l i = some s → s.size ≤ 1000000000 := fun s h => by
    rw [nam_ber] at h
    unfold berZ at h
    split at h
    · rename_i t ht
      split at ht
      · split at h
        · rw [← Option.some.inj h]; exact ber_sz hz ht
        · cases h
      · cases ht
    · cases h
  rw [HE.out]
  have HX := Lib.hid hx
  have cC := fun (s : ByteArray) (hs : s.size ≤ 1000000000) (W : World) (u : Up w W) => (show Calls Tryz.prog 54 #[.string s, .string ⟨#[46]⟩] W (fun e w' => e = .returned (.bool (decide ((46 : UInt8) ∈ s.data.toList))) ∧ w' = W) from by
    obtain ⟨m, hm⟩ := (Nx.up HX.out u).2
    rw [← cont_dot]
    exact Tryz.strings_Contains s ⟨#[46]⟩ m W (by omega) hm)
  clear hv HE hz hx HX
  cases hb : namZ B.long l i with
  | none =>
    rw [hb] at cL
    have cN := cC ⟨#[]⟩ (by decide)
    clear hb hsz cC
    go_enter Tryz.func20, Tryz.ntmps20
    go_wp2_with fail
    refine cL.mono ?_
    rintro e w1 ⟨rfl, u1⟩
    go_wp2_with fail
    refine (cN w1 u1).mono ?_
    rintro e w2 ⟨rfl, rfl⟩
    go_wp2_with fail
    go_ret2
    exact ⟨rfl, u1⟩
  | some s =>
    have cN := cC s (hsz s hb)
    rw [hb] at cL
    obtain ⟨p, hp⟩ : ∃ p, decide ((46 : UInt8) ∈ s.data.toList) = p := ⟨_, rfl⟩
    rw [hp] at cN
    simp only [hp]
    clear hb hsz hp cC
    cases p
    · go_enter Tryz.func20, Tryz.ntmps20
      go_wp2_with fail
      refine cL.mono ?_
      rintro e w1 ⟨rfl, u1⟩
      go_wp2_with fail
      refine (cN w1 u1).mono ?_
      rintro e w2 ⟨rfl, rfl⟩
      go_wp2_with fail
      go_ret2
      exact ⟨rfl, u1⟩
    · go_enter Tryz.func20, Tryz.ntmps20
      go_wp2_with fail
      refine cL.mono ?_
      rintro e w1 ⟨rfl, u1⟩
      go_wp2_with fail
      refine (cN w1 u1).mono ?_
      rintro e w2 ⟨rfl, rfl⟩
      go_wp2_with fail
      go_ret2
      exact ⟨rfl, u1⟩
theorem toks_of {W0 : World} {v : Value} {l : List Tk} (hv : Tkm W0 v l) (hz : ∀ t ∈ l, t.s.size ≤ 1000000000) (hx : B.Nx W0) : Toks B.nck B.long W0 v l := ⟨fun i x w u => by
    have h := key_any l (i : Int) x w v (hv.up u)
    have e : keyZ l (i : Int) x = key l i x := by unfold keyZ; rw [decide_eq_true (by omega), Int.toNat_natCast, Bool.true_and]
    rw [e] at h
    exact h, fun i w u => by
    have h := pname_any l (i : Int) w v (hv.up u) hz (Nx.up hx u)
    have e : namZ B.nck l (i : Int) = nam B.nck l i := by unfold namZ; rw [if_pos (by omega), Int.toNat_natCast]
    rw [e] at h
    exact h, fun i w u => by
    have h := plong_any l (i : Int) w v (hv.up u) hz (Nx.up hx u)
    have e : namZ B.long l (i : Int) = nam B.long l i := by unfold namZ; rw [if_pos (by omega), Int.toNat_natCast]
    rw [e] at h
    exact h⟩
end Go.Proofs.YthonaeigacfmbaaGreatDoor
