/-
  Layer 10, the program's side: mapped, whole.
-/
import Derived.Test.YtmiicfdigkkbdaaDoorGt28
namespace Go.Proofs.YtmiicfdigkkbdaaDoor
open Go.RowKit

def Sd (S0 : Nat → Prop) (H M R : Nat) (w : World) (q : Nat) : Prop := S0 q ∨ (H ≤ q ∧ q < w.heap.size ∧ q ≠ M ∧ q ≠ R)
def MpB (S0 : Nat → Prop) (H N : Nat) (x : Nod) (us : List Value) (j : Nat) (f : Fr) (m : Value) (wr : World) : Prop :=
  ∃ (M R c2 : Nat) (xs : List Value), m = .pointer (some ⟨M, 0, none⟩) ∧ H ≤ M ∧ M < R ∧ Nb wr M x (.slice (some ⟨R, 0, none⟩) N c2) ∧ wr.ownsRow (M + 1) 25 1 (.slice (some ⟨R, 0, none⟩) N c2) N xs ∧
    xs.drop j = us.drop j ∧ PtF wr (Sd S0 H M R wr) xs f
theorem drop_get {xs us : List Value} {j : Nat} {u : Value} (h : xs.drop j = us.drop j) (hu : us[j]? = some u) : xs[j]? = some u := by
  have e : (xs.drop j)[0]? = (us.drop j)[0]? := by rw [h]
  rw [List.getElem?_drop, List.getElem?_drop] at e
  simpa using e.trans hu
theorem drop_next {xs us : List Value} {j : Nat} (h : xs.drop j = us.drop j) : xs.drop (j + 1) = us.drop (j + 1) := by
  have e1 : xs.drop (j + 1) = (xs.drop j).drop 1 := by rw [List.drop_drop]
  have e2 : us.drop (j + 1) = (us.drop j).drop 1 := by rw [List.drop_drop]
  rw [e1, e2, h]
theorem drop_set {xs us : List Value} {j : Nat} {v : Value} (h : xs.drop j = us.drop j) : (xs.set j v).drop (j + 1) = us.drop (j + 1) := by
  rw [← drop_next h]
  rw [List.drop_set]
  rw [if_pos (by omega)]
theorem Fr.set_mid {a r : Fr} {y : Nod} {l : Fr} {t : Tr} : (a.app (.cons y l r)).set a.len t = (a.app (.cons t.1 t.2 .nil)).app r := by
  induction a with
  | nil => rfl
  | cons x k b _ ih => simp only [Fr.app, Fr.len, Fr.set]; rw [ih]
theorem own_eq {w w' : World} {base : Nat} {e : TypeId} {size : Nat} {v : Value} {n : Nat} {xs : List Value} (h : w.ownsRow base e size v n xs) (hk : ∀ g, v.ownBlock = some g → w'.heap[g]? = w.heap[g]?) : w'.ownsRow base e size v n xs := by
  refine ⟨h.1, ?_⟩
  rcases h.2 with h2 | ⟨g, cap, cur, hv, hbg, hh, d⟩
  · exact .inl h2
  · exact .inr ⟨g, cap, cur, hv, hbg, (hk g (by rw [hv]; rfl)).trans hh, d⟩
section
variable {σ : Type} {F : Nat} {ty : TypeId} {val : σ → Value} {S0 : Nat → Prop}
theorem JS.keep {w w' : World} {s : σ} (h : JS F ty val w s) (hk : w'.heap[F]? = w.heap[F]?) : JS F ty val w' s := hk.trans h
theorem Sd.gs {H M R : Nat} {w w' : World} {q : Nat} (h : Sd S0 H M R w q) (hz : w.heap.size ≤ w'.heap.size) : Sd S0 H M R w' q := by
  rcases h with h | ⟨h1, h2, h3⟩
  · exact .inl h
  · exact .inr ⟨h1, by omega, h3⟩
theorem MpB.set {H N : Nat} {x : Nod} {us : List Value} {j : Nat} {d r : Fr} {y : Nod} {l : Fr} {v2 : Value} {t2 : Tr} {wr : World} {M R c2 : Nat} {xs : List Value} (hj : j = d.len) (hHF : H ≤ M)
    (hMR : M < R) (hnb : Nb wr M x (.slice (some ⟨R, 0, none⟩) N c2)) (hown : wr.ownsRow (M + 1) 25 1 (.slice (some ⟨R, 0, none⟩) N c2) N xs) (hdr : xs.drop j = us.drop j) (hpt : PtF wr (Sd S0 H M R wr) xs (d.app (.cons y l r)))
    (hv2 : InT wr (Sd S0 H M R wr) v2 t2) (hS0 : Bel S0 H) : MpB S0 H N x us (j + 1) ((d.app (.cons t2.1 t2.2 .nil)).app r) (.pointer (some ⟨M, 0, none⟩)) (wr.setCell ⟨R, j, none⟩ v2) := by
  have hz : (wr.setCell ⟨R, j, none⟩ v2).heap.size = wr.heap.size := by simp [World.setCell]
  have hk : ∀ b, Sd S0 H M R wr b → (wr.setCell ⟨R, j, none⟩ v2).heap[b]? = wr.heap[b]? := fun b hb => Below.heap_setCell _ _ _ _ (by
    rcases hb with h | ⟨_, _, _, h⟩
    · have := hS0 b h; simp only; omega
    · exact h)
  have hw : ∀ q, Sd S0 H M R wr q → Sd S0 H M R (wr.setCell ⟨R, j, none⟩ v2) q := fun q h => h.gs (Nat.le_of_eq hz.symm)
  refine ⟨M, R, c2, xs.set j v2, rfl, hHF, hMR, ?_, (hown.stored j v2).1, drop_set hdr, ?_⟩
  · unfold Nb at hnb ⊢
    rw [Below.heap_setCell _ _ _ _ (by simp only; omega)]
    exact hnb
  · have h := PtF.set (m := j) (hv2.keep hw hk) (hpt.keep hw hk)
    rw [hj, Fr.set_mid] at h
    rw [hj]
    exact h
theorem MpB.gs {H N : Nat} {x : Nod} {us : List Value} {j : Nat} {f : Fr} {m : Value} {wr w2 : World} (h : MpB S0 H N x us j f m wr) (g : Gs (On F) wr w2) (hF0 : ¬ S0 F) (hFH : F < H) (hS0 : Bel S0 wr.heap.size) : MpB S0 H N x us j f m w2 := by
  obtain ⟨M, R, c2, xs, h1, h2, h3, h4, h5, h6, h7⟩ := h
  have hR := (h5.lt R rfl).2
  refine ⟨M, R, c2, xs, h1, h2, h3, g.row h4 (fun e => by have e : M = F := e; omega), own_eq h5 (fun k hk => ?_), h6, h7.keep (fun q hq => hq.gs g.size) fun b hb => ?_⟩
  · injection hk with hk
    have hk : R = k := hk
    exact g.block k (by omega) (fun e => by have e : k = F := e; omega)
  · rcases hb with hb | ⟨b1, b2, _⟩
    · exact g.block b (hS0 b hb) (fun e => by have e : b = F := e; exact hF0 (e ▸ hb))
    · exact g.block b b2 (fun e => by have e : b = F := e; omega)
end
set_option maxHeartbeats 12800000 in
set_option maxRecDepth 100000 in
theorem mapNode {σ : Type} {n : Nat} {F : Nat} {ty : TypeId} {val : σ → Value} {S0 : Nat → Prop} {w0 : World} {st : σ → Nod → Nat → σ} {tr : Nod → Nat → Tr} {g : FuncId} {cap : Array Value} (ih : MapAt n F ty val S0 w0 st tr g cap) (hS0 : Bel S0 w0.heap.size) (hF0 : ¬ S0 F) (hFw : F < w0.heap.size)
    (x : Nod) (ks : Fr) (h110 : ¬ x.k = 110) (hn : szT (x, ks) ≤ n + 1) (hv : tvok (x, ks)) (d : Nat) (hd : d + (n + 1) ≤ 1000000000) (hbig : n ≤ 1000000) (s : σ) (w : World) (v : Value) (hg : Gs (On F) w0 w) (hj : JS F ty val w s) (hin : InT w S0 v (x, ks)) :
    Calls Tryd.prog 58 #[v, .int .i64 (d : Int), .func (.func g) #[] cap] w (MpP F ty val S0 w (fdT' st s d (x, ks)) (mpT tr d (x, ks)) v (x, ks)) := by
  have e1 : fdT' st s d (x, ks) = fdF st s (d + innK x.k) ks := by unfold fdT'; exact if_neg h110
  have e2 : mpT tr d (x, ks) = (x, mpF tr (d + innK x.k) ks) := by unfold mpT; exact if_neg h110
  rw [e1, e2]
  have HIN := Lib.hid hin
  obtain ⟨q, p, A, c, rfl, hq1, c0, c1, c2, c3, c4, hc, hkid⟩ := hin.open
  obtain ⟨us, hus, hA⟩ := hkid.vals2
  have hsz : szT (x, ks) = 1 + ks.sz := rfl
  have hll := Fr.len_le ks
  obtain ⟨N, hN⟩ : ∃ N, ks.len = N := ⟨_, rfl⟩
  have hul : us.length = N := by rw [hus.len, hN]
  rw [hN] at c4 hll hA
  have hN1 : N ≤ 1000000 := by omega
  have hi1 := innK_le x.k
  obtain ⟨D, hD⟩ : ∃ D, d + innK x.k = D := ⟨_, rfl⟩
  have hDn : D + n ≤ 1000000000 := by omega
  have hqH : q < w.heap.size := cell_lt c4
  obtain ⟨H, hH⟩ : ∃ H, w.heap.size = H := ⟨_, rfl⟩
  have hw0H : w0.heap.size ≤ H := by rw [← hH]; exact hg.size
  have hSH : Bel S0 H := fun q h => Nat.lt_of_lt_of_le (hS0 q h) hw0H
  have hqF : q ≠ F := fun e => hF0 (e ▸ hq1)
  have HIH := Lib.hid ih
  have HUS := Lib.hid hus
  have HA := Lib.hid hA
  have HUL := Lib.hid hul
  have HNN := Lib.hid hN
  have HSZ := Lib.hid (by omega : ks.sz ≤ n)
  have HG := Lib.hid hg
  have HJ := Lib.hid hj
  have HH := Lib.hid hH
  have HSH := Lib.hid hSH
  have HF0 := Lib.hid hF0
  have HVK := Lib.hid hv.2
  have HONE := Lib.hid hus.one
  have HTW := Lib.hid (fun (W : World) (u : Gs (On F) w W) => pTwin x q p A N c us W hul hN1 hus.one (u.cell c0 hqF) (u.cell c1 hqF) (u.cell c2 hqF) (u.cell c3 hqF) (u.cell c4 hqF) (fun h0 => by
    obtain ⟨b, o, e, hb, hcl⟩ := hA h0
    have hbF : b ≠ F := fun e => hF0 (e ▸ hb)
    exact ⟨b, o, e, Nat.lt_of_lt_of_le (Nat.lt_of_lt_of_le (hS0 b hb) hg.size) u.size, fun j u' hu => u.cell (p := ⟨b, o + j, none⟩) (hcl j u' hu) hbF⟩))
  have HFH : Hid (F < H) := Lib.hid (by omega)
  rw [hD]
  obtain ⟨K, hK⟩ : ∃ K, x.k = K := ⟨_, rfl⟩
  have hinn : d + innK K = D := by rw [← hK]; exact hD
  rw [hK] at c0 h110
  clear ih hus hA hul hN hsz hn hg hj hin hkid hH hSH hF0 hv e1 e2 hD hS0 hc c1 c2 c3 hll hi1
  have hpar : (K = 117 ∨ K = 118 ∨ K = 119 ∨ K = 121) ∧ D = d + 1 ∨ (¬ K = 117 ∧ ¬ K = 118 ∧ ¬ K = 119 ∧ ¬ K = 121) ∧ D = d := by
    unfold innK at hinn
    split at hinn
    · left; omega
    · right; omega
  have HW0H := Lib.hid hw0H
  have HS0 : Hid (Bel S0 w.heap.size) := Lib.hid (by rw [HH.out]; exact HSH.out)
  have hkid : Hid (∀ (j : Nat) (y : Nod) (l : Fr), ks.get j = some (y, l) → ∃ kb ko q1 o1, A = some ⟨kb, ko, none⟩ ∧ kb ≠ F ∧ us[j]? = some (.pointer (some ⟨q1, o1, none⟩)) ∧ w.cell? ⟨kb, ko + j, none⟩ = some (.pointer (some ⟨q1, o1, none⟩)) ∧ ∀ wr, Gs (On F) w wr → InT wr S0 (.pointer (some ⟨q1, o1, none⟩)) (y, l)) := Lib.hid (by
    intro j y l hget
    obtain ⟨u, hu1, hu2⟩ := HUS.out.at hget
    obtain ⟨q1, o1, rfl⟩ := hu2.ptr
    obtain ⟨kb, ko, hAe, hkb, hcl⟩ := HA.out (by have h1 := Fr.get_lt hget; rw [HNN.out] at h1; omega)
    exact ⟨kb, ko, q1, o1, hAe, fun e => HF0.out (e ▸ hkb), hu1, hcl j _ hu1, fun wr g => hu2.keep (fun _ h => h) fun b hb => g.block b (HS0.out b hb) (fun e => by have e : b = F := e; exact HF0.out (e ▸ hb))⟩)
  clear HA hw0H
  rcases hpar with ⟨hK, hD1⟩ | ⟨⟨n1, n2, n3, n4⟩, hD1⟩
  · have hDz : (D : Int) = (d : Int) + 1 := by omega
    clear hinn hD1
    rcases hK with rfl | rfl | rfl | rfl
    all_goals
      go_enter Tryd.func58, Tryd.ntmps58
      go_wp2_with fail
      go_loopw [7, 8, 9, 10, 41] (fun m _ _ _ i wr => ∃ (j : Nat) (done rest : Fr), i = .int .i64 j ∧ j = done.len ∧ ks = done.app rest ∧ Gs (On F) w wr ∧ JS F ty val wr (fdF st s D done) ∧ ((m = .pointer (some ⟨q, p, none⟩) ∧ mpF tr D done = done) ∨ MpB S0 H N x us j ((mpF tr D done).app rest) m wr)) (fun _ _ _ _ i _ => N - (intOf i).toNat)
      case atStart => exact ⟨0, .nil, ks, rfl, rfl, rfl, Gs.refl _ _, HJ.out, .inl ⟨rfl, rfl⟩⟩
      case round =>
        obtain ⟨j, done, rest, rfl, hj, hks, hgr, hjr, hm⟩ := hrel
        have hl : N = done.len + rest.len := by rw [← HNN.out, hks, Fr.len_app]
        have hs : ks.sz = done.sz + rest.sz := by rw [hks, Fr.sz_app]
        have hsz := HSZ.out
        have HKS := Lib.hid hks
        have HGR := Lib.hid hgr
        have HJR := Lib.hid hjr
        have hHr : H ≤ wr.heap.size := by rw [← HH.out]; exact hgr.size
        have HSR : Hid (Bel S0 wr.heap.size) := Lib.hid fun q' h => Nat.lt_of_lt_of_le (HSH.out q' h) hHr
        by_cases hlt : 0 < rest.len
        · obtain ⟨y, l, r, rfl⟩ := Fr.cut hlt
          have hsr : (Fr.cons y l r).sz = 1 + l.sz + r.sz := rfl
          have hyl : szT (y, l) = 1 + l.sz := rfl
          have hlr : (Fr.cons y l r).len = r.len + 1 := rfl
          have hjN : j < N := by omega
          have hjz : (j : Int) < (N : Int) := by omega
          have hget : ks.get j = some (y, l) := by rw [hks, hj, Fr.get_app]; rfl
          obtain ⟨kb, ko, q1, o1, rfl, hkF, hus1, hcell0, hut0⟩ := hkid.out j y l hget
          have hcell := hgr.cell (p := ⟨kb, ko + j, none⟩) hcell0 hkF
          have hut := hut0 wr hgr
          have hvk := HVK.out
          rw [hks, Fr.vok_app] at hvk
          have cI := HIH.out (y, l) (by omega) ⟨hvk.2.1, hvk.2.2.1⟩ D hDn (fdF st s D done) wr _ (HG.out.trans hgr) hjr hut
          have HUT := Lib.hid hut0
          have HUS1 := Lib.hid hus1
          have HK1 := Lib.hid hj
          have HM := Lib.hid hm
          have hpl := hut.pln
          have HPL := Lib.hid hpl
          clear hks hj hl hs hsr hyl hlr hsz hgr hjr hm hget hut hut0 hvk hpl hcell0 hus1
          obtain ⟨t2, ht2⟩ : ∃ t2, mpT tr D (y, l) = t2 := ⟨_, rfl⟩
          obtain ⟨s2, hs2⟩ : ∃ s2, fdT' st (fdF st s D done) D (y, l) = s2 := ⟨_, rfl⟩
          rw [ht2, hs2, hDz] at cI
          have HF2 : Hid (fdF st s D (done.app (.cons y l .nil)) = s2) := Lib.hid (by rw [fdF_app, fdF_c, hs2]; rfl)
          have HT2 : Hid (mpF tr D (done.app (.cons y l .nil)) = (mpF tr D done).app (.cons t2.1 t2.2 .nil)) := Lib.hid (by rw [mpF_app, mpF_c, ht2]; rfl)
          have HML : Hid (j = (mpF tr D done).len) := Lib.hid (by rw [mpF_len]; exact HK1.out)
          clear ht2 hs2
          rcases HM.out with ⟨rfl, hdn⟩ | hB
          · have HDN := Lib.hid hdn
            clear hdn
            go_wp2_with fail
            refine cI.mono ?_
            rintro e w2 ⟨v2, rfl, g2, j2, h2, hsame⟩
            have G2 := Lib.hid (HGR.out.trans g2)
            have J2 := Lib.hid j2
            obtain ⟨q2, o2, rfl⟩ := h2.ptr
            by_cases heq : (⟨q2, o2, none⟩ : Addr) = ⟨q1, o1, none⟩
            · have htt := hsame (by rw [heq])
              injection heq with e1 e2
              subst e1 e2 htt
              have hps := ptr_same w2 ⟨q2, o2, none⟩
              have HMN : Hid (mpF tr D (done.app (.cons y l .nil)) = done.app (.cons y l .nil)) := Lib.hid (by rw [HT2.out, HDN.out])
              clear g2 j2 h2 hsame cI
              go_wp2_with fail
              go_roundw
              case rel => exact ⟨j + 1, done.app (.cons y l .nil), r, by go_num, by rw [Fr.len_app, HK1.out]; rfl, by rw [HKS.out, Fr.app_cons], G2.out, by rw [HF2.out]; exact J2.out, .inl ⟨rfl, HMN.out⟩⟩
              case measure => simp [intOf]; omega
            · have hpo := ptr_other (w := w2) heq h2.pln (by
                obtain ⟨xs, te, hx⟩ := HPL.out
                have hqq := (HUT.out wr HGR.out).open
                obtain ⟨q', o', _, _, hqe, hqS, _⟩ := hqq
                injection hqe with hqe
                injection hqe with hqe
                injection hqe with e1 e2
                subst e1 e2
                exact ⟨xs, te, g2.row hx (fun e => by have e : q1 = F := e; exact HF0.out (e ▸ hqS))⟩)
              have H2 := Lib.hid h2
              have GG := Lib.hid g2
              clear g2 j2 h2 hsame cI hcell hkF
              have hps := ptr_same w2 ⟨q, p, none⟩
              have cT := HTW.out w2 G2.out
              go_wp2_with fail
              refine cT.mono ?_
              rintro e w3 ⟨vk, rfl, hnb, hown, u3⟩
              obtain ⟨R, c2, rfl, hR1, hR2⟩ := hown.form (by omega)
              have cn := hnb.cell.1
              have cj := hown.cellAt j (by omega)
              rw [HUS1.out] at cj
              have fj := hown.frozenAt j
              have HNB := Lib.hid hnb
              have HOWN := Lib.hid hown
              have U3 := Lib.hid u3
              have HR1 := Lib.hid hR1
              clear hnb hown u3 cT hR1 hR2
              have hz2 := GG.out.size
              have hz3 := U3.out.size
              have hRz := (HOWN.out.lt R rfl)
              have HSET : Hid (MpB S0 H N x us (j + 1) (((mpF tr D done).app (.cons t2.1 t2.2 .nil)).app r) (.pointer (some ⟨w2.heap.size, 0, none⟩)) (w3.setCell ⟨R, j, none⟩ (.pointer (some ⟨q2, o2, none⟩)))) := Lib.hid (MpB.set HML.out (by omega) (by omega) HNB.out HOWN.out rfl (y := y) (l := l) (by
                rw [HDN.out, ← HKS.out]
                exact HUS.out.keep (fun _ h => .inl h) fun b hb => (U3.out.block b (by have := HSR.out b hb; omega)).trans (G2.out.block b (HS0.out b hb) (fun e => by have e : b = F := e; exact HF0.out (e ▸ hb)))) (H2.out.keep (fun q' h => by
                rcases h with h | ⟨h1, h2⟩
                · exact .inl h
                · exact .inr ⟨by omega, by omega, by omega, by omega⟩) fun b hb => U3.out.block b (by
                rcases hb with h | ⟨_, h⟩
                · have := HSR.out b h; omega
                · exact h)) HSH.out)
              have HGS : Hid (Gs (On F) w (w3.setCell ⟨R, j, none⟩ (.pointer (some ⟨q2, o2, none⟩)))) := Lib.hid ((G2.out.trans (Gs.of U3.out)).set _ _ (.inr (by rw [HH.out]; simp only; omega)))
              have HJS : Hid (JS F ty val (w3.setCell ⟨R, j, none⟩ (.pointer (some ⟨q2, o2, none⟩))) s2) := Lib.hid (JS.keep J2.out ((Below.heap_setCell _ _ _ _ (by have := HFH.out; simp only; omega)).trans (U3.out.block F (by have := HFH.out; omega))))
              go_wp2_with fail
              go_roundw
              case rel => exact ⟨j + 1, done.app (.cons y l .nil), r, by go_num, by rw [Fr.len_app, HK1.out]; rfl, by rw [HKS.out, Fr.app_cons], HGS.out, by rw [HF2.out]; exact HJS.out, .inr (by rw [HT2.out]; exact HSET.out)⟩
              case measure => simp [intOf]; omega
          · obtain ⟨M, R, c2, xs, rfl, k2, k3, hnb0, hown0, k6, k7⟩ := hB
            have HNB0 := Lib.hid hnb0
            have HOWN0 := Lib.hid hown0
            have HD6 := Lib.hid k6
            have HP7 := Lib.hid k7
            have hRr := (hown0.lt R rfl).2
            clear hnb0 hown0 k6 k7
            go_wp2_with fail
            refine cI.mono ?_
            rintro e w2 ⟨v2, rfl, g2, j2, h2, hsame⟩
            have G2 := Lib.hid (HGR.out.trans g2)
            have J2 := Lib.hid j2
            have hnb : Nb w2 M x (.slice (some ⟨R, 0, none⟩) N c2) := g2.row HNB0.out (fun e => by have e : M = F := e; have := HFH.out; omega)
            have hown := own_eq (w' := w2) HOWN0.out (fun k hk => by
              injection hk with hk
              have hk : R = k := hk
              exact g2.block k (by omega) (fun e => by have e : k = F := e; have := HFH.out; omega))
            have k7 := PtF.keep (w' := w2) (S' := Sd S0 H M R w2) (fun q' h => Sd.gs h g2.size) (fun b hb => by
              rcases hb with hb | ⟨b1, b2, _⟩
              · exact g2.block b (HSR.out b hb) (fun e => by have e : b = F := e; exact HF0.out (e ▸ hb))
              · exact g2.block b b2 (fun e => by have e : b = F := e; have := HFH.out; omega)) HP7.out
            have HNB := Lib.hid hnb
            have HOWN := Lib.hid hown
            have HP := Lib.hid k7
            have cn := hnb.cell.1
            have cj := hown.cellAt j (by omega)
            rw [drop_get HD6.out HUS1.out] at cj
            have fj := hown.frozenAt j
            obtain ⟨q2, o2, rfl⟩ := h2.ptr
            clear hnb hown k7
            by_cases heq : (⟨q2, o2, none⟩ : Addr) = ⟨q1, o1, none⟩
            · have htt := hsame (by rw [heq])
              injection heq with e1 e2
              subst e1 e2 htt
              have hps := ptr_same w2 ⟨q2, o2, none⟩
              have HMN : Hid (MpB S0 H N x us (j + 1) ((mpF tr D (done.app (.cons y l .nil))).app r) (.pointer (some ⟨M, 0, none⟩)) w2) := Lib.hid (by
                rw [HT2.out, ← Fr.app_cons]
                exact ⟨M, R, c2, xs, rfl, k2, k3, HNB.out, HOWN.out, drop_next HD6.out, HP.out⟩)
              clear g2 j2 h2 hsame cI
              go_wp2_with fail
              go_roundw
              case rel => exact ⟨j + 1, done.app (.cons y l .nil), r, by go_num, by rw [Fr.len_app, HK1.out]; rfl, by rw [HKS.out, Fr.app_cons], G2.out, by rw [HF2.out]; exact J2.out, .inr HMN.out⟩
              case measure => simp [intOf]; omega
            · have hpo := ptr_other (w := w2) heq h2.pln (by
                obtain ⟨xs, te, hx⟩ := HPL.out
                have hqq := (HUT.out wr HGR.out).open
                obtain ⟨q', o', _, _, hqe, hqS, _⟩ := hqq
                injection hqe with hqe
                injection hqe with hqe
                injection hqe with e1 e2
                subst e1 e2
                exact ⟨xs, te, g2.row hx (fun e => by have e : q1 = F := e; exact HF0.out (e ▸ hqS))⟩)
              have hpn := ptr_other (w := w2) (a := ⟨M, 0, none⟩) (b := ⟨q, p, none⟩) (fun e => by injection e with e; rw [HH.out] at hqH; omega) ⟨_, _, HNB.out⟩ (by
                obtain ⟨xs, te, hx⟩ := HIN.out.pln
                exact ⟨xs, te, G2.out.row hx (fun e => hqF e)⟩)
              have hz2 := g2.size
              have HSET : Hid (MpB S0 H N x us (j + 1) (((mpF tr D done).app (.cons t2.1 t2.2 .nil)).app r) (.pointer (some ⟨M, 0, none⟩)) (w2.setCell ⟨R, j, none⟩ (.pointer (some ⟨q2, o2, none⟩)))) := Lib.hid (MpB.set HML.out k2 k3 HNB.out HOWN.out HD6.out HP.out (h2.keep (fun q' h => by
                rcases h with h | ⟨h1, h2⟩
                · exact .inl h
                · exact .inr ⟨by omega, by omega, by have := heap_lt HNB0.out; omega, by omega⟩) fun _ _ => rfl) HSH.out)
              have HGS : Hid (Gs (On F) w (w2.setCell ⟨R, j, none⟩ (.pointer (some ⟨q2, o2, none⟩)))) := Lib.hid (G2.out.set _ _ (.inr (by rw [HH.out]; simp only; omega)))
              have HJS : Hid (JS F ty val (w2.setCell ⟨R, j, none⟩ (.pointer (some ⟨q2, o2, none⟩))) s2) := Lib.hid (JS.keep J2.out (Below.heap_setCell _ _ _ _ (by have := HFH.out; simp only; omega)))
              clear g2 j2 h2 hsame cI hcell hkF
              go_wp2_with fail
              go_roundw
              case rel => exact ⟨j + 1, done.app (.cons y l .nil), r, by go_num, by rw [Fr.len_app, HK1.out]; rfl, by rw [HKS.out, Fr.app_cons], HGS.out, by rw [HF2.out]; exact HJS.out, .inr (by rw [HT2.out]; exact HSET.out)⟩
              case measure => simp [intOf]; omega
        · have h0 : rest = .nil := by
            cases rest with
            | nil => rfl
            | cons y l r => exact absurd (Nat.succ_pos _) hlt
          subst h0
          have hkd : ks = done := by rw [hks, Fr.app_nil]
          have hjz : ¬ (j : Int) < (N : Int) := by simp only [Fr.len] at hl; omega
          rw [← hkd] at hm
          have HM := Lib.hid hm
          have HKD := Lib.hid hkd
          clear hks hj hl hs hgr hjr hm hkd
          rcases HM.out with ⟨rfl, hdn⟩ | hB
          · have HDN := Lib.hid hdn
            clear hdn
            go_wp2_with fail
            go_ret
            refine ⟨_, rfl, HGR.out, by rw [HKD.out]; exact HJR.out, ?_, fun _ => by rw [HDN.out]⟩
            rw [HDN.out]
            exact HIN.out.keep (fun q' h => .inl h) fun b hb => HGR.out.block b (HS0.out b hb) (fun e => by have e : b = F := e; exact HF0.out (e ▸ hb))
          · obtain ⟨M, R, c2, xs, rfl, k2, k3, hnb, hown, k6, k7⟩ := hB
            have hRz := (hown.lt R rfl).2
            have HTREE : Hid (InT wr (Sin S0 w wr) (.pointer (some ⟨M, 0, none⟩)) (x, mpF tr D ks)) := Lib.hid (OwnT.tree (x := x) (f := mpF tr D ks) (v := .slice (some ⟨R, 0, none⟩) N c2) (e := 25) (base := M + 1) ⟨xs, by rw [mpF_len, HNN.out]; exact hown, by
              rw [Fr.app_nil] at k7
              exact k7.keep (fun q' h => by
                rcases h with h | ⟨h1, h2, _⟩
                · exact .inl h
                · exact .inr ⟨by rw [HH.out]; exact h1, h2⟩) fun _ _ => rfl⟩ hnb (.inr ⟨by rw [HH.out]; exact k2, by omega⟩) (fun g hg => by
                injection hg with hg
                have hg : R = g := hg
                subst hg
                exact .inr ⟨by rw [HH.out]; omega, hRz⟩))
            have hMq : M ≠ q := fun e => by rw [HH.out] at hqH; omega
            clear hnb hown k6 k7
            go_wp2_with fail
            go_ret
            exact ⟨_, rfl, HGR.out, by rw [HKD.out]; exact HJR.out, HTREE.out, fun e => by injection e with e; injection e with e; injection e with e; exact absurd e hMq⟩
  · subst hD1
    clear hinn
    go_enter Tryd.func58, Tryd.ntmps58
    go_wp2_with fail
    go_loopw [7, 8, 9, 10, 41] (fun m _ _ _ i wr => ∃ (j : Nat) (done rest : Fr), i = .int .i64 j ∧ j = done.len ∧ ks = done.app rest ∧ Gs (On F) w wr ∧ JS F ty val wr (fdF st s D done) ∧ ((m = .pointer (some ⟨q, p, none⟩) ∧ mpF tr D done = done) ∨ MpB S0 H N x us j ((mpF tr D done).app rest) m wr)) (fun _ _ _ _ i _ => N - (intOf i).toNat)
    case atStart => exact ⟨0, .nil, ks, rfl, rfl, rfl, Gs.refl _ _, HJ.out, .inl ⟨rfl, rfl⟩⟩
    case round =>
      obtain ⟨j, done, rest, rfl, hj, hks, hgr, hjr, hm⟩ := hrel
      have hl : N = done.len + rest.len := by rw [← HNN.out, hks, Fr.len_app]
      have hs : ks.sz = done.sz + rest.sz := by rw [hks, Fr.sz_app]
      have hsz := HSZ.out
      have HKS := Lib.hid hks
      have HGR := Lib.hid hgr
      have HJR := Lib.hid hjr
      have hHr : H ≤ wr.heap.size := by rw [← HH.out]; exact hgr.size
      have HSR : Hid (Bel S0 wr.heap.size) := Lib.hid fun q' h => Nat.lt_of_lt_of_le (HSH.out q' h) hHr
      by_cases hlt : 0 < rest.len
      · obtain ⟨y, l, r, rfl⟩ := Fr.cut hlt
        have hsr : (Fr.cons y l r).sz = 1 + l.sz + r.sz := rfl
        have hyl : szT (y, l) = 1 + l.sz := rfl
        have hlr : (Fr.cons y l r).len = r.len + 1 := rfl
        have hjN : j < N := by omega
        have hjz : (j : Int) < (N : Int) := by omega
        have hget : ks.get j = some (y, l) := by rw [hks, hj, Fr.get_app]; rfl
        obtain ⟨kb, ko, q1, o1, rfl, hkF, hus1, hcell0, hut0⟩ := hkid.out j y l hget
        have hcell := hgr.cell (p := ⟨kb, ko + j, none⟩) hcell0 hkF
        have hut := hut0 wr hgr
        have hvk := HVK.out
        rw [hks, Fr.vok_app] at hvk
        have cI := HIH.out (y, l) (by omega) ⟨hvk.2.1, hvk.2.2.1⟩ D hDn (fdF st s D done) wr _ (HG.out.trans hgr) hjr hut
        have HUT := Lib.hid hut0
        have HUS1 := Lib.hid hus1
        have HK1 := Lib.hid hj
        have HM := Lib.hid hm
        have hpl := hut.pln
        have HPL := Lib.hid hpl
        clear hks hj hl hs hsr hyl hlr hsz hgr hjr hm hget hut hut0 hvk hpl hcell0 hus1
        obtain ⟨t2, ht2⟩ : ∃ t2, mpT tr D (y, l) = t2 := ⟨_, rfl⟩
        obtain ⟨s2, hs2⟩ : ∃ s2, fdT' st (fdF st s D done) D (y, l) = s2 := ⟨_, rfl⟩
        rw [ht2, hs2] at cI
        have HF2 : Hid (fdF st s D (done.app (.cons y l .nil)) = s2) := Lib.hid (by rw [fdF_app, fdF_c, hs2]; rfl)
        have HT2 : Hid (mpF tr D (done.app (.cons y l .nil)) = (mpF tr D done).app (.cons t2.1 t2.2 .nil)) := Lib.hid (by rw [mpF_app, mpF_c, ht2]; rfl)
        have HML : Hid (j = (mpF tr D done).len) := Lib.hid (by rw [mpF_len]; exact HK1.out)
        clear ht2 hs2
        rcases HM.out with ⟨rfl, hdn⟩ | hB
        · have HDN := Lib.hid hdn
          clear hdn
          go_wp2_with fail
          refine cI.mono ?_
          rintro e w2 ⟨v2, rfl, g2, j2, h2, hsame⟩
          have G2 := Lib.hid (HGR.out.trans g2)
          have J2 := Lib.hid j2
          obtain ⟨q2, o2, rfl⟩ := h2.ptr
          by_cases heq : (⟨q2, o2, none⟩ : Addr) = ⟨q1, o1, none⟩
          · have htt := hsame (by rw [heq])
            injection heq with e1 e2
            subst e1 e2 htt
            have hps := ptr_same w2 ⟨q2, o2, none⟩
            have HMN : Hid (mpF tr D (done.app (.cons y l .nil)) = done.app (.cons y l .nil)) := Lib.hid (by rw [HT2.out, HDN.out])
            clear g2 j2 h2 hsame cI
            go_wp2_with fail
            go_roundw
            case rel => exact ⟨j + 1, done.app (.cons y l .nil), r, by go_num, by rw [Fr.len_app, HK1.out]; rfl, by rw [HKS.out, Fr.app_cons], G2.out, by rw [HF2.out]; exact J2.out, .inl ⟨rfl, HMN.out⟩⟩
            case measure => simp [intOf]; omega
          · have hpo := ptr_other (w := w2) heq h2.pln (by
              obtain ⟨xs, te, hx⟩ := HPL.out
              have hqq := (HUT.out wr HGR.out).open
              obtain ⟨q', o', _, _, hqe, hqS, _⟩ := hqq
              injection hqe with hqe
              injection hqe with hqe
              injection hqe with e1 e2
              subst e1 e2
              exact ⟨xs, te, g2.row hx (fun e => by have e : q1 = F := e; exact HF0.out (e ▸ hqS))⟩)
            have H2 := Lib.hid h2
            have GG := Lib.hid g2
            clear g2 j2 h2 hsame cI hcell hkF
            have hps := ptr_same w2 ⟨q, p, none⟩
            have cT := HTW.out w2 G2.out
            go_wp2_with fail
            refine cT.mono ?_
            rintro e w3 ⟨vk, rfl, hnb, hown, u3⟩
            obtain ⟨R, c2, rfl, hR1, hR2⟩ := hown.form (by omega)
            have cn := hnb.cell.1
            have cj := hown.cellAt j (by omega)
            rw [HUS1.out] at cj
            have fj := hown.frozenAt j
            have HNB := Lib.hid hnb
            have HOWN := Lib.hid hown
            have U3 := Lib.hid u3
            have HR1 := Lib.hid hR1
            clear hnb hown u3 cT hR1 hR2
            have hz2 := GG.out.size
            have hz3 := U3.out.size
            have hRz := (HOWN.out.lt R rfl)
            have HSET : Hid (MpB S0 H N x us (j + 1) (((mpF tr D done).app (.cons t2.1 t2.2 .nil)).app r) (.pointer (some ⟨w2.heap.size, 0, none⟩)) (w3.setCell ⟨R, j, none⟩ (.pointer (some ⟨q2, o2, none⟩)))) := Lib.hid (MpB.set HML.out (by omega) (by omega) HNB.out HOWN.out rfl (y := y) (l := l) (by
              rw [HDN.out, ← HKS.out]
              exact HUS.out.keep (fun _ h => .inl h) fun b hb => (U3.out.block b (by have := HSR.out b hb; omega)).trans (G2.out.block b (HS0.out b hb) (fun e => by have e : b = F := e; exact HF0.out (e ▸ hb)))) (H2.out.keep (fun q' h => by
              rcases h with h | ⟨h1, h2⟩
              · exact .inl h
              · exact .inr ⟨by omega, by omega, by omega, by omega⟩) fun b hb => U3.out.block b (by
              rcases hb with h | ⟨_, h⟩
              · have := HSR.out b h; omega
              · exact h)) HSH.out)
            have HGS : Hid (Gs (On F) w (w3.setCell ⟨R, j, none⟩ (.pointer (some ⟨q2, o2, none⟩)))) := Lib.hid ((G2.out.trans (Gs.of U3.out)).set _ _ (.inr (by rw [HH.out]; simp only; omega)))
            have HJS : Hid (JS F ty val (w3.setCell ⟨R, j, none⟩ (.pointer (some ⟨q2, o2, none⟩))) s2) := Lib.hid (JS.keep J2.out ((Below.heap_setCell _ _ _ _ (by have := HFH.out; simp only; omega)).trans (U3.out.block F (by have := HFH.out; omega))))
            go_wp2_with fail
            go_roundw
            case rel => exact ⟨j + 1, done.app (.cons y l .nil), r, by go_num, by rw [Fr.len_app, HK1.out]; rfl, by rw [HKS.out, Fr.app_cons], HGS.out, by rw [HF2.out]; exact HJS.out, .inr (by rw [HT2.out]; exact HSET.out)⟩
            case measure => simp [intOf]; omega
        · obtain ⟨M, R, c2, xs, rfl, k2, k3, hnb0, hown0, k6, k7⟩ := hB
          have HNB0 := Lib.hid hnb0
          have HOWN0 := Lib.hid hown0
          have HD6 := Lib.hid k6
          have HP7 := Lib.hid k7
          have hRr := (hown0.lt R rfl).2
          clear hnb0 hown0 k6 k7
          go_wp2_with fail
          refine cI.mono ?_
          rintro e w2 ⟨v2, rfl, g2, j2, h2, hsame⟩
          have G2 := Lib.hid (HGR.out.trans g2)
          have J2 := Lib.hid j2
          have hnb : Nb w2 M x (.slice (some ⟨R, 0, none⟩) N c2) := g2.row HNB0.out (fun e => by have e : M = F := e; have := HFH.out; omega)
          have hown := own_eq (w' := w2) HOWN0.out (fun k hk => by
            injection hk with hk
            have hk : R = k := hk
            exact g2.block k (by omega) (fun e => by have e : k = F := e; have := HFH.out; omega))
          have k7 := PtF.keep (w' := w2) (S' := Sd S0 H M R w2) (fun q' h => Sd.gs h g2.size) (fun b hb => by
            rcases hb with hb | ⟨b1, b2, _⟩
            · exact g2.block b (HSR.out b hb) (fun e => by have e : b = F := e; exact HF0.out (e ▸ hb))
            · exact g2.block b b2 (fun e => by have e : b = F := e; have := HFH.out; omega)) HP7.out
          have HNB := Lib.hid hnb
          have HOWN := Lib.hid hown
          have HP := Lib.hid k7
          have cn := hnb.cell.1
          have cj := hown.cellAt j (by omega)
          rw [drop_get HD6.out HUS1.out] at cj
          have fj := hown.frozenAt j
          obtain ⟨q2, o2, rfl⟩ := h2.ptr
          clear hnb hown k7
          by_cases heq : (⟨q2, o2, none⟩ : Addr) = ⟨q1, o1, none⟩
          · have htt := hsame (by rw [heq])
            injection heq with e1 e2
            subst e1 e2 htt
            have hps := ptr_same w2 ⟨q2, o2, none⟩
            have HMN : Hid (MpB S0 H N x us (j + 1) ((mpF tr D (done.app (.cons y l .nil))).app r) (.pointer (some ⟨M, 0, none⟩)) w2) := Lib.hid (by
              rw [HT2.out, ← Fr.app_cons]
              exact ⟨M, R, c2, xs, rfl, k2, k3, HNB.out, HOWN.out, drop_next HD6.out, HP.out⟩)
            clear g2 j2 h2 hsame cI
            go_wp2_with fail
            go_roundw
            case rel => exact ⟨j + 1, done.app (.cons y l .nil), r, by go_num, by rw [Fr.len_app, HK1.out]; rfl, by rw [HKS.out, Fr.app_cons], G2.out, by rw [HF2.out]; exact J2.out, .inr HMN.out⟩
            case measure => simp [intOf]; omega
          · have hpo := ptr_other (w := w2) heq h2.pln (by
              obtain ⟨xs, te, hx⟩ := HPL.out
              have hqq := (HUT.out wr HGR.out).open
              obtain ⟨q', o', _, _, hqe, hqS, _⟩ := hqq
              injection hqe with hqe
              injection hqe with hqe
              injection hqe with e1 e2
              subst e1 e2
              exact ⟨xs, te, g2.row hx (fun e => by have e : q1 = F := e; exact HF0.out (e ▸ hqS))⟩)
            have hpn := ptr_other (w := w2) (a := ⟨M, 0, none⟩) (b := ⟨q, p, none⟩) (fun e => by injection e with e; rw [HH.out] at hqH; omega) ⟨_, _, HNB.out⟩ (by
              obtain ⟨xs, te, hx⟩ := HIN.out.pln
              exact ⟨xs, te, G2.out.row hx (fun e => hqF e)⟩)
            have hz2 := g2.size
            have HSET : Hid (MpB S0 H N x us (j + 1) (((mpF tr D done).app (.cons t2.1 t2.2 .nil)).app r) (.pointer (some ⟨M, 0, none⟩)) (w2.setCell ⟨R, j, none⟩ (.pointer (some ⟨q2, o2, none⟩)))) := Lib.hid (MpB.set HML.out k2 k3 HNB.out HOWN.out HD6.out HP.out (h2.keep (fun q' h => by
              rcases h with h | ⟨h1, h2⟩
              · exact .inl h
              · exact .inr ⟨by omega, by omega, by have := heap_lt HNB0.out; omega, by omega⟩) fun _ _ => rfl) HSH.out)
            have HGS : Hid (Gs (On F) w (w2.setCell ⟨R, j, none⟩ (.pointer (some ⟨q2, o2, none⟩)))) := Lib.hid (G2.out.set _ _ (.inr (by rw [HH.out]; simp only; omega)))
            have HJS : Hid (JS F ty val (w2.setCell ⟨R, j, none⟩ (.pointer (some ⟨q2, o2, none⟩))) s2) := Lib.hid (JS.keep J2.out (Below.heap_setCell _ _ _ _ (by have := HFH.out; simp only; omega)))
            clear g2 j2 h2 hsame cI hcell hkF
            go_wp2_with fail
            go_roundw
            case rel => exact ⟨j + 1, done.app (.cons y l .nil), r, by go_num, by rw [Fr.len_app, HK1.out]; rfl, by rw [HKS.out, Fr.app_cons], HGS.out, by rw [HF2.out]; exact HJS.out, .inr (by rw [HT2.out]; exact HSET.out)⟩
            case measure => simp [intOf]; omega
      · have h0 : rest = .nil := by
          cases rest with
          | nil => rfl
          | cons y l r => exact absurd (Nat.succ_pos _) hlt
        subst h0
        have hkd : ks = done := by rw [hks, Fr.app_nil]
        have hjz : ¬ (j : Int) < (N : Int) := by simp only [Fr.len] at hl; omega
        rw [← hkd] at hm
        have HM := Lib.hid hm
        have HKD := Lib.hid hkd
        clear hks hj hl hs hgr hjr hm hkd
        rcases HM.out with ⟨rfl, hdn⟩ | hB
        · have HDN := Lib.hid hdn
          clear hdn
          go_wp2_with fail
          go_ret
          refine ⟨_, rfl, HGR.out, by rw [HKD.out]; exact HJR.out, ?_, fun _ => by rw [HDN.out]⟩
          rw [HDN.out]
          exact HIN.out.keep (fun q' h => .inl h) fun b hb => HGR.out.block b (HS0.out b hb) (fun e => by have e : b = F := e; exact HF0.out (e ▸ hb))
        · obtain ⟨M, R, c2, xs, rfl, k2, k3, hnb, hown, k6, k7⟩ := hB
          have hRz := (hown.lt R rfl).2
          have HTREE : Hid (InT wr (Sin S0 w wr) (.pointer (some ⟨M, 0, none⟩)) (x, mpF tr D ks)) := Lib.hid (OwnT.tree (x := x) (f := mpF tr D ks) (v := .slice (some ⟨R, 0, none⟩) N c2) (e := 25) (base := M + 1) ⟨xs, by rw [mpF_len, HNN.out]; exact hown, by
            rw [Fr.app_nil] at k7
            exact k7.keep (fun q' h => by
              rcases h with h | ⟨h1, h2, _⟩
              · exact .inl h
              · exact .inr ⟨by rw [HH.out]; exact h1, h2⟩) fun _ _ => rfl⟩ hnb (.inr ⟨by rw [HH.out]; exact k2, by omega⟩) (fun g hg => by
              injection hg with hg
              have hg : R = g := hg
              subst hg
              exact .inr ⟨by rw [HH.out]; omega, hRz⟩))
          have hMq : M ≠ q := fun e => by rw [HH.out] at hqH; omega
          clear hnb hown k6 k7
          go_wp2_with fail
          go_ret
          exact ⟨_, rfl, HGR.out, by rw [HKD.out]; exact HJR.out, HTREE.out, fun e => by injection e with e; injection e with e; injection e with e; exact absurd e hMq⟩
theorem mapAll {σ : Type} {F : Nat} {ty : TypeId} {val : σ → Value} {S0 : Nat → Prop} {w0 : World} {st : σ → Nod → Nat → σ} {tr : Nod → Nat → Tr} {g : FuncId} {cap : Array Value} (hE : EntF g) (hC : CloAt F ty val S0 w0 st tr g cap) (hS0 : Bel S0 w0.heap.size) (hF0 : ¬ S0 F) (hFw : F < w0.heap.size) :
    ∀ n, n ≤ 1000000 → MapAt n F ty val S0 w0 st tr g cap
  | 0, _ => fun t h => absurd h (by unfold szT; omega)
  | n + 1, hbig => by
    rintro ⟨x, ks⟩ hn hv d hd s w v hg hj hin
    by_cases h : x.k = 110
    · obtain ⟨h1, h2, h3, rfl⟩ := hv.1.2 h
      exact mapVar hE hC x h h1 h2 h3 hv.1.1 d (by omega) s w v hg hj hin
    · exact mapNode (mapAll hE hC hS0 hF0 hFw n (by omega)) hS0 hF0 hFw x ks h hn hv d hd (by omega) s w v hg hj hin
end Go.Proofs.YtmiicfdigkkbdaaDoor
